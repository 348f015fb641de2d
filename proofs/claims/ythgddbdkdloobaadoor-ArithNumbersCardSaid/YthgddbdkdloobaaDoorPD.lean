import Derived.Test.YthgddbdkdloobaaDoorPC
namespace Go.Proofs.YthgddbdkdloobaaDoor
open Go.RowKit
set_option linter.unusedVariables false

theorem info9 : (Tryd.prog.info? 9).map (fun i => (i.zero, i.size, i.bytes)) = some (some (.string ⟨#[]⟩), 1, 16) := by kernel_rfl
def encS (c : UInt8) : Value := .string ⟨#[c]⟩
theorem skp_skp (r : Bs) : skp (skp r) = skp r := by
  unfold skp
  induction r with
  | nil => rfl
  | cons c t ih =>
    rw [List.dropWhile_cons]
    cases hc : isBl c with
    | true => simpa using ih
    | false => simp [hc]
theorem ev_pre_skp {lim : Bool} {V : Bs → Option Int} {n : Nat} {r : Bs} {z : Bool} {d : Nat} : ev lim V n .pre (skp r) z d = ev lim V n .pre r z d := by
  cases n with
  | zero => rfl
  | succ n => rw [ev_pre, ev_pre, skp_skp]
structure PreF (s : ByteArray) (pv : Value) (d B : Nat) (w : World) (V : Bs → Option Int) (n : Nat) (r : Bs) (z : Bool) (os : Bs) (A : Option Addr) (c m : Nat) (r' : Bs) (q : Nat) (wr : World) : Prop where
  own : wr.ownsRow w.heap.size 9 1 (.slice A os.length c) os.length (os.map encS)
  kp : Kp B w wr
  rf : Rf wr B s pv q d 0 z
  at' : At s r' q
  skp' : skp r' = r'
  eqn : ev true V n .pre r z d = mapR (unAll os) (ev true V m .pre r' z d)
  wnt : want .pre r' ≤ m
  mle : m ≤ n
  len : os.length + r'.length ≤ r.length
set_option maxRecDepth 100000 in
set_option maxHeartbeats 4000000 in
theorem one_step (n : Nat) (ih : ∀ m, m < n → F44 m) : F30 n := by
  intro B s l pv r p d z w hs hat hd hw hR hP
  have hBw : B < w.heap.size := hR.lt
  obtain ⟨V, hV⟩ : ∃ V, Vl l = V := ⟨_, rfl⟩
  have HIH := Lib.hid ih
  have HV := Lib.hid hV
  rw [hV]
  obtain ⟨i9, hi, hz0, hz1, hz2⟩ := info_parts info9
  have hsign : Calls Tryd.prog 23 #[.pointer (some ⟨B, 0, none⟩)] w fun e w' => ∃ q, q ≤ s.size ∧ e = .returned (.string (opS s q)) ∧ Hid (PreF s pv d B w V n r z [] none 0 n (skp r) q w') := by
    refine (sign_any s pv p d 0 z B w hs hat.1 hR).mono ?_
    rintro e w' ⟨rfl, hK, hR2⟩
    refine ⟨spos s p, (spos_le s p hat.1).2, rfl, ⟨World.ownsRow_nil _ _ _ _, hK, hR2, hat.skp, skp_skp r, ?_, ?_, Nat.le_refl _, ?_⟩⟩
    · rw [ev_pre_skp, mapR_id]
    · have := skp_len r; simp only [want] at hw ⊢; omega
    · have := skp_len r; simp; omega
  have HSIGN := Lib.hid hsign
  have HP := Lib.hid hP
  have hrl := hat.len
  have hr1 : r.length ≤ 1000000 := by omega
  obtain ⟨RES, hRES⟩ : ∃ RES, ev true V n .pre r z d = RES := ⟨_, rfl⟩
  have HRES := Lib.hid hRES
  rw [hRES]
  clear ih hV hat hR hP hw hRES hrl hsign
  go_enter Tryd.func30, Tryd.ntmps30
  go_wp2_with fail
  refine HSIGN.out.mono ?_
  rintro e w1 ⟨q0, hq0, rfl, H0⟩
  go_wp2_with fail
  go_loopw [3, 4] (fun ahead op wr => ∃ (os : Bs) (A : Option Addr) (c m : Nat) (r' : Bs) (q : Nat), q ≤ s.size ∧ ahead = .slice A os.length c ∧ op = .string (opS s q) ∧ Hid (PreF s pv d B w V n r z os A c m r' q wr)) (fun _ _ wr => s.size - atW B 2 wr)
  case atStart => exact ⟨[], none, 0, n, skp r, q0, hq0, rfl, rfl, H0⟩
  case round =>
    obtain ⟨os, A, c, m, r', q, hq, rfl, rfl, HH⟩ := hrel
    have hol : os.length ≤ 1000000 := by have := HH.out.len; omega
    have c2 := HH.out.rf.c2
    have f2 := HH.out.rf.f2
    have HM0 : Hid (atW B 2 wr = q) := atW_of c2
    have ho := opS_data s q
    rw [HH.out.at'.2] at ho
    have HOWN := Lib.hid HH.out.own
    obtain ⟨O, hO⟩ : ∃ O, opS s q = O := ⟨_, rfl⟩
    rw [hO] at ho ⊢
    have HO := Lib.hid ho
    have HOS := Lib.hid hO
    clear hO ho
    rcases un_cases O with rfl | rfl | rfl | rfl | ⟨hno, t0, t1, t2, t3⟩
    · -- 43
      have HE := HO.out
      have hone : 1 ≤ r'.length := by
        have := (opL_len r').1
        rw [← HE] at this
        simpa using this
      have hlen2 := HH.out.at'.len
      have hq2s : q + 1 ≤ s.size := by omega
      have hqI : (q : Int) + 1 ≤ 1000000 := by omega
      have HAT4 := Lib.hid (HH.out.at'.drop (k := 1) (by omega))
      obtain ⟨m', hm'⟩ : ∃ m', m = m' + 1 := by
        have h1 := HH.out.wnt
        simp only [want] at h1
        exact ⟨m - 1, by omega⟩
      subst hm'
      have HEV : Hid (ev true V (m' + 1) .pre r' z d = mapR (un 43) (ev true V m' .pre (skp (r'.drop 1)) z d)) := by
        have h := ev_pre_un (lim := true) (V := V) (n := m') (r := r') (z := z) (d := d) (o := 43) (by rw [HH.out.skp']; exact HE.symm) rfl
        rw [HH.out.skp'] at h
        rw [Hid, h, ev_pre_skp]
      have HW : Hid (want .pre (skp (r'.drop 1)) ≤ m' ∧ os.length + 1 + (skp (r'.drop 1)).length ≤ r.length) := by
        have h1 := HH.out.wnt
        have h2 := HH.out.len
        have h3 := skp_len (r'.drop 1)
        rw [List.length_drop] at h3
        simp only [want] at h1
        simp only [Hid, want]
        omega
      clear HE hone hlen2
      go_wp2_with (at_builtin; refine wpList_append_own _ rfl _ _ 31 rfl w.heap.size 9 i9 (.string ⟨#[]⟩) 1 16 Tryd.underlying31 hi hz0 hz1 hz2 rfl (by decide) _ _ _ rfl (HOWN.out.alloc _) ⟨wr.heap.size, 0, none⟩ 1 1 [encS 43] rfl rfl (fun j u hj => by match j, hj with | 0, hj => simp at hj; subst hj; simp [Addr.add]; rfl) (fun u hu => by simp at hu; subst hu; rfl) (by unfold maxLen; omega) (by omega) (by have := HH.out.kp.size; simp; omega) ?_)
      intro vm w3 hown3 hg3 _
      obtain ⟨g, cap, ea, hgb, hgl⟩ := hown3.form (by omega)
      subst ea
      have hnB : (Value.slice A os.length c).ownBlock ≠ some B := fun e => absurd (HOWN.out.lt B e).1 (by omega)
      have hR3 := (HH.out.rf.alloc _).grown hg3 hnB
      have hK3 := (HH.out.kp.alloc _).grown hg3 (fun k hk => (HOWN.out.lt k hk).1)
      clear c2 f2
      have c2 := hR3.c2
      have f2 := hR3.f2
      have HR3 := Lib.hid hR3
      have HK3 := Lib.hid hK3
      have HOWN3 := Lib.hid hown3
      clear hR3 hK3 hown3 hg3 hnB
      go_wp2_with fail
      have HR5 := HR3.out.set2 (q + 1)
      refine (sign_any s pv (q + 1) d 0 z B _ hs hq2s HR5).mono ?_
      rintro e w5 ⟨rfl, hK5, hR5⟩
      have HR6 := Lib.hid hR5
      have HK6 := Lib.hid ((HK3.out.trans (Kp.setCell B 2 w3 (.int .i64 ((q + 1 : Nat) : Int)))).trans hK5)
      have HOWN6 := Lib.hid (own_kept (own_kept HOWN3.out (Kp.setCell B 2 w3 (.int .i64 ((q + 1 : Nat) : Int))) hBw) hK5 hBw)
      have hsp := spos_le s (q + 1) hq2s
      have HAT6 := Lib.hid HAT4.out.skp
      obtain ⟨q2, hq2⟩ : ∃ q2, spos s (q + 1) = q2 := ⟨_, rfl⟩
      rw [hq2] at HR6 hsp HAT6 ⊢
      clear hK5 hR5 hq2 HR5 c2 f2
      go_wp2_with fail
      refine ⟨⟨os ++ [43], some ⟨g, 0, none⟩, cap, m', skp (r'.drop 1), q2, hsp.2, by simp, rfl, ?_⟩, ?_⟩
      · refine ⟨?_, HK6.out, HR6.out, HAT6.out, skp_skp _, ?_, HW.out.1, by have := HH.out.mle; omega, by have := HW.out.2; simp at this ⊢; omega⟩
        · rw [List.map_append, List.length_append]
          exact HOWN6.out
        · rw [HH.out.eqn, HEV.out, mapR_map]
          congr 1
          funext v
          exact (unAll_snoc os 43 v).symm
      · rw [HM0.out, atW_of HR6.out.c2]; omega
    · -- 45
      have HE := HO.out
      have hone : 1 ≤ r'.length := by
        have := (opL_len r').1
        rw [← HE] at this
        simpa using this
      have hlen2 := HH.out.at'.len
      have hq2s : q + 1 ≤ s.size := by omega
      have hqI : (q : Int) + 1 ≤ 1000000 := by omega
      have HAT4 := Lib.hid (HH.out.at'.drop (k := 1) (by omega))
      obtain ⟨m', hm'⟩ : ∃ m', m = m' + 1 := by
        have h1 := HH.out.wnt
        simp only [want] at h1
        exact ⟨m - 1, by omega⟩
      subst hm'
      have HEV : Hid (ev true V (m' + 1) .pre r' z d = mapR (un 45) (ev true V m' .pre (skp (r'.drop 1)) z d)) := by
        have h := ev_pre_un (lim := true) (V := V) (n := m') (r := r') (z := z) (d := d) (o := 45) (by rw [HH.out.skp']; exact HE.symm) rfl
        rw [HH.out.skp'] at h
        rw [Hid, h, ev_pre_skp]
      have HW : Hid (want .pre (skp (r'.drop 1)) ≤ m' ∧ os.length + 1 + (skp (r'.drop 1)).length ≤ r.length) := by
        have h1 := HH.out.wnt
        have h2 := HH.out.len
        have h3 := skp_len (r'.drop 1)
        rw [List.length_drop] at h3
        simp only [want] at h1
        simp only [Hid, want]
        omega
      clear HE hone hlen2
      go_wp2_with (at_builtin; refine wpList_append_own _ rfl _ _ 31 rfl w.heap.size 9 i9 (.string ⟨#[]⟩) 1 16 Tryd.underlying31 hi hz0 hz1 hz2 rfl (by decide) _ _ _ rfl (HOWN.out.alloc _) ⟨wr.heap.size, 0, none⟩ 1 1 [encS 45] rfl rfl (fun j u hj => by match j, hj with | 0, hj => simp at hj; subst hj; simp [Addr.add]; rfl) (fun u hu => by simp at hu; subst hu; rfl) (by unfold maxLen; omega) (by omega) (by have := HH.out.kp.size; simp; omega) ?_)
      intro vm w3 hown3 hg3 _
      obtain ⟨g, cap, ea, hgb, hgl⟩ := hown3.form (by omega)
      subst ea
      have hnB : (Value.slice A os.length c).ownBlock ≠ some B := fun e => absurd (HOWN.out.lt B e).1 (by omega)
      have hR3 := (HH.out.rf.alloc _).grown hg3 hnB
      have hK3 := (HH.out.kp.alloc _).grown hg3 (fun k hk => (HOWN.out.lt k hk).1)
      clear c2 f2
      have c2 := hR3.c2
      have f2 := hR3.f2
      have HR3 := Lib.hid hR3
      have HK3 := Lib.hid hK3
      have HOWN3 := Lib.hid hown3
      clear hR3 hK3 hown3 hg3 hnB
      go_wp2_with fail
      have HR5 := HR3.out.set2 (q + 1)
      refine (sign_any s pv (q + 1) d 0 z B _ hs hq2s HR5).mono ?_
      rintro e w5 ⟨rfl, hK5, hR5⟩
      have HR6 := Lib.hid hR5
      have HK6 := Lib.hid ((HK3.out.trans (Kp.setCell B 2 w3 (.int .i64 ((q + 1 : Nat) : Int)))).trans hK5)
      have HOWN6 := Lib.hid (own_kept (own_kept HOWN3.out (Kp.setCell B 2 w3 (.int .i64 ((q + 1 : Nat) : Int))) hBw) hK5 hBw)
      have hsp := spos_le s (q + 1) hq2s
      have HAT6 := Lib.hid HAT4.out.skp
      obtain ⟨q2, hq2⟩ : ∃ q2, spos s (q + 1) = q2 := ⟨_, rfl⟩
      rw [hq2] at HR6 hsp HAT6 ⊢
      clear hK5 hR5 hq2 HR5 c2 f2
      go_wp2_with fail
      refine ⟨⟨os ++ [45], some ⟨g, 0, none⟩, cap, m', skp (r'.drop 1), q2, hsp.2, by simp, rfl, ?_⟩, ?_⟩
      · refine ⟨?_, HK6.out, HR6.out, HAT6.out, skp_skp _, ?_, HW.out.1, by have := HH.out.mle; omega, by have := HW.out.2; simp at this ⊢; omega⟩
        · rw [List.map_append, List.length_append]
          exact HOWN6.out
        · rw [HH.out.eqn, HEV.out, mapR_map]
          congr 1
          funext v
          exact (unAll_snoc os 45 v).symm
      · rw [HM0.out, atW_of HR6.out.c2]; omega
    · -- 33
      have HE := HO.out
      have hone : 1 ≤ r'.length := by
        have := (opL_len r').1
        rw [← HE] at this
        simpa using this
      have hlen2 := HH.out.at'.len
      have hq2s : q + 1 ≤ s.size := by omega
      have hqI : (q : Int) + 1 ≤ 1000000 := by omega
      have HAT4 := Lib.hid (HH.out.at'.drop (k := 1) (by omega))
      obtain ⟨m', hm'⟩ : ∃ m', m = m' + 1 := by
        have h1 := HH.out.wnt
        simp only [want] at h1
        exact ⟨m - 1, by omega⟩
      subst hm'
      have HEV : Hid (ev true V (m' + 1) .pre r' z d = mapR (un 33) (ev true V m' .pre (skp (r'.drop 1)) z d)) := by
        have h := ev_pre_un (lim := true) (V := V) (n := m') (r := r') (z := z) (d := d) (o := 33) (by rw [HH.out.skp']; exact HE.symm) rfl
        rw [HH.out.skp'] at h
        rw [Hid, h, ev_pre_skp]
      have HW : Hid (want .pre (skp (r'.drop 1)) ≤ m' ∧ os.length + 1 + (skp (r'.drop 1)).length ≤ r.length) := by
        have h1 := HH.out.wnt
        have h2 := HH.out.len
        have h3 := skp_len (r'.drop 1)
        rw [List.length_drop] at h3
        simp only [want] at h1
        simp only [Hid, want]
        omega
      clear HE hone hlen2
      go_wp2_with (at_builtin; refine wpList_append_own _ rfl _ _ 31 rfl w.heap.size 9 i9 (.string ⟨#[]⟩) 1 16 Tryd.underlying31 hi hz0 hz1 hz2 rfl (by decide) _ _ _ rfl (HOWN.out.alloc _) ⟨wr.heap.size, 0, none⟩ 1 1 [encS 33] rfl rfl (fun j u hj => by match j, hj with | 0, hj => simp at hj; subst hj; simp [Addr.add]; rfl) (fun u hu => by simp at hu; subst hu; rfl) (by unfold maxLen; omega) (by omega) (by have := HH.out.kp.size; simp; omega) ?_)
      intro vm w3 hown3 hg3 _
      obtain ⟨g, cap, ea, hgb, hgl⟩ := hown3.form (by omega)
      subst ea
      have hnB : (Value.slice A os.length c).ownBlock ≠ some B := fun e => absurd (HOWN.out.lt B e).1 (by omega)
      have hR3 := (HH.out.rf.alloc _).grown hg3 hnB
      have hK3 := (HH.out.kp.alloc _).grown hg3 (fun k hk => (HOWN.out.lt k hk).1)
      clear c2 f2
      have c2 := hR3.c2
      have f2 := hR3.f2
      have HR3 := Lib.hid hR3
      have HK3 := Lib.hid hK3
      have HOWN3 := Lib.hid hown3
      clear hR3 hK3 hown3 hg3 hnB
      go_wp2_with fail
      have HR5 := HR3.out.set2 (q + 1)
      refine (sign_any s pv (q + 1) d 0 z B _ hs hq2s HR5).mono ?_
      rintro e w5 ⟨rfl, hK5, hR5⟩
      have HR6 := Lib.hid hR5
      have HK6 := Lib.hid ((HK3.out.trans (Kp.setCell B 2 w3 (.int .i64 ((q + 1 : Nat) : Int)))).trans hK5)
      have HOWN6 := Lib.hid (own_kept (own_kept HOWN3.out (Kp.setCell B 2 w3 (.int .i64 ((q + 1 : Nat) : Int))) hBw) hK5 hBw)
      have hsp := spos_le s (q + 1) hq2s
      have HAT6 := Lib.hid HAT4.out.skp
      obtain ⟨q2, hq2⟩ : ∃ q2, spos s (q + 1) = q2 := ⟨_, rfl⟩
      rw [hq2] at HR6 hsp HAT6 ⊢
      clear hK5 hR5 hq2 HR5 c2 f2
      go_wp2_with fail
      refine ⟨⟨os ++ [33], some ⟨g, 0, none⟩, cap, m', skp (r'.drop 1), q2, hsp.2, by simp, rfl, ?_⟩, ?_⟩
      · refine ⟨?_, HK6.out, HR6.out, HAT6.out, skp_skp _, ?_, HW.out.1, by have := HH.out.mle; omega, by have := HW.out.2; simp at this ⊢; omega⟩
        · rw [List.map_append, List.length_append]
          exact HOWN6.out
        · rw [HH.out.eqn, HEV.out, mapR_map]
          congr 1
          funext v
          exact (unAll_snoc os 33 v).symm
      · rw [HM0.out, atW_of HR6.out.c2]; omega
    · -- 126
      have HE := HO.out
      have hone : 1 ≤ r'.length := by
        have := (opL_len r').1
        rw [← HE] at this
        simpa using this
      have hlen2 := HH.out.at'.len
      have hq2s : q + 1 ≤ s.size := by omega
      have hqI : (q : Int) + 1 ≤ 1000000 := by omega
      have HAT4 := Lib.hid (HH.out.at'.drop (k := 1) (by omega))
      obtain ⟨m', hm'⟩ : ∃ m', m = m' + 1 := by
        have h1 := HH.out.wnt
        simp only [want] at h1
        exact ⟨m - 1, by omega⟩
      subst hm'
      have HEV : Hid (ev true V (m' + 1) .pre r' z d = mapR (un 126) (ev true V m' .pre (skp (r'.drop 1)) z d)) := by
        have h := ev_pre_un (lim := true) (V := V) (n := m') (r := r') (z := z) (d := d) (o := 126) (by rw [HH.out.skp']; exact HE.symm) rfl
        rw [HH.out.skp'] at h
        rw [Hid, h, ev_pre_skp]
      have HW : Hid (want .pre (skp (r'.drop 1)) ≤ m' ∧ os.length + 1 + (skp (r'.drop 1)).length ≤ r.length) := by
        have h1 := HH.out.wnt
        have h2 := HH.out.len
        have h3 := skp_len (r'.drop 1)
        rw [List.length_drop] at h3
        simp only [want] at h1
        simp only [Hid, want]
        omega
      clear HE hone hlen2
      go_wp2_with (at_builtin; refine wpList_append_own _ rfl _ _ 31 rfl w.heap.size 9 i9 (.string ⟨#[]⟩) 1 16 Tryd.underlying31 hi hz0 hz1 hz2 rfl (by decide) _ _ _ rfl (HOWN.out.alloc _) ⟨wr.heap.size, 0, none⟩ 1 1 [encS 126] rfl rfl (fun j u hj => by match j, hj with | 0, hj => simp at hj; subst hj; simp [Addr.add]; rfl) (fun u hu => by simp at hu; subst hu; rfl) (by unfold maxLen; omega) (by omega) (by have := HH.out.kp.size; simp; omega) ?_)
      intro vm w3 hown3 hg3 _
      obtain ⟨g, cap, ea, hgb, hgl⟩ := hown3.form (by omega)
      subst ea
      have hnB : (Value.slice A os.length c).ownBlock ≠ some B := fun e => absurd (HOWN.out.lt B e).1 (by omega)
      have hR3 := (HH.out.rf.alloc _).grown hg3 hnB
      have hK3 := (HH.out.kp.alloc _).grown hg3 (fun k hk => (HOWN.out.lt k hk).1)
      clear c2 f2
      have c2 := hR3.c2
      have f2 := hR3.f2
      have HR3 := Lib.hid hR3
      have HK3 := Lib.hid hK3
      have HOWN3 := Lib.hid hown3
      clear hR3 hK3 hown3 hg3 hnB
      go_wp2_with fail
      have HR5 := HR3.out.set2 (q + 1)
      refine (sign_any s pv (q + 1) d 0 z B _ hs hq2s HR5).mono ?_
      rintro e w5 ⟨rfl, hK5, hR5⟩
      have HR6 := Lib.hid hR5
      have HK6 := Lib.hid ((HK3.out.trans (Kp.setCell B 2 w3 (.int .i64 ((q + 1 : Nat) : Int)))).trans hK5)
      have HOWN6 := Lib.hid (own_kept (own_kept HOWN3.out (Kp.setCell B 2 w3 (.int .i64 ((q + 1 : Nat) : Int))) hBw) hK5 hBw)
      have hsp := spos_le s (q + 1) hq2s
      have HAT6 := Lib.hid HAT4.out.skp
      obtain ⟨q2, hq2⟩ : ∃ q2, spos s (q + 1) = q2 := ⟨_, rfl⟩
      rw [hq2] at HR6 hsp HAT6 ⊢
      clear hK5 hR5 hq2 HR5 c2 f2
      go_wp2_with fail
      refine ⟨⟨os ++ [126], some ⟨g, 0, none⟩, cap, m', skp (r'.drop 1), q2, hsp.2, by simp, rfl, ?_⟩, ?_⟩
      · refine ⟨?_, HK6.out, HR6.out, HAT6.out, skp_skp _, ?_, HW.out.1, by have := HH.out.mle; omega, by have := HW.out.2; simp at this ⊢; omega⟩
        · rw [List.map_append, List.length_append]
          exact HOWN6.out
        · rw [HH.out.eqn, HEV.out, mapR_map]
          congr 1
          funext v
          exact (unAll_snoc os 126 v).symm
      · rw [HM0.out, atW_of HR6.out.c2]; omega
    · -- none
      have HNO : Hid (isUn (opL (skp r')) = false) := by rw [Hid, HH.out.skp', ← HO.out]; exact hno
      obtain ⟨m', hm'⟩ : ∃ m', m = m' + 1 := by
        have h1 := HH.out.wnt
        simp only [want] at h1
        exact ⟨m - 1, by omega⟩
      subst hm'
      have hcall := HIH.out m' (by have := HH.out.mle; omega) B s l pv r' q d z wr O hs HH.out.at' HO.out hd (by
        have h1 := HH.out.wnt
        simp only [want] at h1 ⊢
        omega) HH.out.rf (HP.out.kept HH.out.kp)
      rw [HV.out] at hcall
      obtain ⟨res, hres⟩ : ∃ res, ev true V m' .opd r' z d = res := ⟨_, rfl⟩
      have HE : Hid (RES = mapR (unAll os) res) := by
        rw [Hid, ← HRES.out, HH.out.eqn, ev_pre_no HNO.out, HH.out.skp', hres]
      rw [hres] at hcall
      have HCALL := Lib.hid hcall
      clear hcall hres hno c2 f2
      go_wp2_with fail
      refine HCALL.out.mono ?_
      rintro e w3 ⟨hK3, v0, rfl, hpost⟩
      have hown3 := own_kept HOWN.out hK3 hBw
      have HFIN : Hid (PostF s pv d B w RES (.returned (.int .i64 (unAll os v0))) w3) := by
        rw [HE.out]
        refine ⟨HH.out.kp.trans hK3, _, rfl, ?_⟩
        cases res with
        | error k => exact hpost
        | ok x =>
          obtain ⟨v1, r1, z1⟩ := x
          obtain ⟨rfl, h2⟩ := hpost
          exact ⟨rfl, h2⟩
      have HOWN3 := Lib.hid hown3
      clear hK3 hpost hown3 HE HCALL
      go_wp2_with fail
      go_loop [5, 6] (fun v i => ∃ (k : Nat) (j : Int), j = (k : Int) - 1 ∧ k ≤ os.length ∧ v = .int .i64 ((os.drop k).foldr un v0) ∧ i = .int .i64 j) (fun _ i => (intOf i + 1).toNat)
      case atStart => exact ⟨os.length, _, rfl, Nat.le_refl _, by simp, rfl⟩
      case round =>
        obtain ⟨k, j, hj, hk, rfl, rfl⟩ := hrel
        cases k with
        | zero =>
          have hneg : ¬ (0 : Int) ≤ j := by omega
          have hdec : decide ((0 : Int) ≤ j) = false := by simpa using hneg
          clear hj
          go_wp2_with fail
          go_ret
          exact HFIN.out
        | succ k' =>
          obtain rfl : j = (k' : Int) := by omega
          obtain ⟨g, cap, ea, hgb, hgl⟩ := HOWN3.out.form (by omega)
          injection ea with ea1 ea2 ea3
          subst ea1
          have hcell := HOWN3.out.cells (g := g) rfl k' (encS os[k']) (by rw [List.getElem?_map, List.getElem?_eq_getElem (by omega)]; rfl)
          have HU : Hid ((os.drop k').foldr un v0 = un os[k'] ((os.drop (k' + 1)).foldr un v0)) := by
            rw [Hid, List.drop_eq_getElem_cons (by omega : k' < os.length)]; rfl
          obtain ⟨o, ho⟩ : ∃ o, os[k'] = o := ⟨_, rfl⟩
          rw [ho] at hcell HU
          obtain ⟨x, hx⟩ : ∃ x, (os.drop (k' + 1)).foldr un v0 = x := ⟨_, rfl⟩
          rw [hx] at HU ⊢
          have hcell2 : w3.cell? ⟨g, k', none⟩ = some (.string ⟨#[o]⟩) := by
            have e : (⟨g, 0, none⟩ : Addr).add k' = ⟨g, k', none⟩ := by unfold Addr.add; split <;> simp_all
            rw [e] at hcell
            exact hcell
          have hkI : (k' : Int) < (os.length : Int) := by omega
          have hkJ : (k' : Int) ≤ 1000000 := by omega
          have hod : (⟨#[o]⟩ : ByteArray).data.toList = [o] := rfl
          clear hcell hx ho ea2 ea3 hj
          by_cases h45 : o = 45
          · subst h45
            have HF : Hid ((os.drop k').foldr un v0 = wrap64 (-x)) := HU.out.trans rfl
            clear hod
            go_wp2_with fail
            exact ⟨⟨k', _, rfl, by omega, by rw [HF.out], rfl⟩, by simp [intOf]⟩
          · by_cases h33 : o = 33
            · subst h33
              have HF : Hid ((os.drop k').foldr un v0 = tr (x == 0)) := HU.out.trans rfl
              have HT := Lib.hid (fun w => Reftruth_any (x == 0) w)
              clear hod
              go_wp2_with fail
              refine (HT.out _).mono ?_
              rintro e w4 ⟨rfl, h⟩
              obtain rfl := h.symm
              go_wp2_with fail
              exact ⟨⟨k', _, rfl, by omega, by rw [HF.out], rfl⟩, by simp [intOf]⟩
            · by_cases h126 : o = 126
              · subst h126
                have HF : Hid ((os.drop k').foldr un v0 = bits .xor .i64 (-1) x) := HU.out.trans rfl
                clear hod
                go_wp2_with fail
                exact ⟨⟨k', _, rfl, by omega, by rw [HF.out]; rfl, rfl⟩, by simp [intOf]⟩
              · have HF : Hid ((os.drop k').foldr un v0 = x) := HU.out.trans (by simp [un, h45, h33, h126])
                obtain ⟨Oi, hOi⟩ : ∃ Oi : ByteArray, ⟨#[o]⟩ = Oi := ⟨_, rfl⟩
                rw [hOi] at hcell2 hod
                have b1 : (Oi.toList == [45]) = false := by rw [str_eq, hod, decide_eq_false (by simpa using h45)]
                have b2 : (Oi.toList == [33]) = false := by rw [str_eq, hod, decide_eq_false (by simpa using h33)]
                have b3 : (Oi.toList == [126]) = false := by rw [str_eq, hod, decide_eq_false (by simpa using h126)]
                clear hod hOi
                go_wp2_with fail
                exact ⟨⟨k', _, rfl, by omega, by rw [HF.out], rfl⟩, by simp [intOf]⟩
end Go.Proofs.YthgddbdkdloobaaDoor
