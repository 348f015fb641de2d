import Derived.Test.YthgddbdkdloobaaDoorK
import Derived.Deep.AppendLies
import Derived.WalkSpells
import Derived.SliceStrings
import Derived.WalkMore
import Derived.OwnWalk
namespace Go.Proofs.YthgddbdkdloobaaDoor
open Go.RowKit
set_option linter.unusedVariables false

theorem info5 : (Tryd.prog.info? 5).map (fun i => (i.zero, i.size, i.bytes)) = some (some (.int .u8 0), 1, 1) := by kernel_rfl
theorem own_kept {w w' : World} {base B : Nat} {e : TypeId} {size : Nat} {v : Value} {n : Nat} {xs : List Value} (h : w.ownsRow base e size v n xs) (hk : Kp B w w') (hB : B < base) : w'.ownsRow base e size v n xs := by
  refine ⟨h.1, ?_⟩
  rcases h.2 with hn | ⟨g, cap, cur, rfl, hb, hgg, rest⟩
  · exact .inl hn
  · refine .inr ⟨g, cap, cur, rfl, hb, ?_, rest⟩
    rw [hk.block g (Array.getElem?_eq_some_iff.1 hgg).1 (by omega)]
    exact hgg
theorem Kp.grown {B : Nat} {w0 w w' : World} {row : Option Nat} (h : Kp B w0 w) (hg : w.grownBy w' row) (hr : ∀ k, row = some k → w0.heap.size ≤ k) : Kp B w0 w' :=
  ⟨hg.os.trans h.os, hg.tape.trans h.tape, hg.output.trans h.output, Nat.le_trans h.size hg.size,
    fun k hk hb => (hg.block k (Nat.lt_of_lt_of_le hk h.size) (fun e => by have := hr k e.symm; omega)).trans (h.block k hk hb)⟩
theorem Kp.alloc {B : Nat} {w0 w : World} (h : Kp B w0 w) (o : Obj) : Kp B w0 (w.alloc o) := h.grown (World.grownBy_alloc w o none) (by intro k hk; cases hk)
theorem grown_cell {w w' : World} {row : Option Nat} (hg : w.grownBy w' row) {a : Addr} (h : a.block < w.heap.size) (hne : some a.block ≠ row) : w'.cell? a = w.cell? a := World.cell?_of_block (hg.block a.block h hne)
theorem Rd.grown {w w' : World} {B : Nat} {s : ByteArray} {pv : Value} {p d : Nat} {z : Bool} {row : Option Nat} (h : Rd w B s pv p d z) (hg : w.grownBy w' row) (hne : row ≠ some B) : Rd w' B s pv p d z :=
  ⟨(grown_cell hg h.lt (fun e => hne e.symm)).trans h.c0, (grown_cell hg h.lt (fun e => hne e.symm)).trans h.c1, (grown_cell hg h.lt (fun e => hne e.symm)).trans h.c2, (grown_cell hg h.lt (fun e => hne e.symm)).trans h.c3, (grown_cell hg h.lt (fun e => hne e.symm)).trans h.c4,
    (World.frozen?_of_block (hg.block B h.lt (fun e => hne e.symm))).trans h.f1, (World.frozen?_of_block (hg.block B h.lt (fun e => hne e.symm))).trans h.f3, (World.frozen?_of_block (hg.block B h.lt (fun e => hne e.symm))).trans h.f4⟩
theorem Rd.alloc {w : World} {B : Nat} {s : ByteArray} {pv : Value} {p d : Nat} {z : Bool} (h : Rd w B s pv p d z) (o : Obj) : Rd (w.alloc o) B s pv p d z := h.grown (World.grownBy_alloc w o none) (by intro e; cases e)
/-! The operators ahead. -/
def encB (c : UInt8) : Value := .int .u8 c.toNat
def unAll (os : Bs) (v : Int) : Int := os.foldr un v
def mapR (f : Int → Int) : Rs → Rs | .error e => .error e | .ok (v, r, z) => .ok (f v, r, z)
theorem mapR_map (f g : Int → Int) (x : Rs) : mapR f (mapR g x) = mapR (fun v => f (g v)) x := by rcases x with e | ⟨v, r, z⟩ <;> rfl
theorem mapR_id (x : Rs) : mapR (unAll []) x = x := by rcases x with e | ⟨v, r, z⟩ <;> rfl
theorem unAll_snoc (os : Bs) (o : UInt8) (v : Int) : unAll (os ++ [o]) v = unAll os (un o v) := by simp [unAll]
theorem ev_pre_un {lim : Bool} {V : Bs → Option Int} {n : Nat} {r : Bs} {z : Bool} {d : Nat} {o : UInt8} (h : opL (skp r) = [o]) (hu : isUn [o] = true) :
    ev lim V (n + 1) .pre r z d = mapR (un o) (ev lim V n .pre ((skp r).drop 1) z d) := by
  simp only [ev]
  rw [h, if_pos hu]
  rcases ev lim V n .pre ((skp r).drop 1) z d with e | ⟨v, r', z'⟩ <;> rfl
theorem ev_pre_no {lim : Bool} {V : Bs → Option Int} {n : Nat} {r : Bs} {z : Bool} {d : Nat} (hu : isUn (opL (skp r)) = false) :
    ev lim V (n + 1) .pre r z d = ev lim V n .opd (skp r) z d := by
  simp only [ev]
  rw [if_neg (by rw [hu]; simp)]
theorem un_cases (O : ByteArray) : O = ⟨#[43]⟩ ∨ O = ⟨#[45]⟩ ∨ O = ⟨#[33]⟩ ∨ O = ⟨#[126]⟩ ∨ (isUn O.data.toList = false ∧ (O.toList == [43]) = false ∧ (O.toList == [45]) = false ∧ (O.toList == [33]) = false ∧ (O.toList == [126]) = false) := by
  by_cases h0 : O.data.toList = [43]
  · exact .inl (bs_ext h0)
  by_cases h1 : O.data.toList = [45]
  · exact .inr (.inl (bs_ext h1))
  by_cases h2 : O.data.toList = [33]
  · exact .inr (.inr (.inl (bs_ext h2)))
  by_cases h3 : O.data.toList = [126]
  · exact .inr (.inr (.inr (.inl (bs_ext h3))))
  refine .inr (.inr (.inr (.inr ⟨?_, by rw [str_eq, decide_eq_false h0], by rw [str_eq, decide_eq_false h1], by rw [str_eq, decide_eq_false h2], by rw [str_eq, decide_eq_false h3]⟩)))
  simp only [isUn, Bool.or_eq_false_iff, beq_eq_false_iff_ne]
  exact ⟨⟨⟨h0, h1⟩, h2⟩, h3⟩
/-- What holds of the operators read so far. -/
structure Pre (s : ByteArray) (pv : Value) (d B : Nat) (w : World) (V : Bs → Option Int) (n : Nat) (r : Bs) (z : Bool) (os : Bs) (A : Option Addr) (c m : Nat) (r' : Bs) (q : Nat) (wr : World) : Prop where
  own : wr.ownsRow w.heap.size 5 1 (.slice A os.length c) os.length (os.map encB)
  kp : Kp B w wr
  rd : Rd wr B s pv q d z
  at' : At s r' q
  eqn : ev false V n .pre r z d = mapR (unAll os) (ev false V m .pre r' z d)
  wnt : want .pre r' ≤ m
  mle : m ≤ n
  len : os.length + r'.length ≤ r.length

set_option maxRecDepth 100000 in
set_option maxHeartbeats 4000000 in
theorem prefixed_step (n : Nat) (ih : ∀ m, m < n → C37 m) : C25 n := by
  intro B s l pv r p d z w hs hat hd hw hR hP
  have hBw : B < w.heap.size := hR.lt
  obtain ⟨V, hV⟩ : ∃ V, Vl l = V := ⟨_, rfl⟩
  have HIH := Lib.hid ih
  have HV := Lib.hid hV
  rw [hV]
  obtain ⟨i5, hi, hz0, hz1, hz2⟩ := info_parts info5
  have H0 : Hid (Pre s pv d B w V n r z [] none 0 n r p w) := ⟨World.ownsRow_nil _ _ _ _, Kp.refl _ _, hR, hat, (mapR_id _).symm, hw, Nat.le_refl _, by simp⟩
  have HP := Lib.hid hP
  have hrl := hat.len
  have hr1 : r.length ≤ 1000000 := by omega
  obtain ⟨RES, hRES⟩ : ∃ RES, ev false V n .pre r z d = RES := ⟨_, rfl⟩
  have HRES := Lib.hid hRES
  rw [hRES]
  clear ih hV hat hR hP hw hRES hrl
  go_enter Tryd.func25, Tryd.ntmps25
  go_wp2_with fail
  go_step3
  go_wp2_with fail
  go_step3
  go_wp2_with fail
  go_loopw [4] (fun ops wr => ∃ (os : Bs) (A : Option Addr) (c m : Nat) (r' : Bs) (q : Nat), ops = .slice A os.length c ∧ Hid (Pre s pv d B w V n r z os A c m r' q wr)) (fun _ wr => s.size - atW B 1 wr)
  case atStart => exact ⟨[], none, 0, n, r, p, rfl, H0⟩
  case round =>
    obtain ⟨os, A, c, m, r', q, rfl, HH⟩ := hrel
    have hq := HH.out.at'.1
    have hol : os.length ≤ 1000000 := by have := HH.out.len; omega
    have hc1 := HH.out.rd.c1
    have HM0 : Hid (atW B 1 wr = q) := atW_of hc1
    go_wp2_with fail
    refine (operator_any s pv q d z B _ hs hq HH.out.rd).mono ?_
    rintro e w2 ⟨rfl, hK2, hR2⟩
    have hsp := spos_le s q hq
    have ho := opS_data s (spos s q)
    have hAT2 := HH.out.at'.skp
    rw [hAT2.2] at ho
    have hown2 := own_kept HH.out.own hK2 hBw
    have HK2 := Lib.hid (HH.out.kp.trans hK2)
    have HR2 := Lib.hid hR2
    have HOWN2 := Lib.hid hown2
    have c1 := hR2.c1
    have f1 := hR2.f1
    have HAT2 := Lib.hid hAT2
    obtain ⟨q2, hq2⟩ : ∃ q2, spos s q = q2 := ⟨_, rfl⟩
    rw [hq2] at HR2 c1 hsp ho HAT2 ⊢
    obtain ⟨O, hO⟩ : ∃ O, opS s q2 = O := ⟨_, rfl⟩
    rw [hO] at ho ⊢
    have HO := Lib.hid ho
    clear hq2 hO ho hK2 hR2 hAT2 hown2 hc1
    rcases un_cases O with rfl | rfl | rfl | rfl | ⟨hno, t0, t1, t2, t3⟩
    · -- 43
      have HE := HO.out
      have hone : 1 ≤ (skp r').length := by
        have := (opL_len (skp r')).1
        rw [← HE] at this
        simpa using this
      have hlen2 := HAT2.out.len
      have hq2s : q2 + 1 ≤ s.size := by omega
      have hqI : (q2 : Int) + 1 ≤ 1000000 := by omega
      have HAT4 := Lib.hid (HAT2.out.drop (k := 1) (by omega))
      obtain ⟨m', hm'⟩ : ∃ m', m = m' + 1 := by
        have h1 := HH.out.wnt
        simp only [want] at h1
        exact ⟨m - 1, by omega⟩
      subst hm'
      have HEV : Hid (ev false V (m' + 1) .pre r' z d = mapR (un 43) (ev false V m' .pre ((skp r').drop 1) z d)) := ev_pre_un (o := 43) HE.symm rfl
      have HW : Hid (want .pre ((skp r').drop 1) ≤ m' ∧ os.length + 1 + ((skp r').drop 1).length ≤ r.length) := by
        have h1 := HH.out.wnt
        have h2 := HH.out.len
        have h3 := skp_len r'
        simp only [want] at h1
        simp only [Hid, want]
        rw [List.length_drop]
        omega
      clear HE hone hlen2
      go_wp2_with (at_builtin; refine wpList_append_own _ rfl _ _ 63 rfl w.heap.size 5 i5 (.int .u8 0) 1 1 Tryd.underlying63 hi hz0 hz1 hz2 rfl (by decide) _ _ _ rfl (HOWN2.out.alloc _) ⟨w2.heap.size, 0, none⟩ 1 1 [encB 43] rfl rfl (fun j u hj => by match j, hj with | 0, hj => simp at hj; subst hj; simp [Addr.add]; rfl) (fun u hu => by simp at hu; subst hu; rfl) (by unfold maxLen; omega) (by omega) (by have := HK2.out.size; simp; omega) ?_)
      intro vm w3 hown3 hg3 _
      obtain ⟨g, cap, ea, hgb, hgl⟩ := hown3.form (by omega)
      subst ea
      have hnB : (Value.slice A os.length c).ownBlock ≠ some B := fun e => absurd (HOWN2.out.lt B e).1 (by omega)
      have hR3 := (HR2.out.alloc _).grown hg3 hnB
      have hK3 := (HK2.out.alloc _).grown hg3 (fun k hk => (HOWN2.out.lt k hk).1)
      have d1 := hR3.c1
      have g1 := hR3.f1
      have HR3 := Lib.hid hR3
      have HK3 := Lib.hid hK3
      have HOWN3 := Lib.hid hown3
      clear hR3 hK3 hown3 hg3 hnB c1 f1
      go_wp2_with fail
      have HR5 := HR3.out.set1 (q2 + 1)
      refine ⟨⟨os ++ [43], some ⟨g, 0, none⟩, cap, m', (skp r').drop 1, q2 + 1, by simp, ?_⟩, ?_⟩
      · refine ⟨?_, HK3.out.trans (Kp.setCell _ _ _ _), HR5, HAT4.out, ?_, HW.out.1, by have := HH.out.mle; omega, by have := HW.out.2; simp at this ⊢; omega⟩
        · rw [List.map_append, List.length_append]
          exact own_kept HOWN3.out (Kp.setCell _ _ _ _) hBw
        · rw [HH.out.eqn, HEV.out, mapR_map]
          congr 1
          funext v
          exact (unAll_snoc os 43 v).symm
      · rw [HM0.out]
        change s.size - atW B 1 (w3.setCell ⟨B, 1, none⟩ (.int .i64 ((q2 + 1 : Nat) : Int))) < _
        rw [atW_of HR5.c1]; omega
    · -- 45
      have HE := HO.out
      have hone : 1 ≤ (skp r').length := by
        have := (opL_len (skp r')).1
        rw [← HE] at this
        simpa using this
      have hlen2 := HAT2.out.len
      have hq2s : q2 + 1 ≤ s.size := by omega
      have hqI : (q2 : Int) + 1 ≤ 1000000 := by omega
      have HAT4 := Lib.hid (HAT2.out.drop (k := 1) (by omega))
      obtain ⟨m', hm'⟩ : ∃ m', m = m' + 1 := by
        have h1 := HH.out.wnt
        simp only [want] at h1
        exact ⟨m - 1, by omega⟩
      subst hm'
      have HEV : Hid (ev false V (m' + 1) .pre r' z d = mapR (un 45) (ev false V m' .pre ((skp r').drop 1) z d)) := ev_pre_un (o := 45) HE.symm rfl
      have HW : Hid (want .pre ((skp r').drop 1) ≤ m' ∧ os.length + 1 + ((skp r').drop 1).length ≤ r.length) := by
        have h1 := HH.out.wnt
        have h2 := HH.out.len
        have h3 := skp_len r'
        simp only [want] at h1
        simp only [Hid, want]
        rw [List.length_drop]
        omega
      clear HE hone hlen2
      go_wp2_with (at_builtin; refine wpList_append_own _ rfl _ _ 63 rfl w.heap.size 5 i5 (.int .u8 0) 1 1 Tryd.underlying63 hi hz0 hz1 hz2 rfl (by decide) _ _ _ rfl (HOWN2.out.alloc _) ⟨w2.heap.size, 0, none⟩ 1 1 [encB 45] rfl rfl (fun j u hj => by match j, hj with | 0, hj => simp at hj; subst hj; simp [Addr.add]; rfl) (fun u hu => by simp at hu; subst hu; rfl) (by unfold maxLen; omega) (by omega) (by have := HK2.out.size; simp; omega) ?_)
      intro vm w3 hown3 hg3 _
      obtain ⟨g, cap, ea, hgb, hgl⟩ := hown3.form (by omega)
      subst ea
      have hnB : (Value.slice A os.length c).ownBlock ≠ some B := fun e => absurd (HOWN2.out.lt B e).1 (by omega)
      have hR3 := (HR2.out.alloc _).grown hg3 hnB
      have hK3 := (HK2.out.alloc _).grown hg3 (fun k hk => (HOWN2.out.lt k hk).1)
      have d1 := hR3.c1
      have g1 := hR3.f1
      have HR3 := Lib.hid hR3
      have HK3 := Lib.hid hK3
      have HOWN3 := Lib.hid hown3
      clear hR3 hK3 hown3 hg3 hnB c1 f1
      go_wp2_with fail
      have HR5 := HR3.out.set1 (q2 + 1)
      refine ⟨⟨os ++ [45], some ⟨g, 0, none⟩, cap, m', (skp r').drop 1, q2 + 1, by simp, ?_⟩, ?_⟩
      · refine ⟨?_, HK3.out.trans (Kp.setCell _ _ _ _), HR5, HAT4.out, ?_, HW.out.1, by have := HH.out.mle; omega, by have := HW.out.2; simp at this ⊢; omega⟩
        · rw [List.map_append, List.length_append]
          exact own_kept HOWN3.out (Kp.setCell _ _ _ _) hBw
        · rw [HH.out.eqn, HEV.out, mapR_map]
          congr 1
          funext v
          exact (unAll_snoc os 45 v).symm
      · rw [HM0.out]
        change s.size - atW B 1 (w3.setCell ⟨B, 1, none⟩ (.int .i64 ((q2 + 1 : Nat) : Int))) < _
        rw [atW_of HR5.c1]; omega
    · -- 33
      have HE := HO.out
      have hone : 1 ≤ (skp r').length := by
        have := (opL_len (skp r')).1
        rw [← HE] at this
        simpa using this
      have hlen2 := HAT2.out.len
      have hq2s : q2 + 1 ≤ s.size := by omega
      have hqI : (q2 : Int) + 1 ≤ 1000000 := by omega
      have HAT4 := Lib.hid (HAT2.out.drop (k := 1) (by omega))
      obtain ⟨m', hm'⟩ : ∃ m', m = m' + 1 := by
        have h1 := HH.out.wnt
        simp only [want] at h1
        exact ⟨m - 1, by omega⟩
      subst hm'
      have HEV : Hid (ev false V (m' + 1) .pre r' z d = mapR (un 33) (ev false V m' .pre ((skp r').drop 1) z d)) := ev_pre_un (o := 33) HE.symm rfl
      have HW : Hid (want .pre ((skp r').drop 1) ≤ m' ∧ os.length + 1 + ((skp r').drop 1).length ≤ r.length) := by
        have h1 := HH.out.wnt
        have h2 := HH.out.len
        have h3 := skp_len r'
        simp only [want] at h1
        simp only [Hid, want]
        rw [List.length_drop]
        omega
      clear HE hone hlen2
      go_wp2_with (at_builtin; refine wpList_append_own _ rfl _ _ 63 rfl w.heap.size 5 i5 (.int .u8 0) 1 1 Tryd.underlying63 hi hz0 hz1 hz2 rfl (by decide) _ _ _ rfl (HOWN2.out.alloc _) ⟨w2.heap.size, 0, none⟩ 1 1 [encB 33] rfl rfl (fun j u hj => by match j, hj with | 0, hj => simp at hj; subst hj; simp [Addr.add]; rfl) (fun u hu => by simp at hu; subst hu; rfl) (by unfold maxLen; omega) (by omega) (by have := HK2.out.size; simp; omega) ?_)
      intro vm w3 hown3 hg3 _
      obtain ⟨g, cap, ea, hgb, hgl⟩ := hown3.form (by omega)
      subst ea
      have hnB : (Value.slice A os.length c).ownBlock ≠ some B := fun e => absurd (HOWN2.out.lt B e).1 (by omega)
      have hR3 := (HR2.out.alloc _).grown hg3 hnB
      have hK3 := (HK2.out.alloc _).grown hg3 (fun k hk => (HOWN2.out.lt k hk).1)
      have d1 := hR3.c1
      have g1 := hR3.f1
      have HR3 := Lib.hid hR3
      have HK3 := Lib.hid hK3
      have HOWN3 := Lib.hid hown3
      clear hR3 hK3 hown3 hg3 hnB c1 f1
      go_wp2_with fail
      have HR5 := HR3.out.set1 (q2 + 1)
      refine ⟨⟨os ++ [33], some ⟨g, 0, none⟩, cap, m', (skp r').drop 1, q2 + 1, by simp, ?_⟩, ?_⟩
      · refine ⟨?_, HK3.out.trans (Kp.setCell _ _ _ _), HR5, HAT4.out, ?_, HW.out.1, by have := HH.out.mle; omega, by have := HW.out.2; simp at this ⊢; omega⟩
        · rw [List.map_append, List.length_append]
          exact own_kept HOWN3.out (Kp.setCell _ _ _ _) hBw
        · rw [HH.out.eqn, HEV.out, mapR_map]
          congr 1
          funext v
          exact (unAll_snoc os 33 v).symm
      · rw [HM0.out]
        change s.size - atW B 1 (w3.setCell ⟨B, 1, none⟩ (.int .i64 ((q2 + 1 : Nat) : Int))) < _
        rw [atW_of HR5.c1]; omega
    · -- 126
      have HE := HO.out
      have hone : 1 ≤ (skp r').length := by
        have := (opL_len (skp r')).1
        rw [← HE] at this
        simpa using this
      have hlen2 := HAT2.out.len
      have hq2s : q2 + 1 ≤ s.size := by omega
      have hqI : (q2 : Int) + 1 ≤ 1000000 := by omega
      have HAT4 := Lib.hid (HAT2.out.drop (k := 1) (by omega))
      obtain ⟨m', hm'⟩ : ∃ m', m = m' + 1 := by
        have h1 := HH.out.wnt
        simp only [want] at h1
        exact ⟨m - 1, by omega⟩
      subst hm'
      have HEV : Hid (ev false V (m' + 1) .pre r' z d = mapR (un 126) (ev false V m' .pre ((skp r').drop 1) z d)) := ev_pre_un (o := 126) HE.symm rfl
      have HW : Hid (want .pre ((skp r').drop 1) ≤ m' ∧ os.length + 1 + ((skp r').drop 1).length ≤ r.length) := by
        have h1 := HH.out.wnt
        have h2 := HH.out.len
        have h3 := skp_len r'
        simp only [want] at h1
        simp only [Hid, want]
        rw [List.length_drop]
        omega
      clear HE hone hlen2
      go_wp2_with (at_builtin; refine wpList_append_own _ rfl _ _ 63 rfl w.heap.size 5 i5 (.int .u8 0) 1 1 Tryd.underlying63 hi hz0 hz1 hz2 rfl (by decide) _ _ _ rfl (HOWN2.out.alloc _) ⟨w2.heap.size, 0, none⟩ 1 1 [encB 126] rfl rfl (fun j u hj => by match j, hj with | 0, hj => simp at hj; subst hj; simp [Addr.add]; rfl) (fun u hu => by simp at hu; subst hu; rfl) (by unfold maxLen; omega) (by omega) (by have := HK2.out.size; simp; omega) ?_)
      intro vm w3 hown3 hg3 _
      obtain ⟨g, cap, ea, hgb, hgl⟩ := hown3.form (by omega)
      subst ea
      have hnB : (Value.slice A os.length c).ownBlock ≠ some B := fun e => absurd (HOWN2.out.lt B e).1 (by omega)
      have hR3 := (HR2.out.alloc _).grown hg3 hnB
      have hK3 := (HK2.out.alloc _).grown hg3 (fun k hk => (HOWN2.out.lt k hk).1)
      have d1 := hR3.c1
      have g1 := hR3.f1
      have HR3 := Lib.hid hR3
      have HK3 := Lib.hid hK3
      have HOWN3 := Lib.hid hown3
      clear hR3 hK3 hown3 hg3 hnB c1 f1
      go_wp2_with fail
      have HR5 := HR3.out.set1 (q2 + 1)
      refine ⟨⟨os ++ [126], some ⟨g, 0, none⟩, cap, m', (skp r').drop 1, q2 + 1, by simp, ?_⟩, ?_⟩
      · refine ⟨?_, HK3.out.trans (Kp.setCell _ _ _ _), HR5, HAT4.out, ?_, HW.out.1, by have := HH.out.mle; omega, by have := HW.out.2; simp at this ⊢; omega⟩
        · rw [List.map_append, List.length_append]
          exact own_kept HOWN3.out (Kp.setCell _ _ _ _) hBw
        · rw [HH.out.eqn, HEV.out, mapR_map]
          congr 1
          funext v
          exact (unAll_snoc os 126 v).symm
      · rw [HM0.out]
        change s.size - atW B 1 (w3.setCell ⟨B, 1, none⟩ (.int .i64 ((q2 + 1 : Nat) : Int))) < _
        rw [atW_of HR5.c1]; omega
    · -- none
      have HNO : Hid (isUn (opL (skp r')) = false) := by rw [Hid, ← HO.out]; exact hno
      obtain ⟨m', hm'⟩ : ∃ m', m = m' + 1 := by
        have h1 := HH.out.wnt
        simp only [want] at h1
        exact ⟨m - 1, by omega⟩
      subst hm'
      have hcall := HIH.out m' (by have := HH.out.mle; omega) B s l pv (skp r') q2 d z w2 hs HAT2.out hd (by
        have h1 := HH.out.wnt
        have h2 := skp_len r'
        simp only [want] at h1 ⊢
        omega) HR2.out (HP.out.kept HK2.out)
      rw [HV.out] at hcall
      obtain ⟨res, hres⟩ : ∃ res, ev false V m' .opd (skp r') z d = res := ⟨_, rfl⟩
      have HE : Hid (RES = mapR (unAll os) res) := by
        rw [Hid, ← HRES.out, HH.out.eqn, ev_pre_no HNO.out, hres]
      rw [hres] at hcall
      have HCALL := Lib.hid hcall
      clear hcall hres hno c1 f1
      cases res with
      | error k =>
        go_wp2_with fail
        refine HCALL.out.mono ?_
        rintro e w3 ⟨hK3, hc0, ⟨v0, rfl⟩, p3, z3, hp3, hR3⟩
        have hown3 := own_kept HOWN2.out hK3 hBw
        have HFIN : Hid (∀ v : Int, PostR s pv d B w RES (.returned (.tuple #[.int .i64 v, .int .i64 k])) w3) := by
          intro v
          rw [HE.out]
          exact ⟨HK2.out.trans hK3, hc0, ⟨v, rfl⟩, p3, z3, hp3, hR3⟩
        have HOWN3 := Lib.hid hown3
        clear hK3 hc0 hR3 hown3 HE HCALL
        go_wp2_with fail
        go_loop [6, 8] (fun v i => ∃ (k : Nat) (j : Int), j = (k : Int) - 1 ∧ k ≤ os.length ∧ v = .int .i64 ((os.drop k).foldr un v0) ∧ i = .int .i64 j) (fun _ i => (intOf i + 1).toNat)
        case atStart => exact ⟨os.length, _, rfl, Nat.le_refl _, by simp, rfl⟩
        case round =>
          obtain ⟨k, j, hj, hk, rfl, rfl⟩ := hrel
          cases k with
          | zero =>
            have hneg : ¬ (0 : Int) ≤ j := by omega
            have hdec : decide ((0 : Int) ≤ j) = false := by simpa using hneg
            clear hj
            go_wp2_with fail
            try rw [Exit.noGoto_ret]
            go_ret2
            exact HFIN.out _
          | succ k' =>
            obtain rfl : j = (k' : Int) := by omega
            obtain ⟨g, cap, ea, hgb, hgl⟩ := HOWN3.out.form (by omega)
            injection ea with ea1 ea2 ea3
            subst ea1
            have hcell := HOWN3.out.cells (g := g) rfl k' (encB os[k']) (by rw [List.getElem?_map, List.getElem?_eq_getElem (by omega)]; rfl)
            have HU : Hid ((os.drop k').foldr un v0 = un os[k'] ((os.drop (k' + 1)).foldr un v0)) := by
              rw [Hid, List.drop_eq_getElem_cons (by omega : k' < os.length)]; rfl
            obtain ⟨o, ho⟩ : ∃ o, os[k'] = o := ⟨_, rfl⟩
            rw [ho] at hcell HU
            obtain ⟨x, hx⟩ : ∃ x, (os.drop (k' + 1)).foldr un v0 = x := ⟨_, rfl⟩
            rw [hx] at HU ⊢
            have hcell2 : w3.cell? ⟨g, k', none⟩ = some (.int .u8 (o.toNat : Int)) := by
              have e : (⟨g, 0, none⟩ : Addr).add k' = ⟨g, k', none⟩ := by unfold Addr.add; split <;> simp_all
              rw [e] at hcell
              exact hcell
            have hkI : (k' : Int) < (os.length : Int) := by omega
            have hkJ : (k' : Int) ≤ 1000000 := by omega
            have hN1 := u8_eq o 45 (by omega)
            have hN2 := u8_eq o 33 (by omega)
            have hN3 := u8_eq o 126 (by omega)
            obtain ⟨ob, hob⟩ : ∃ ob : Int, (o.toNat : Int) = ob := ⟨_, rfl⟩
            rw [hob] at hcell2 hN1 hN2 hN3
            clear hcell hx ho hob ea2 ea3 hj
            by_cases h45 : o = 45
            · subst h45
              have b1 : (ob == 45) = true := hN1.trans rfl
              have HF : Hid ((os.drop k').foldr un v0 = wrap64 (-x)) := HU.out.trans rfl
              clear hN1 hN2 hN3
              go_wp2_with fail
              exact ⟨⟨k', _, rfl, by omega, by rw [HF.out], rfl⟩, by simp [intOf]⟩
            · have b1 : (ob == 45) = false := hN1.trans (by simpa using h45)
              by_cases h33 : o = 33
              · subst h33
                have b2 : (ob == 33) = true := hN2.trans rfl
                have HF : Hid ((os.drop k').foldr un v0 = tr (x == 0)) := HU.out.trans rfl
                have HT := Lib.hid (fun w => truth_any (x == 0) w)
                clear hN1 hN2 hN3
                go_wp2_with fail
                refine (HT.out _).mono ?_
                rintro e w4 ⟨rfl, h⟩
                obtain rfl := h.symm
                go_wp2_with fail
                exact ⟨⟨k', _, rfl, by omega, by rw [HF.out], rfl⟩, by simp [intOf]⟩
              · have b2 : (ob == 33) = false := hN2.trans (by simpa using h33)
                by_cases h126 : o = 126
                · subst h126
                  have b3 : (ob == 126) = true := hN3.trans rfl
                  have HF : Hid ((os.drop k').foldr un v0 = bits .xor .i64 (-1) x) := HU.out.trans rfl
                  clear hN1 hN2 hN3
                  go_wp2_with fail
                  exact ⟨⟨k', _, rfl, by omega, by rw [HF.out]; rfl, rfl⟩, by simp [intOf]⟩
                · have b3 : (ob == 126) = false := hN3.trans (by simpa using h126)
                  have HF : Hid ((os.drop k').foldr un v0 = x) := HU.out.trans (by simp [un, h45, h33, h126])
                  clear hN1 hN2 hN3
                  go_wp2_with fail
                  exact ⟨⟨k', _, rfl, by omega, by rw [HF.out], rfl⟩, by simp [intOf]⟩

      | ok x =>
        obtain ⟨v0, r3, z3⟩ := x
        go_wp2_with fail
        refine HCALL.out.mono ?_
        rintro e w3 ⟨hK3, rfl, p3, hat3, hR3⟩
        have hown3 := own_kept HOWN2.out hK3 hBw
        have HFIN : Hid (PostR s pv d B w RES (.returned (.tuple #[.int .i64 (unAll os v0), .int .i64 0])) w3) := by
          rw [HE.out]
          exact ⟨HK2.out.trans hK3, rfl, p3, hat3, hR3⟩
        have HOWN3 := Lib.hid hown3
        clear hK3 hat3 hR3 hown3 HE HCALL
        go_wp2_with fail
        go_loop [6, 8] (fun v i => ∃ (k : Nat) (j : Int), j = (k : Int) - 1 ∧ k ≤ os.length ∧ v = .int .i64 ((os.drop k).foldr un v0) ∧ i = .int .i64 j) (fun _ i => (intOf i + 1).toNat)
        case atStart => exact ⟨os.length, _, rfl, Nat.le_refl _, by simp, rfl⟩
        case round =>
          obtain ⟨k, j, hj, hk, rfl, rfl⟩ := hrel
          cases k with
          | zero =>
            have hneg : ¬ (0 : Int) ≤ j := by omega
            have hdec : decide ((0 : Int) ≤ j) = false := by simpa using hneg
            clear hj
            go_wp2_with fail
            try rw [Exit.noGoto_ret]
            go_ret2
            exact HFIN.out
          | succ k' =>
            obtain rfl : j = (k' : Int) := by omega
            obtain ⟨g, cap, ea, hgb, hgl⟩ := HOWN3.out.form (by omega)
            injection ea with ea1 ea2 ea3
            subst ea1
            have hcell := HOWN3.out.cells (g := g) rfl k' (encB os[k']) (by rw [List.getElem?_map, List.getElem?_eq_getElem (by omega)]; rfl)
            have HU : Hid ((os.drop k').foldr un v0 = un os[k'] ((os.drop (k' + 1)).foldr un v0)) := by
              rw [Hid, List.drop_eq_getElem_cons (by omega : k' < os.length)]; rfl
            obtain ⟨o, ho⟩ : ∃ o, os[k'] = o := ⟨_, rfl⟩
            rw [ho] at hcell HU
            obtain ⟨x, hx⟩ : ∃ x, (os.drop (k' + 1)).foldr un v0 = x := ⟨_, rfl⟩
            rw [hx] at HU ⊢
            have hcell2 : w3.cell? ⟨g, k', none⟩ = some (.int .u8 (o.toNat : Int)) := by
              have e : (⟨g, 0, none⟩ : Addr).add k' = ⟨g, k', none⟩ := by unfold Addr.add; split <;> simp_all
              rw [e] at hcell
              exact hcell
            have hkI : (k' : Int) < (os.length : Int) := by omega
            have hkJ : (k' : Int) ≤ 1000000 := by omega
            have hN1 := u8_eq o 45 (by omega)
            have hN2 := u8_eq o 33 (by omega)
            have hN3 := u8_eq o 126 (by omega)
            obtain ⟨ob, hob⟩ : ∃ ob : Int, (o.toNat : Int) = ob := ⟨_, rfl⟩
            rw [hob] at hcell2 hN1 hN2 hN3
            clear hcell hx ho hob ea2 ea3 hj
            by_cases h45 : o = 45
            · subst h45
              have b1 : (ob == 45) = true := hN1.trans rfl
              have HF : Hid ((os.drop k').foldr un v0 = wrap64 (-x)) := HU.out.trans rfl
              clear hN1 hN2 hN3
              go_wp2_with fail
              exact ⟨⟨k', _, rfl, by omega, by rw [HF.out], rfl⟩, by simp [intOf]⟩
            · have b1 : (ob == 45) = false := hN1.trans (by simpa using h45)
              by_cases h33 : o = 33
              · subst h33
                have b2 : (ob == 33) = true := hN2.trans rfl
                have HF : Hid ((os.drop k').foldr un v0 = tr (x == 0)) := HU.out.trans rfl
                have HT := Lib.hid (fun w => truth_any (x == 0) w)
                clear hN1 hN2 hN3
                go_wp2_with fail
                refine (HT.out _).mono ?_
                rintro e w4 ⟨rfl, h⟩
                obtain rfl := h.symm
                go_wp2_with fail
                exact ⟨⟨k', _, rfl, by omega, by rw [HF.out], rfl⟩, by simp [intOf]⟩
              · have b2 : (ob == 33) = false := hN2.trans (by simpa using h33)
                by_cases h126 : o = 126
                · subst h126
                  have b3 : (ob == 126) = true := hN3.trans rfl
                  have HF : Hid ((os.drop k').foldr un v0 = bits .xor .i64 (-1) x) := HU.out.trans rfl
                  clear hN1 hN2 hN3
                  go_wp2_with fail
                  exact ⟨⟨k', _, rfl, by omega, by rw [HF.out]; rfl, rfl⟩, by simp [intOf]⟩
                · have b3 : (ob == 126) = false := hN3.trans (by simpa using h126)
                  have HF : Hid ((os.drop k').foldr un v0 = x) := HU.out.trans (by simp [un, h45, h33, h126])
                  clear hN1 hN2 hN3
                  go_wp2_with fail
                  exact ⟨⟨k', _, rfl, by omega, by rw [HF.out], rfl⟩, by simp [intOf]⟩

end Go.Proofs.YthgddbdkdloobaaDoor
