import Derived.Test.YtmpnhjdadjfecaaDoorA
namespace Go.Proofs.YtmpnhjdadjfecaaDoor
open Go.RowKit

theorem info9 : (Tryd.prog.info? 9).map (fun i => (i.zero, i.size, i.bytes)) = some (some (.string ⟨#[]⟩), 1, 16) := by kernel_rfl
theorem elem30 : Tryd.prog.elem 30 = 9 := by kernel_rfl

theorem push_dd (l : List Bs) : push l [46, 46] = l.dropLast := by
  unfold push
  rw [if_neg (by simp), if_pos rfl]
theorem slice_last (g n c : Nat) (hn : 0 < n) (hc : n ≤ c) :
    ∀ w, (Instr.slice 30 (.slice (some ⟨g, 0, none⟩) n c) none (some (.int .i64 ((n : Int) - 1))) none).run Tryd.prog w = .ok (.slice (some ⟨g, 0, none⟩) (n - 1) c) w := by
  intro w
  rw [run_slice_h (P := Tryd.prog) (w := w) 30 (some ⟨g, 0, none⟩) n c (by rw [elem30]; exact Tryd.underlying30) .i64 ((n : Int) - 1) (by omega) (by omega), elem30, Tryd.sizeOf9]
  simp [Result.andThen, sliced, Addr.add]
theorem own_cap {w : World} {B g n c : Nat} {xs : List Value} (h : w.ownsRow B 9 1 (.slice (some ⟨g, 0, none⟩) n c) n xs) (hn : 0 < n) : n ≤ c := by
  rcases h.2 with ⟨_, h0⟩ | ⟨g', c', cur, hv, _, _, h1, _⟩
  · omega
  · injection hv with _ _ e
    rw [e]; exact h1
theorem own_last {w : World} {B g c : Nat} {l : List Bs} (h : w.ownsRow B 9 1 (.slice (some ⟨g, 0, none⟩) l.length c) l.length (l.map encStr)) (hn : 0 < l.length) :
    w.ownsRow B 9 1 (.slice (some ⟨g, 0, none⟩) (l.length - 1) c) (l.length - 1) (l.dropLast.map encStr) := by
  rcases h.2 with ⟨_, h0⟩ | ⟨g', c', cur, hv, hb, hg, h1, h2, h3, h4⟩
  · omega
  · injection hv with e1 _ e3
    subst e3
    injection e1 with e1
    injection e1 with e1
    subst e1
    refine ⟨by simp, .inr ⟨g, c, cur, rfl, hb, hg, by omega, h2, h3, ?_⟩⟩
    rw [List.dropLast_eq_take, List.map_take, ← h4, List.take_take, Nat.mul_one, Nat.mul_one, Nat.min_eq_left (by omega)]
theorem enc_of {s : ByteArray} {sg : Bs} (h : s.toList = sg) : Value.string s = encStr sg := by
  rw [Lib.toList_data] at h
  rw [← h]
theorem own_form {w : World} {B n : Nat} {v : Value} {xs : List Value} (h : w.ownsRow B 9 1 v n xs) : ∃ A c, v = .slice A n c := by
  rcases h.2 with ⟨h1, h0⟩ | ⟨g, c, _, h1, _⟩
  · exact ⟨none, 0, by rw [h1, h0]⟩
  · exact ⟨_, c, h1⟩

/-- The loop of names. -/
structure NR (B : Nat) (w wr : World) (p : ByteArray) (n0 : Nat) (v : Value) (f i : Nat) (l R : List Bs) : Prop where
  fi : f ≤ i
  ip : i ≤ p.size + 1
  own : wr.ownsRow B 9 1 v l.length (l.map encStr)
  len : l.length ≤ n0 + i
  old : Below B w wr
  no : ∀ j, f ≤ j → j < i → j < p.size → gb p j ≠ 47
  goes : i ≤ p.size → (sp (p.data.toList.drop f)).foldl push l = R
  ends : i = p.size + 1 → l = R

theorem NR.cut {B : Nat} {w wr wr' : World} {p : ByteArray} {n0 : Nat} {x x' : Value} {f i : Nat} {l R : List Bs} (h : NR B w wr p n0 x f i l R) (hc : i < p.size ∧ gb p i = 47 ∨ i = p.size)
    (hown : wr'.ownsRow B 9 1 x' (push l (seg p f i)).length ((push l (seg p f i)).map encStr)) (hB : Below B w wr') : NR B w wr' p n0 x' (i + 1) (i + 1) (push l (seg p f i)) R := by
  refine ⟨Nat.le_refl _, by have := h.ip; omega, hown, ?_, hB, fun j h1 h2 => by omega, fun hi => ?_, fun hi => ?_⟩
  · have := push_len l (seg p f i)
    have := h.len
    omega
  · rcases hc with ⟨h1, h2⟩ | h1
    · exact cut_step h.fi h1 (fun j a b => h.no j a b (by omega)) h2 (h.goes (by omega))
    · omega
  · rcases hc with ⟨h1, h2⟩ | h1
    · omega
    · subst h1
      exact end_step (fun j a b => h.no j a b b) (h.goes (Nat.le_refl _))
theorem NR.skip {B : Nat} {w wr : World} {p : ByteArray} {n0 : Nat} {x : Value} {f i : Nat} {l R : List Bs} (h : NR B w wr p n0 x f i l R) (hi : i < p.size) (hc : gb p i ≠ 47) : NR B w wr p n0 x f (i + 1) l R := by
  refine ⟨by have := h.fi; omega, by omega, h.own, by have := h.len; omega, h.old, fun j h1 h2 h3 => ?_, fun _ => h.goes (by omega), fun e => by omega⟩
  by_cases e : j = i
  · subst e; exact hc
  · exact h.no j h1 (by omega) h3

set_option maxRecDepth 100000 in
set_option maxHeartbeats 8000000 in
theorem RefNames_any (B : Nat) (v : Value) (l0 : List Bs) (p : ByteArray) (w : World) (hB : B ≤ w.heap.size) (hv : w.ownsRow B 9 1 v l0.length (l0.map encStr)) (hn : l0.length + p.size ≤ 4000000) :
    Calls Tryd.prog 29 #[v, .string p] w fun e w' => ∃ v', e = .returned v' ∧ w'.ownsRow B 9 1 v' ((sp p.data.toList).foldl push l0).length (((sp p.data.toList).foldl push l0).map encStr) ∧ Below B w w' := by
  obtain ⟨i0, hi, hz0, hz1, hz2⟩ := info_parts info9
  obtain ⟨R, hR⟩ : ∃ R, (sp p.data.toList).foldl push l0 = R := ⟨_, rfl⟩
  rw [hR]
  have HN0 := Lib.hid (⟨Nat.le_refl _, by omega, hv, by omega, Below.refl _ _, fun j h1 h2 => by omega, fun _ => by simpa using hR, fun h => by omega⟩ : NR B w w p l0.length v 0 0 l0 R)
  clear hR hv
  go_enter Tryd.func29, Tryd.ntmps29
  go_wp2_with fail
  go_loopw [0, 5, 6] (fun va fa ia wr => ∃ (f i : Nat) (x : Value) (l : List Bs), x = va ∧ fa = .int .i64 f ∧ ia = .int .i64 i ∧ NR B w wr p l0.length x f i l R) (fun _ _ ia _ => p.size + 1 - (intOf ia).toNat)
  case atStart => exact ⟨0, 0, v, l0, rfl, rfl, rfl, HN0.out⟩
  case round =>
    obtain ⟨f, i, x, l, rfl, rfl, rfl, hnr⟩ := hrel
    have HN := Lib.hid hnr
    have hfi := hnr.fi
    have hip := hnr.ip
    obtain ⟨A, c, rfl⟩ := own_form hnr.own
    clear hnr
    have b0 : (0 : Int) ≤ (i : Int) := by omega
    have bf : (f : Int) ≤ (i : Int) := by omega
    have bf0 : (0 : Int) ≤ (f : Int) := by omega
    by_cases hlt : i < p.size
    · have b1 : (i : Int) < (p.size : Int) := by omega
      have b2 : (i : Int) ≤ (p.size : Int) := by omega
      have hg := gb_eq p i hlt
      by_cases h47 : gb p i = 47
      · have hne : (((gb p i).toNat : Int) != 47) = false := by rw [h47]; rfl
        have HC : Hid (i < p.size ∧ gb p i = 47 ∨ i = p.size) := .inl ⟨hlt, h47⟩
        clear h47
        have hse := seg_ext p f i
        obtain ⟨sg, hsg⟩ : ∃ sg, seg p f i = sg := ⟨_, rfl⟩
        rw [hsg] at hse
        have HSG := Lib.hid hsg
        clear hsg
        by_cases c1 : sg = []
        · subst c1
          have HF := Lib.hid (HN.out.cut HC.out (x' := .slice A l.length c) (wr' := wr) (by rw [HSG.out]; exact HN.out.own) HN.out.old)
          rw [HSG.out] at HF
          go_wp2_with fail
          exact ⟨⟨i + 1, i + 1, _, _, rfl, by go_num, by go_num, HF.out⟩, by simp [intOf]; omega⟩
        · by_cases c2 : sg = [46]
          · subst c2
            have HF := Lib.hid (HN.out.cut HC.out (x' := .slice A l.length c) (wr' := wr) (by rw [HSG.out]; exact HN.out.own) HN.out.old)
            rw [HSG.out] at HF
            go_wp2_with fail
            exact ⟨⟨i + 1, i + 1, _, _, rfl, by go_num, by go_num, HF.out⟩, by simp [intOf]; omega⟩
          · by_cases c3 : sg = [46, 46]
            · subst c3
              by_cases hl : 0 < l.length
              · obtain ⟨g, c', ea, hgb, hgw⟩ := HN.out.own.form hl
                injection ea with e1 _ e3
                subst e1
                subst e3
                have hlI : (0 : Int) < (l.length : Int) := by omega
                have hst := slice_last g l.length c hl (own_cap HN.out.own hl)
                have hod := own_last HN.out.own hl
                have hln := HN.out.len
                have hwr : IntKind.i64.wrap ((l.length : Int) - 1) = (l.length : Int) - 1 := by rw [IntKind.wrap_i64]; omega
                have hwr2 : wrap64 ((l.length : Int) - 1) = (l.length : Int) - 1 := by unfold wrap64; omega
                clear hln
                have HF := Lib.hid (HN.out.cut HC.out (x' := .slice (some ⟨g, 0, none⟩) (l.length - 1) c) (wr' := wr) (by rw [HSG.out, push_dd, List.length_dropLast]; exact hod) HN.out.old)
                clear hod
                go_wp2_with fail
                exact ⟨⟨i + 1, i + 1, _, _, rfl, by go_num, by go_num, HF.out⟩, by simp [intOf]; omega⟩
              · have hlI : ¬ (0 : Int) < (l.length : Int) := by omega
                have hl0 : l = [] := List.length_eq_zero_iff.1 (by omega)
                have HF := Lib.hid (HN.out.cut HC.out (x' := .slice A l.length c) (wr' := wr) (by rw [HSG.out, push_dd, hl0]; rw [hl0] at HN; exact HN.out.own) HN.out.old)
                clear hl0
                go_wp2_with fail
                exact ⟨⟨i + 1, i + 1, _, _, rfl, by go_num, by go_num, HF.out⟩, by simp [intOf]; omega⟩
            · have hen : Value.string (p.extract f i) = encStr sg := enc_of hse
              have d1 : sg.isEmpty = false := by cases sg with | nil => exact absurd rfl c1 | cons a t => rfl
              have d2 : (sg == [46]) = false := by rw [beq_eq_false_iff_ne]; exact c2
              have d3 : (sg == [46, 46]) = false := by rw [beq_eq_false_iff_ne]; exact c3
              have hp : push l sg = l ++ [sg] := by unfold push; rw [if_neg (by rintro (h | h); exact c1 h; exact c2 h), if_neg c3]
              have HP := Lib.hid hp
              have hrow := HN.out.own
              have hlen := HN.out.len
              have hzs := HN.out.old.size
              clear c1 c2 c3 hp
              go_wp2_with (at_builtin; refine wpList_append_own _ rfl _ _ 30 rfl B 9 i0 (.string ⟨#[]⟩) 1 16 Tryd.underlying30 hi hz0 hz1 hz2 rfl (by decide) _ _ _ rfl (hrow.alloc _) ⟨wr.heap.size, 0, none⟩ 1 1 [encStr sg] rfl rfl (fun j u hj => by match j, hj with | 0, hj => simp at hj; subst hj; simp [Addr.add]) (fun u hu => by simp at hu; subst hu; rfl) (by unfold maxLen; omega) (by omega) (by simp; omega) ?_)
              intro vm w3 hown3 hg3 _
              have hB3 : Below B w w3 := (HN.out.old.alloc (Nat.le_trans hB hzs) _).grown hg3 (by simp; omega) (fun j hj => (hrow.lt j hj).1)
              have HF := Lib.hid (HN.out.cut HC.out (x' := vm) (wr' := w3) (by rw [HSG.out, HP.out]; simpa using hown3) hB3)
              clear hown3 hg3 hB3 hrow hlen hzs
              go_wp2_with fail
              exact ⟨⟨i + 1, i + 1, _, _, rfl, by go_num, by go_num, HF.out⟩, by simp [intOf]; omega⟩
      · have hne : (((gb p i).toNat : Int) != 47) = true := by
          rw [bne_iff_ne]
          intro e
          exact h47 (UInt8.toNat.inj (Int.ofNat.inj e))
        have HX := Lib.hid (HN.out.skip hlt h47)
        clear h47
        go_wp2_with fail
        exact ⟨⟨f, i + 1, _, _, rfl, rfl, by go_num, HX.out⟩, by simp [intOf]; omega⟩
    · have b1 : ¬ (i : Int) < (p.size : Int) := by omega
      by_cases heq : i = p.size
      · have b2 : (i : Int) ≤ (p.size : Int) := by omega
        have HC : Hid (i < p.size ∧ gb p i = 47 ∨ i = p.size) := .inr heq
        clear heq hlt
        have hse := seg_ext p f i
        obtain ⟨sg, hsg⟩ : ∃ sg, seg p f i = sg := ⟨_, rfl⟩
        rw [hsg] at hse
        have HSG := Lib.hid hsg
        clear hsg
        by_cases c1 : sg = []
        · subst c1
          have HF := Lib.hid (HN.out.cut HC.out (x' := .slice A l.length c) (wr' := wr) (by rw [HSG.out]; exact HN.out.own) HN.out.old)
          rw [HSG.out] at HF
          go_wp2_with fail
          exact ⟨⟨i + 1, i + 1, _, _, rfl, by go_num, by go_num, HF.out⟩, by simp [intOf]; omega⟩
        · by_cases c2 : sg = [46]
          · subst c2
            have HF := Lib.hid (HN.out.cut HC.out (x' := .slice A l.length c) (wr' := wr) (by rw [HSG.out]; exact HN.out.own) HN.out.old)
            rw [HSG.out] at HF
            go_wp2_with fail
            exact ⟨⟨i + 1, i + 1, _, _, rfl, by go_num, by go_num, HF.out⟩, by simp [intOf]; omega⟩
          · by_cases c3 : sg = [46, 46]
            · subst c3
              by_cases hl : 0 < l.length
              · obtain ⟨g, c', ea, hgb, hgw⟩ := HN.out.own.form hl
                injection ea with e1 _ e3
                subst e1
                subst e3
                have hlI : (0 : Int) < (l.length : Int) := by omega
                have hst := slice_last g l.length c hl (own_cap HN.out.own hl)
                have hod := own_last HN.out.own hl
                have hln := HN.out.len
                have hwr : IntKind.i64.wrap ((l.length : Int) - 1) = (l.length : Int) - 1 := by rw [IntKind.wrap_i64]; omega
                have hwr2 : wrap64 ((l.length : Int) - 1) = (l.length : Int) - 1 := by unfold wrap64; omega
                clear hln
                have HF := Lib.hid (HN.out.cut HC.out (x' := .slice (some ⟨g, 0, none⟩) (l.length - 1) c) (wr' := wr) (by rw [HSG.out, push_dd, List.length_dropLast]; exact hod) HN.out.old)
                clear hod
                go_wp2_with fail
                exact ⟨⟨i + 1, i + 1, _, _, rfl, by go_num, by go_num, HF.out⟩, by simp [intOf]; omega⟩
              · have hlI : ¬ (0 : Int) < (l.length : Int) := by omega
                have hl0 : l = [] := List.length_eq_zero_iff.1 (by omega)
                have HF := Lib.hid (HN.out.cut HC.out (x' := .slice A l.length c) (wr' := wr) (by rw [HSG.out, push_dd, hl0]; rw [hl0] at HN; exact HN.out.own) HN.out.old)
                clear hl0
                go_wp2_with fail
                exact ⟨⟨i + 1, i + 1, _, _, rfl, by go_num, by go_num, HF.out⟩, by simp [intOf]; omega⟩
            · have hen : Value.string (p.extract f i) = encStr sg := enc_of hse
              have d1 : sg.isEmpty = false := by cases sg with | nil => exact absurd rfl c1 | cons a t => rfl
              have d2 : (sg == [46]) = false := by rw [beq_eq_false_iff_ne]; exact c2
              have d3 : (sg == [46, 46]) = false := by rw [beq_eq_false_iff_ne]; exact c3
              have hp : push l sg = l ++ [sg] := by unfold push; rw [if_neg (by rintro (h | h); exact c1 h; exact c2 h), if_neg c3]
              have HP := Lib.hid hp
              have hrow := HN.out.own
              have hlen := HN.out.len
              have hzs := HN.out.old.size
              clear c1 c2 c3 hp
              go_wp2_with (at_builtin; refine wpList_append_own _ rfl _ _ 30 rfl B 9 i0 (.string ⟨#[]⟩) 1 16 Tryd.underlying30 hi hz0 hz1 hz2 rfl (by decide) _ _ _ rfl (hrow.alloc _) ⟨wr.heap.size, 0, none⟩ 1 1 [encStr sg] rfl rfl (fun j u hj => by match j, hj with | 0, hj => simp at hj; subst hj; simp [Addr.add]) (fun u hu => by simp at hu; subst hu; rfl) (by unfold maxLen; omega) (by omega) (by simp; omega) ?_)
              intro vm w3 hown3 hg3 _
              have hB3 : Below B w w3 := (HN.out.old.alloc (Nat.le_trans hB hzs) _).grown hg3 (by simp; omega) (fun j hj => (hrow.lt j hj).1)
              have HF := Lib.hid (HN.out.cut HC.out (x' := vm) (wr' := w3) (by rw [HSG.out, HP.out]; simpa using hown3) hB3)
              clear hown3 hg3 hB3 hrow hlen hzs
              go_wp2_with fail
              exact ⟨⟨i + 1, i + 1, _, _, rfl, by go_num, by go_num, HF.out⟩, by simp [intOf]; omega⟩
      · have b2 : ¬ (i : Int) ≤ (p.size : Int) := by omega
        have HL : Hid (l = R) := HN.out.ends (by omega)
        have HO := Lib.hid HN.out.own
        go_wp2_with fail
        go_ret
        exact ⟨_, rfl, by rw [← HL.out]; exact HO.out, HN.out.old⟩
end Go.Proofs.YtmpnhjdadjfecaaDoor
