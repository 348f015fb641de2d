import Derived.Test.YtmpnhjdadjfecaaDoorR
namespace Go.Proofs.YtmpnhjdadjfecaaDoor
open Go.RowKit

theorem own_cap2 {w : World} {B n c : Nat} {A : Option Addr} {xs : List Value} (h : w.ownsRow B 9 1 (.slice A n c) n xs) : n ≤ c := by
  rcases h.2 with ⟨h1, h0⟩ | ⟨g, c', cur, hv, _, _, h1, _⟩
  · omega
  · injection hv with _ _ e
    rw [e]; exact h1

theorem idx_iff (c : UInt8) : ∀ l : Bs, 0 ≤ Lib.indexByte l c ↔ c ∈ l
  | [] => by simp [Lib.indexByte]
  | b :: l => by
    have ih := idx_iff c l
    unfold Lib.indexByte
    by_cases h : b = c
    · simp [h]
    · have h1 : (b == c) = false := by rw [beq_eq_false_iff_ne]; exact h
      rw [h1]
      simp only [List.mem_cons]
      by_cases h2 : 0 ≤ Lib.indexByte l c
      · have h3 : (Lib.indexByte l c == -1) = false := by rw [beq_eq_false_iff_ne]; omega
        rw [h3]
        simp [ih.1 h2]
        omega
      · have hge : ∀ m : Bs, -1 ≤ Lib.indexByte m c := fun m => by
          induction m with
          | nil => simp [Lib.indexByte]
          | cons d m ihm =>
            unfold Lib.indexByte
            split
            · omega
            · split
              · omega
              · omega
        have h3 : (Lib.indexByte l c == -1) = true := by rw [beq_iff_eq]; have := hge l; omega
        rw [h3]
        simp [Ne.symm h]
        exact fun e => h2 (ih.2 e)
theorem at_iff (s : ByteArray) (c : UInt8) : ∀ n k : Nat, s.size + 1 ≤ n + k → (0 ≤ at_ s c n k ↔ c ∈ s.data.toList.drop k)
  | 0, k, h => by
    have hl : s.data.toList.length = s.size := Array.length_toList
    rw [at_, List.drop_eq_nil_of_le (by omega)]; simp
  | n + 1, k, h => by
    have hl : s.data.toList.length = s.size := Array.length_toList
    have ih := at_iff s c n (k + 1) (by omega)
    rw [at_]
    by_cases hk : k < s.size
    · have hd : s.data.toList.drop k = gb s k :: s.data.toList.drop (k + 1) := by
        rw [List.drop_eq_getElem_cons (by omega)]
        unfold gb
        rw [List.getD_eq_getElem?_getD, List.getElem?_eq_getElem (by omega)]; rfl
      rw [if_pos hk, hd, List.mem_cons]
      by_cases hc : gb s k = c
      · rw [if_pos hc]; simp [hc]
      · rw [if_neg hc, ih]
        simp [Ne.symm hc]
    · rw [if_neg hk, List.drop_eq_nil_of_le (by omega)]; simp
theorem at_mem (s : ByteArray) (c : UInt8) : 0 ≤ at_ s c (s.size + 1) 0 ↔ c ∈ s.data.toList := by
  have := at_iff s c (s.size + 1) 0 (by omega)
  simpa using this

set_option maxRecDepth 100000 in
set_option maxHeartbeats 2000000 in
theorem Dir_any (p : ByteArray) (w : World) (hp : p.size ≤ 40000) :
    Calls Tryd.prog 16 #[.string p] w fun e w' => e = .returned (.string ⟨(written (parts ⟨#[47]⟩ p).dropLast).toArray⟩) ∧ Below w.heap.size w w' := by
  have hj := parts_joined ⟨#[47]⟩ p
  have hl := parts_len ⟨#[47]⟩ p
  have h1 : (⟨#[47]⟩ : ByteArray).size = 1 := rfl
  rw [h1] at hj hl
  obtain ⟨M, hM⟩ : ∃ M, parts ⟨#[47]⟩ p = M := ⟨_, rfl⟩
  rw [hM] at hj hl
  rw [hM]
  have hd := joined_drop M
  have HM := Lib.hid hM
  clear hM h1
  go_enter Tryd.func16, Tryd.ntmps16
  go_wp2_with fail
  refine (Parts_any ⟨#[47]⟩ p w (by decide) hp).mono ?_
  rintro e w1 ⟨v, rfl, hown, hB⟩
  rw [HM.out] at hown
  have HB := Lib.hid hB
  clear hB
  obtain ⟨A, c, rfl⟩ := own_form hown
  obtain ⟨hst, hod⟩ := own_less hown
  have hcp := own_cap2 hown
  have hS := strs_own (L := M.dropLast) (a := A) (c := c) (by rw [List.length_dropLast] at hod ⊢; exact hod)
  have hR := rooted_any A c M.dropLast w1 hS (by rw [List.length_dropLast]; omega) (by omega)
  rw [List.length_dropLast] at hR
  obtain ⟨m, hm⟩ : ∃ m, M.length - 1 = m := ⟨_, rfl⟩
  rw [hm] at hst hR
  have hmx : max ((M.length : Int) - 1) 0 = (m : Int) := by omega
  have hwr : IntKind.i64.wrap ((M.length : Int) - 1) = (M.length : Int) - 1 := by rw [IntKind.wrap_i64]; omega
  have hwr2 : wrap64 ((M.length : Int) - 1) = (M.length : Int) - 1 := by unfold wrap64; omega
  have HR := Lib.hid hR
  clear hod hown hR hS hj hl hd hm hcp
  go_wp2_with fail
  refine HR.out.mono ?_
  rintro e w2 ⟨rfl, hB2⟩
  have HB2 := Lib.hid hB2
  clear hB2
  go_wp2_with fail
  go_ret
  exact ⟨rfl, HB.out.trans (HB2.out.mono HB.out.size)⟩

set_option maxRecDepth 100000 in
set_option maxHeartbeats 2000000 in
theorem Base_any (p : ByteArray) (w : World) (hp : p.size ≤ 40000) :
    Calls Tryd.prog 18 #[.string p] w fun e w' => e = .returned (.string ⟨((parts ⟨#[47]⟩ p).getLast?.getD []).toArray⟩) ∧ Below w.heap.size w w' := by
  have hl := parts_len ⟨#[47]⟩ p
  have h1 : (⟨#[47]⟩ : ByteArray).size = 1 := rfl
  rw [h1] at hl
  obtain ⟨M, hM⟩ : ∃ M, parts ⟨#[47]⟩ p = M := ⟨_, rfl⟩
  rw [hM] at hl
  rw [hM]
  have HM := Lib.hid hM
  clear hM h1
  go_enter Tryd.func18, Tryd.ntmps18
  go_wp2_with fail
  refine (Parts_any ⟨#[47]⟩ p w (by decide) hp).mono ?_
  rintro e w1 ⟨v, rfl, hown, hB⟩
  rw [HM.out] at hown
  have HB := Lib.hid hB
  clear hB
  by_cases hn : 0 < M.length
  · have hnI : ((M.length : Int) == 0) = false := by rw [beq_eq_false_iff_ne]; omega
    obtain ⟨g, c, rfl, _, _⟩ := hown.form hn
    have hck : w1.cell? ⟨g, M.length - 1, none⟩ = some (encStr M[M.length - 1]) := by
      rw [World.ownsRow.cellAt hown (M.length - 1) (by omega)]
      simp
    have hadd : (⟨g, 0, none⟩ : Addr).add (M.length - 1) = ⟨g, M.length - 1, none⟩ := by unfold Addr.add; by_cases h : M.length - 1 = 0 <;> simp [h]
    have hgl : M.getLast?.getD [] = M[M.length - 1] := by rw [List.getLast?_eq_getElem?, List.getElem?_eq_getElem (by omega)]; rfl
    have HG := Lib.hid hgl
    obtain ⟨k, hk⟩ : ∃ k, M.length - 1 = k := ⟨_, rfl⟩
    have hkI : (M.length : Int) - 1 = (k : Int) := by omega
    have hwr : IntKind.i64.wrap ((M.length : Int) - 1) = (k : Int) := by rw [IntKind.wrap_i64]; omega
    have hwr2 : wrap64 ((M.length : Int) - 1) = (k : Int) := by unfold wrap64; omega
    have hkl : (k : Int) < (M.length : Int) := by omega
    have hk0 : (0 : Int) ≤ (k : Int) := by omega
    obtain ⟨z, hz⟩ : ∃ z : ByteArray, ⟨(M[M.length - 1]).toArray⟩ = z := ⟨_, rfl⟩
    rw [show encStr M[M.length - 1] = .string ⟨(M[M.length - 1]).toArray⟩ from rfl, hz] at hck
    have HZ : Hid ((⟨(M.getLast?.getD []).toArray⟩ : ByteArray) = z) := by rw [Hid, HG.out]; exact hz
    rw [hk] at hck hadd
    obtain ⟨Q, hQ⟩ : ∃ Q : ByteArray, (⟨(M.getLast?.getD []).toArray⟩ : ByteArray) = Q := ⟨_, rfl⟩
    have hQz : Q = z := hQ.symm.trans HZ.out
    clear hgl hown hz hk hkI
    go_wp2_with fail
    go_ret
    exact ⟨by rw [HZ.out]; rfl, HB.out⟩
  · obtain rfl : M = [] := List.length_eq_zero_iff.1 (by omega)
    obtain ⟨A, c, rfl⟩ := own_form hown
    clear hown
    go_wp2_with fail
    go_ret
    exact ⟨rfl, HB.out⟩

theorem Equal_any (A A' : Option Addr) (L M : List Bs) (c c' : Nat) (w : World) (hn : L.length ≤ 1000000) (hm : M.length ≤ 1000000) (hS : StrsL w A L) (hS' : StrsL w A' M) (v : Bool) (hv : Hid (v = true ↔ L = M)) :
    Calls Tryd.prog 30 #[.slice A L.length c, .slice A' M.length c'] w fun e w' => e = .returned (.bool v) ∧ ∃ m, w' = w.drewN m := by
  by_cases hlen : L.length = M.length
  · by_cases h0 : 0 < L.length
    · obtain ⟨g, off, rfl, _, hc⟩ := hS h0
      obtain ⟨g', off', rfl, _, hc'⟩ := hS' (by omega)
      have := Tryd.slices_Equal_string g off L.length c g' off' M.length c' (L.map bs) (M.map bs) w (by simp) (by simp) (by omega) (by omega)
        (fun j hj => by rw [List.length_map] at hj; rw [hc j hj, List.getD_eq_getElem?_getD, List.getElem?_map, List.getElem?_eq_getElem hj]; rfl)
        (fun j hj => by rw [List.length_map] at hj; rw [hc' j hj, List.getD_eq_getElem?_getD, List.getElem?_map, List.getElem?_eq_getElem hj]; rfl)
      refine this.mono ?_
      rintro e w' ⟨rfl, hq⟩
      refine ⟨?_, hq⟩
      congr 2
      rw [Bool.eq_iff_iff, hv.out, decide_eq_true_iff, List.take_of_length_le (by simp), List.take_of_length_le (by simp)]
      constructor
      · intro h
        have := congrArg (List.map (fun x : ByteArray => x.data.toList)) h
        rwa [bs_map, bs_map] at this
      · intro h; rw [h]
    · obtain rfl : L = [] := List.length_eq_zero_iff.1 (by omega)
      obtain rfl : M = [] := List.length_eq_zero_iff.1 (by simpa using hlen.symm)
      refine (Tryd.slices_Equal_string_empty A A' c 0 c' w (by omega)).mono ?_
      rintro e w' ⟨rfl, rfl⟩
      refine ⟨?_, 0, rfl⟩
      have : v = true := hv.out.2 rfl
      rw [this]; rfl
  · refine (Tryd.slices_Equal_string_lens A A' L.length c M.length c' w hlen).mono ?_
    rintro e w' ⟨rfl, rfl⟩
    refine ⟨?_, 0, rfl⟩
    have : v = false := by
      rw [Bool.eq_false_iff]
      intro h
      exact hlen (by rw [hv.out.1 h])
    rw [this]

set_option maxRecDepth 100000 in
set_option maxHeartbeats 2000000 in
theorem Within_any (p q : ByteArray) (w : World) (hp : p.size ≤ 40000) (hq : q.size ≤ 40000) (v : Bool) (hv : Hid (v = true ↔ parts ⟨#[47]⟩ p <+: parts ⟨#[47]⟩ q)) :
    Calls Tryd.prog 20 #[.string p, .string q] w fun e w' => e = .returned (.bool v) ∧ Below w.heap.size w w' := by
  have hl := parts_len ⟨#[47]⟩ p
  have h1 : (⟨#[47]⟩ : ByteArray).size = 1 := rfl
  rw [h1] at hl
  obtain ⟨L, hL⟩ : ∃ L, parts ⟨#[47]⟩ p = L := ⟨_, rfl⟩
  obtain ⟨M, hM⟩ : ∃ M, parts ⟨#[47]⟩ q = M := ⟨_, rfl⟩
  rw [hL] at hl hv
  rw [hM] at hv
  have HL := Lib.hid hL
  have HM := Lib.hid hM
  clear hL hM h1
  go_enter Tryd.func20, Tryd.ntmps20
  go_wp2_with fail
  refine (Parts_any ⟨#[47]⟩ p w (by decide) hp).mono ?_
  rintro e w1 ⟨va, rfl, hown, hB⟩
  rw [HL.out] at hown
  obtain ⟨A, c, rfl⟩ := own_form hown
  have HO := Lib.hid hown
  have HB := Lib.hid hB
  clear hown hB
  go_wp2_with fail
  refine (Parts_any ⟨#[47]⟩ q w1 (by decide) hq).mono ?_
  rintro e w2 ⟨vb, rfl, hown2, hB2⟩
  rw [HM.out] at hown2
  obtain ⟨A2, c2, rfl⟩ := own_form hown2
  have HS : Hid (StrsL w2 A L) := strs_own (HO.out.kept (gb_below hB2) (Classical.em _))
  have HO2 := Lib.hid hown2
  have HB2 : Hid (Below w.heap.size w w2) := HB.out.trans (hB2.mono HB.out.size)
  clear hown2 hB2
  by_cases hle : L.length ≤ M.length
  · have hleI : (L.length : Int) ≤ (M.length : Int) := by omega
    obtain ⟨hst, hss⟩ := own_cut HO2.out hle
    have HSS := Lib.hid hss
    have htl : (M.take L.length).length = L.length := by rw [List.length_take]; omega
    have hs := Equal_any A A2 L (M.take L.length) c c2 w2 (by omega) (by omega) HS.out HSS.out v (by rw [Hid, hv.out]; exact ⟨fun h => List.prefix_iff_eq_take.1 h, fun h => List.prefix_iff_eq_take.2 h⟩)
    rw [htl] at hs
    have HSM := Lib.hid hs
    clear hss htl hs
    go_wp2_with fail
    refine HSM.out.mono ?_
    rintro e w3 ⟨rfl, m, hm⟩
    have HB3 : Hid (Below w.heap.size w w3) := by rw [hm]; exact ⟨HB2.out.os, HB2.out.tape, HB2.out.output, HB2.out.size, HB2.out.block⟩
    clear hm
    go_wp2_with fail
    go_ret
    exact ⟨rfl, HB3.out⟩
  · have hleI : ¬ (L.length : Int) ≤ (M.length : Int) := by omega
    have HV : Hid (v = false) := by
      rw [Hid, Bool.eq_false_iff]
      intro h
      exact hle (hv.out.1 h).length_le
    go_wp2_with fail
    go_ret
    exact ⟨by rw [HV.out]; rfl, HB2.out⟩
end Go.Proofs.YtmpnhjdadjfecaaDoor
