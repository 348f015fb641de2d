import Derived.Test.YtmpnhjdadjfecaaDoorC
namespace Go.Proofs.YtmpnhjdadjfecaaDoor
open Go.RowKit

/-- Names, a stroke ahead of each. -/
def joined (L : List Bs) : Bs := L.flatMap (47 :: ·)
def written (L : List Bs) : Bs := if L = [] then [47] else joined L
theorem joined_snoc (L : List Bs) (x : Bs) : joined (L ++ [x]) = joined L ++ 47 :: x := by simp [joined]
theorem joined_nil {L : List Bs} (h : joined L = []) : L = [] := by
  cases L with
  | nil => rfl
  | cons a l => simp [joined] at h
theorem joined_take (L : List Bs) (k : Nat) (x : Bs) (hk : k < L.length) (hx : L[k] = x) : joined (L.take (k + 1)) = joined (L.take k) ++ 47 :: x := by
  rw [List.take_add_one, List.getElem?_eq_getElem hk, hx]
  exact joined_snoc _ _
theorem joined_len (L : List Bs) (k : Nat) : (joined (L.take k)).length ≤ (joined L).length := by
  conv => rhs; rw [← List.take_append_drop k L]
  unfold joined
  rw [List.flatMap_append, List.length_append]
  omega
theorem bytes_eq {s : ByteArray} {l : Bs} (h : s.data.toList = l) : s = ⟨l.toArray⟩ := by rw [← h]

set_option maxRecDepth 100000 in
set_option maxHeartbeats 4000000 in
theorem RefWrite_any (B : Nat) (v : Value) (L : List Bs) (w : World) (hv : w.ownsRow B 9 1 v L.length (L.map encStr)) (hn : (joined L).length ≤ 4000000) (hl : L.length ≤ 4000000) :
    Calls Tryd.prog 24 #[v] w fun e w' => e = .returned (.string ⟨(written L).toArray⟩) ∧ w' = w := by
  obtain ⟨A, c, rfl⟩ := own_form hv
  have HO := Lib.hid hv
  have HNN := Lib.hid hn
  clear hv hn
  go_enter Tryd.func24, Tryd.ntmps24
  go_wp2_with fail
  go_loop [3, 4] (fun sa ia => ∃ (k : Nat) (t : ByteArray), .string t = sa ∧ ia = .int .i64 k ∧ k ≤ L.length ∧ Hid (t.data.toList = joined (L.take k))) (fun _ ia => L.length - (intOf ia).toNat)
  case atStart => exact ⟨0, ⟨#[]⟩, rfl, rfl, by omega, rfl⟩
  case round =>
    obtain ⟨k, t, rfl, rfl, hk, HT⟩ := hrel
    have hts : t.size ≤ 4000000 := by
      have h1 : t.data.toList.length = t.size := Array.length_toList
      have h2 := joined_len L k
      have h3 := HNN.out
      rw [← h1, HT.out]; omega
    by_cases hlt : k < L.length
    · have b1 : (k : Int) < (L.length : Int) := by omega
      have b0 : (0 : Int) ≤ (k : Int) := by omega
      obtain ⟨g, c', ea, _, _⟩ := HO.out.form (by omega)
      injection ea with e1 _ e3
      subst e1
      subst e3
      have hck : w.cell? ⟨g, k, none⟩ = some (encStr L[k]) := by
        rw [World.ownsRow.cellAt HO.out k (by omega)]
        simp [hlt]
      have hadd : (⟨g, 0, none⟩ : Addr).add k = ⟨g, k, none⟩ := by unfold Addr.add; by_cases h : k = 0 <;> simp [h]
      obtain ⟨x, hx⟩ : ∃ x : ByteArray, ⟨L[k].toArray⟩ = x := ⟨_, rfl⟩
      have HX : Hid (L[k] = x.data.toList) := by rw [← hx]; rfl
      rw [show encStr L[k] = .string ⟨L[k].toArray⟩ from rfl, hx] at hck
      have hj := joined_take L k _ hlt HX.out
      have hxs : x.size ≤ 4000000 := by
        have h1 : x.data.toList.length = x.size := Array.length_toList
        have h2 := joined_len L (k + 1)
        have h3 := HNN.out
        rw [hj] at h2
        simp at h2
        omega
      have HJ := Lib.hid hj
      clear hj hx
      go_wp2_with fail
      exact ⟨⟨k + 1, _, rfl, by go_num, by omega, by rw [Hid, HJ.out, ← HT.out]; simp⟩, by simp [intOf]; omega⟩
    · have b1 : ¬ (k : Int) < (L.length : Int) := by omega
      have ht : t.data.toList = joined L := by have := HT.out; rwa [List.take_of_length_le (by omega)] at this
      by_cases hz : L = []
      · have he : t.toList = [] := by rw [Lib.toList_data, ht, hz]; rfl
        have HW : Hid (written L = [47]) := by rw [Hid, written, if_pos hz]
        clear ht hz HT
        go_wp2_with fail
        go_ret
        exact ⟨by rw [HW.out]; rfl, rfl⟩
      · have he : t.toList.isEmpty = false := by
          rw [Lib.toList_data, ht]
          cases h : joined L with
          | nil => exact absurd (joined_nil h) hz
          | cons a r => rfl
        have HW : Hid (t = ⟨(written L).toArray⟩) := by rw [Hid, written, if_neg hz]; exact bytes_eq ht
        clear ht hz HT
        go_wp2_with fail
        go_ret
        exact ⟨by rw [← HW.out]; rfl, rfl⟩
end Go.Proofs.YtmpnhjdadjfecaaDoor
