import Derived.Test.YtkdacdbmlgffgaaQ
import Derived.OwnWalk
import Derived.Laws.IdiomStrings
import Derived.Lib.Strings
namespace Go.Proofs.Ytkdacdbmlgffgaa
open Go.RowKit
set_option linter.unusedVariables false

theorem info5 : (Try.prog.info? 5).map (fun i => (i.zero, i.size, i.bytes)) = some (some (.int .u8 0), 1, 1) := by kernel_rfl
/-- A row of bytes, the first k of which are x. -/
def Xs (w : World) (B b n k : Nat) : Prop := w.ownsRow B 5 1 (.slice (some ⟨b, 0, none⟩) n n) n (List.replicate k (Value.int .u8 120) ++ List.replicate (n - k) (Value.int .u8 0))
theorem Xs.next {w : World} {B b n k : Nat} (h : Xs w B b n k) (hk : k < n) : Xs (w.setCell ⟨b, k, none⟩ (.int .u8 120)) B b n (k + 1) := by
  have := (World.ownsRow.stored h k (.int .u8 120)).1
  unfold Xs
  have e : (List.replicate k (Value.int .u8 120) ++ List.replicate (n - k) (Value.int .u8 0)).set k (Value.int .u8 120) = List.replicate (k + 1) (Value.int .u8 120) ++ List.replicate (n - (k + 1)) (Value.int .u8 0) := by
    obtain ⟨m, hm⟩ : ∃ m, n - k = m + 1 := ⟨n - k - 1, by omega⟩
    rw [List.set_append_right _ _ (by simp), hm, List.length_replicate, Nat.sub_self, List.replicate_succ, List.set_cons_zero, show n - (k + 1) = m by omega, List.replicate_succ' (n := k)]
    simp
  rw [← e]; exact this
theorem Xs.conv {w : World} {B b n : Nat} (h : Xs w B b n n) : (convert 47 9 (.slice (some ⟨b, 0, none⟩) n n)).run Try.prog w = .ok (.string ⟨(List.replicate n 120).toArray⟩) w := by
  have hr := run_convert_bytes_back (P := Try.prog) w 47 9 5 ⟨b, 0, none⟩ n (List.replicate n 120) Try.underlying47 Try.underlying5 Try.underlying9 (fun j hj => by
    rw [List.length_replicate] at hj
    have := World.ownsRow.cellAt h j (by omega)
    rw [add_flat, Nat.zero_add, this, List.getElem?_append_left (by simpa using hj)]
    simp [hj])
  simpa using hr
set_option maxRecDepth 100000 in
set_option maxHeartbeats 2000000 in
theorem some_any (n : Nat) (hn : n ≤ 100000) (w : World) :
    Calls Try.prog 20 #[.int .i64 n] w fun e w' => (∃ b, e = .returned (.slice (some ⟨b, 0, none⟩) n n) ∧ Xs w' w.heap.size b n n) ∧ Below w.heap.size w w' := by
  obtain ⟨i5, hi5, hz5, hs5, hb5⟩ := info_parts info5
  have hnI : (n : Int) ≤ 100000 := by omega
  have hn0 : (0 : Int) ≤ (n : Int) := by omega
  go_enter Try.func20, Try.ntmps20
  go_wp2_with (refine wpList_make_full _ rfl _ _ 47 rfl w.heap.size 5 i5 (.int .u8 0) 1 Try.underlying47 hi5 hz5 hs5 .i64 .i64 _ _ n rfl rfl (by simp) (by simp) (by rw [hb5]; omega) (by unfold maxLen; omega) (Nat.le_refl _) ?_)
  intro w1 hown hg
  have HX0 : Hid (Xs w1 w.heap.size w.heap.size n 0) := by
    unfold Hid Xs
    have e : (madeCells #[Value.int IntKind.u8 0] n).toList = List.replicate 0 (Value.int .u8 120) ++ List.replicate (n - 0) (Value.int .u8 0) := by
      rw [toList_madeCells_one]; simp
    rw [← e]; exact hown
  have HB1 : Hid (Below w.heap.size w w1) := (Below.refl _ w).grown hg (Nat.le_refl _) (fun k h => by cases h)
  obtain ⟨B, hB⟩ : ∃ B, w.heap.size = B := ⟨_, rfl⟩
  rw [hB] at HX0 HB1 ⊢
  have HEQ : Hid (w.heap.size = B) := hB
  clear hown hg hB hi5 hz5 hs5 hb5
  go_wp2_with fail
  go_loopw [4] (fun i wr => ∃ k : Nat, k ≤ n ∧ i = .int .i64 k ∧ Hid (Xs wr B B n k) ∧ Hid (Below B w wr)) (fun i _ => n - (intOf i).toNat)
  case atStart => exact ⟨0, by omega, rfl, HX0.out, HB1.out⟩
  case round =>
    obtain ⟨k, hk, rfl, HX, HB⟩ := hrel
    by_cases hlt : k < n
    · have hltI : (k : Int) < (n : Int) := by omega
      have hk0 : (0 : Int) ≤ (k : Int) := by omega
      have hc : wr.cell? ⟨B, k, none⟩ = some (.int .u8 0) := by
        rw [World.ownsRow.cellAt HX.out k (by omega), List.getElem?_append_right (by simp), List.length_replicate, Nat.sub_self, List.getElem?_replicate, if_pos (by omega)]
      have hf := World.ownsRow.frozenAt HX.out k
      have HX1 := Lib.hid (HX.out.next hlt)
      have HB2 := Lib.hid (HB.out.setCell (p := ⟨B, k, none⟩) (Nat.le_refl _) (.int .u8 120))
      go_wp2_with fail
      exact ⟨⟨k + 1, by omega, by go_num, HX1.out, HB2.out⟩, by simp [intOf]; omega⟩
    · have hge : ¬ (k : Int) < (n : Int) := by omega
      obtain rfl : k = n := by omega
      go_wp2_with fail
      go_ret
      exact ⟨⟨B, rfl, by rw [HEQ.out]; exact HX.out⟩, by rw [HEQ.out]; exact HB.out⟩
theorem ib_rep : ∀ n, Lib.indexByte (List.replicate n (120 : UInt8)) 0 = -1
  | 0 => rfl
  | n + 1 => by
    rw [List.replicate_succ, Lib.indexByte, ib_rep n]; decide
theorem rep_no (n : Nat) : decide (0 ≤ Lib.indexByte (⟨(List.replicate n (120 : UInt8)).toArray⟩ : ByteArray).data.toList 0) = false := by
  rw [decide_eq_false_iff_not]
  show ¬ 0 ≤ Lib.indexByte (List.replicate n (120 : UInt8)) 0
  rw [ib_rep]; decide
/-! What the law sets behind its loop. -/
theorem sz_rep (n : Nat) : (⟨(List.replicate n (120 : UInt8)).toArray⟩ : ByteArray).size = n := by
  show (List.replicate n (120 : UInt8)).toArray.size = n
  simp
theorem Full.a0 {L : List Pr} {n : Nat} (h : Full L n) (hn : 495 ≤ n) (y : ByteArray) (hy : decide (0 ≤ Lib.indexByte y.data.toList 0) = false) :
    setE L (nm 0) y = (if 4096 < y.size then 3 else 0) ∧ Ris (setR L (nm 0) y) ∧ (setR L (nm 0) y).length = min n 500 ∧ has (setR L (nm 0) y) (nm 1).data.toList = true := by
  have h0 : has L (nm 0).data.toList = true := by rw [h.keys 0 (by omega)]; exact decide_eq_true (by omega)
  have h1 : has L (nm 1).data.toList = true := by rw [h.keys 1 (by omega)]; exact decide_eq_true (by omega)
  have hE : setE L (nm 0) y = if 4096 < y.size then 3 else 0 := by
    unfold setE
    rw [if_pos ⟨nm_ok ⟨0, by omega⟩, hy⟩, h0]
    by_cases h4 : 4096 < y.size
    · rw [if_pos h4, if_pos (.inl h4)]
    · rw [if_neg h4, if_neg]
      rintro (h2 | ⟨h2, _⟩)
      · exact h4 h2
      · cases h2
  refine ⟨hE, ris_setR h.ris _ _, ?_, ?_⟩
  · unfold setR
    split
    · rw [setL_len, h0, h.len]; simp
    · exact h.len
  · unfold setR
    split
    · rw [has_setL h.ris, h1, Bool.or_true]
    · exact h1
theorem len_unset {L : List Pr} {x : Bs} (h : has L x = true) : (unsetL L x).length + 1 = L.length := by
  unfold unsetL
  obtain ⟨hl, _⟩ := has_iff.1 h
  rw [if_pos h, List.length_eraseIdx, if_pos hl]; omega
def sb : ByteArray := ⟨#[98]⟩
theorem sb_ok : okName sb = true := by decide +kernel
theorem set_b {L : List Pr} (h : L.length ≤ 499) : setE L sb ⟨#[]⟩ = 0 := by
  unfold setE
  rw [if_pos ⟨sb_ok, by decide⟩, if_neg]
  rintro (h2 | ⟨_, h2⟩)
  · exact absurd h2 (by decide)
  · omega
end Go.Proofs.Ytkdacdbmlgffgaa
