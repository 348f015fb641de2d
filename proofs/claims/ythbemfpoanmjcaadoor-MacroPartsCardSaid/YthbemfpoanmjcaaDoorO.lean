import Derived.Test.YthbemfpoanmjcaaDoorN
import Derived.Shelf.Vars
namespace Go.Proofs.YthbemfpoanmjcaaDoor
open Go.RowKit
set_option linter.unusedVariables false

theorem someMax {W : World} (h : W.ShapedOpen Tryd.prog) : ∃ m, W.cell? ⟨0, 0, none⟩ = some (.int .i64 m) :=
  cell_of_shapedOpen_int (g := 0) (t := 3) (zero := #[.int .i64 0]) h (of_decide_eq_true (by kernel_rfl)) (by kernel_rfl) rfl (by kernel_rfl) (by kernel_rfl) Tryd.underlying3
theorem max_keep {w w' : World} (h : ∃ m, w.cell? ⟨0, 0, none⟩ = some (.int .i64 m)) (hb : Below w.heap.size w w') : ∃ m, w'.cell? ⟨0, 0, none⟩ = some (.int .i64 m) := by
  obtain ⟨m, hm⟩ := h
  exact ⟨m, (hb.cell (p := ⟨0, 0, none⟩) (World.block_lt_of_cell? w _ hm)).trans hm⟩
theorem alive_val : expandF [([97], [120, 46, 99, 32, 121])] [] 40 [] [36, 40, 97, 58, 46, 99, 61, 46, 111, 41] 0 = (([120, 46, 111, 32, 121], 0), 1) := by decide +kernel
set_option maxRecDepth 100000 in
set_option maxHeartbeats 4000000 in
theorem alive_any (w : World) (hm : ∃ m, w.cell? ⟨0, 0, none⟩ = some (.int .i64 m)) : Calls Tryd.prog 11 #[] w fun e w' => e = .returned (.bool true) ∧ Below w.heap.size w w' := by
  have hb : Below w.heap.size w (w.alloc (.cells #[.string ⟨#[97]⟩, .string ⟨#[120, 46, 99, 32, 121]⟩] 36)) := (Below.refl _ _).alloc (Nat.le_refl _) _
  have hp := PV.one w (⟨#[97]⟩, ⟨#[120, 46, 99, 32, 121]⟩) (by decide)
  have hx := Expand_any (.slice (some ⟨w.heap.size, 0, none⟩) 1 1) (.slice none 0 0) [(⟨#[97]⟩, ⟨#[120, 46, 99, 32, 121]⟩)] [] (by simp) (w.alloc (.cells #[.string ⟨#[97]⟩, .string ⟨#[120, 46, 99, 32, 121]⟩] 36)) ⟨#[36, 40, 97, 58, 46, 99, 61, 46, 111, 41]⟩ hp (PV.nil _ _) (max_keep hm hb)
  have he : expandF (bsl [((⟨#[97]⟩ : ByteArray), (⟨#[120, 46, 99, 32, 121]⟩ : ByteArray))]) (bsl []) 40 [] (⟨#[36, 40, 97, 58, 46, 99, 61, 46, 111, 41]⟩ : ByteArray).data.toList 0 = (([120, 46, 111, 32, 121], 0), 1) := alive_val
  rw [he] at hx
  have HX := Lib.hid hx
  have HN := Lib.hid (fun w => num_any 0 w)
  have HB0 := Lib.hid hb
  clear hx he hp hb hm
  go_enter Tryd.func11, Tryd.ntmps11
  go_wp2_with (go_at_call 15; refine HX.out.mono ?_)
  rintro e w5 ⟨t, rfl, ht, hB⟩
  have htt : t = ⟨#[120, 46, 111, 32, 121]⟩ := ba_ext ht
  subst htt
  have HB := Lib.hid (HB0.out.trans (hB.mono HB0.out.size))
  clear ht hB
  simp only []
  go_wp2_with (go_at_call 16; refine (HN.out _).mono ?_; rintro e w6 ⟨rfl, h6⟩; obtain rfl := h6.symm; simp only [])
  go_ret
  exact ⟨rfl, HB.out⟩
set_option maxRecDepth 100000 in
set_option maxHeartbeats 4000000 in
theorem big_any (lv : Value) (l : Prs) (w : World) (h : PV w.heap.size w lv l) : Calls Tryd.prog 14 #[lv] w fun e w' => ∃ b, e = .returned (.bool b) ∧ w' = w := by
  obtain ⟨o, c, rfl⟩ := h.form
  have hll := h.len
  have HP := Lib.hid h
  have hlI : (l.length : Int) ≤ 9223372036854775807 := by omega
  clear h
  go_enter Tryd.func14, Tryd.ntmps14
  go_wp2_with fail
  go_loopw [3, 4] (fun x i wx => ∃ (k : Nat) (z : Int), x = .int .i64 z ∧ i = .int .i64 k ∧ k ≤ l.length ∧ k ≤ 40 ∧ wx = w) (fun _ i _ => 40 - (intOf i).toNat)
  case atStart => exact ⟨0, 0, rfl, rfl, Nat.zero_le _, by omega, rfl⟩
  case round =>
    obtain ⟨k, z, rfl, rfl, hk, hk4, rfl⟩ := hrel
    by_cases hlt : k < l.length
    · have hltd : decide ((k : Int) < (l.length : Int)) = true := decide_eq_true (by omega)
      have hltI : (k : Int) < (l.length : Int) := by omega
      have hk0 : (0 : Int) ≤ (k : Int) := by omega
      by_cases h40 : k < 40
      · have h4d : decide ((k : Int) < 40) = true := decide_eq_true (by omega)
        have hb64 : IntKind.i64.wrap ((k : Int) + 1) = (k : Int) + 1 := IntWalk.i64_in _ (by omega)
        rcases HP.out.at' with ⟨o1, c1, _, h0⟩ | ⟨b, off, cap, h1, h2, h3, h4⟩
        · rw [h0] at hlt; simp at hlt
        injection h1 with e1 _ e2
        subst e1
        obtain ⟨q0, q1⟩ := h4 k hlt
        have ad := add2 b off k
        obtain ⟨x, hx⟩ : ∃ x, l[k] = x := ⟨_, rfl⟩
        rw [hx] at q0 q1
        obtain ⟨q, hq⟩ : ∃ q, IntKind.i64.wrap (z + (x.2.size : Int)) = q := ⟨_, rfl⟩
        clear h4 hx
        go_wp2_with fail
        go_roundw
        case measure => simp [intOf]; omega
        case rel => exact ⟨k + 1, q, rfl, by go_num, by omega, by omega, by simp⟩
      · have h4d : decide ((k : Int) < 40) = false := decide_eq_false (by omega)
        obtain ⟨q, hq⟩ : ∃ q, decide ((30 : Int) < (l.length : Int)) = q := ⟨_, rfl⟩
        obtain ⟨q2, hq2⟩ : ∃ q, decide ((2000 : Int) < z) = q := ⟨_, rfl⟩
        cases q <;>
        · go_wp2_with fail
          go_ret
          exact ⟨_, rfl, rfl⟩
    · have hltd : decide ((k : Int) < (l.length : Int)) = false := decide_eq_false (by omega)
      obtain ⟨q, hq⟩ : ∃ q, decide ((30 : Int) < (l.length : Int)) = q := ⟨_, rfl⟩
      obtain ⟨q2, hq2⟩ : ∃ q, decide ((2000 : Int) < z) = q := ⟨_, rfl⟩
      cases q <;>
      · go_wp2_with fail
        go_ret
        exact ⟨_, rfl, rfl⟩
/-! A text whose signs are doubled. -/
def dbl : Bs → Bs
  | [] => []
  | c :: t => if c = 36 then 36 :: 36 :: dbl t else c :: dbl t
theorem dbl_app (a b : Bs) : dbl (a ++ b) = dbl a ++ dbl b := by
  induction a with
  | nil => rfl
  | cons c a ih => rw [List.cons_append, dbl, dbl]; split <;> rw [ih] <;> rfl
theorem dbl_no {a : Bs} (h : (36 : UInt8) ∉ a) : dbl a = a := by
  induction a with
  | nil => rfl
  | cons c a ih => rw [dbl, if_neg (fun e => h (by rw [e]; simp)), ih (fun hm => h (List.mem_cons_of_mem _ hm))]
theorem dbl_len (a : Bs) : (dbl a).length ≤ 2 * a.length := by
  induction a with
  | nil => exact Nat.le_refl _
  | cons c a ih => rw [dbl]; split <;> (simp only [List.length_cons]; omega)
theorem idx_no {a : Bs} (h : (36 : UInt8) ∉ a) : Lib.indexByte a 36 = -1 := by
  induction a with
  | nil => rfl
  | cons c a ih =>
    have h1 : c ≠ (36 : UInt8) := fun e => h (by rw [e]; simp)
    rw [Lib.indexByte, if_neg (by simpa using h1), ih (fun hm => h (List.mem_cons_of_mem _ hm))]; rfl
theorem idx_at {a : Bs} (b : Bs) (h : (36 : UInt8) ∉ a) : Lib.indexByte (a ++ 36 :: b) 36 = a.length := by
  induction a with
  | nil => rw [List.nil_append, Lib.indexByte, if_pos (by simp)]; rfl
  | cons c a ih =>
    have h1 : c ≠ (36 : UInt8) := fun e => h (by rw [e]; simp)
    rw [List.cons_append, Lib.indexByte, if_neg (by simpa using h1), ih (fun hm => h (List.mem_cons_of_mem _ hm)), if_neg (by simp), List.length_cons]; omega
theorem pieces_plain (rf : Bs → Nat → R) {f : Nat} {s out : Bs} {c : Nat} (h : (36 : UInt8) ∉ s) : piecesF rf (f + 1) s out c = fin3 (out ++ s) c := piecesF_end (.inl (by rw [idx_no h]; decide))
theorem pieces_dbl (rf : Bs → Nat → R) : ∀ (n : Nat) (s out : Bs) (f c : Nat), s.length ≤ n → (dbl s).length < f → piecesF rf f (dbl s) out c = fin3 (out ++ s) c
  | n, s, out, 0, c, _, h => by omega
  | n, s, out, f + 1, c, hn, hf => by
    by_cases h : (36 : UInt8) ∈ s
    · obtain ⟨a, b, rfl, ha⟩ := List.eq_append_cons_of_mem h
      have e : dbl (a ++ 36 :: b) = a ++ 36 :: 36 :: dbl b := by rw [dbl_app, dbl_no ha, dbl, if_pos rfl]
      rw [e] at hf ⊢
      have hd : (a ++ 36 :: 36 :: dbl b).drop a.length = 36 :: 36 :: dbl b := List.drop_left
      rw [piecesF_two (a := a.length) (idx_at _ ha) (by simp) (by rw [hd]; rfl), hd, List.take_left]
      cases n with
      | zero => simp at hn
      | succ n =>
        show piecesF rf f (dbl b) (out ++ a ++ [36]) c = _
        rw [pieces_dbl rf n b _ f c (by simp at hn; omega) (by simp at hf; omega)]
        simp
    · rw [dbl_no h]; exact pieces_plain rf h
theorem expand_dbl (l au : List Pr) (d : Nat) (op : List Bs) (s : Bs) (c : Nat) (h : s.length ≤ 8192) : expandF l au d op (dbl s) c = ((s, 0), c) := by
  have hl := dbl_len s
  have hf : fin3 ([] ++ s) c = ((s, 0), c) := by unfold fin3; rw [if_neg (by simp; omega)]; rfl
  cases d with
  | zero => rw [expand_zero, if_neg (by omega), pieces_dbl _ _ s [] _ c (Nat.le_refl _) (by omega), hf]
  | succ d => rw [expand_succ, if_neg (by omega), pieces_dbl _ _ s [] _ c (Nat.le_refl _) (by omega), hf]
theorem expand_plain (l au : List Pr) (d : Nat) (op : List Bs) (s : Bs) (c : Nat) (h : s.length ≤ 8192) (hn : (36 : UInt8) ∉ s) : expandF l au d op s c = ((s, 0), c) := by
  have := expand_dbl l au d op s c h
  rwa [dbl_no hn] at this
set_option maxRecDepth 100000 in
set_option maxHeartbeats 8000000 in
theorem plain_walk (s : ByteArray) (lv : Value) (l : Prs) (W : World) (hl : PV W.heap.size W lv l) (hs : s.size ≤ maxLen) (hmm : ∃ m, W.cell? ⟨0, 0, none⟩ = some (.int .i64 m)) :
    Calls Tryd.prog 4 #[.string s, lv] W fun e w' => e = .returned (.bool true) ∧ Below W.heap.size W w' := by
  have HA := Lib.hid (alive_any W hmm)
  have HBG := Lib.hid (fun w hb => big_any lv l w (Below.pv hl hb))
  have HXP := Lib.hid (fun w s hb => Expand_any lv (.slice none 0 0) l [] (by simp) w s (Below.pv hl hb) (PV.nil _ _) (max_keep hmm hb))
  clear hl hmm
  by_cases h6 : 600 < s.size
  · have hd : decide ((600 : Int) < (s.size : Int)) = true := decide_eq_true (by omega)
    go_enter Tryd.func4, Tryd.ntmps4
    go_wp2_with (first
      | (go_at_call 11; refine HA.out.mono ?_; rintro e w5 ⟨rfl, h5⟩; have HB := Lib.hid h5; clear h5; simp only [])
      | (go_at_call 14; refine (HBG.out _ HB.out).mono ?_))
    rintro e w6 ⟨b, rfl, h6⟩
    obtain rfl := h6.symm
    cases b <;>
    · simp only []
      go_wp2_with fail
      go_ret
      exact ⟨rfl, HB.out⟩
  have hd : decide ((600 : Int) < (s.size : Int)) = false := decide_eq_false (by omega)
  go_enter Tryd.func4, Tryd.ntmps4
  go_wp2_with (first
    | (go_at_call 11; refine HA.out.mono ?_; rintro e w5 ⟨rfl, h5⟩; have HB := Lib.hid h5; clear h5; simp only [])
    | (go_at_call 14; refine (HBG.out _ HB.out).mono ?_))
  rintro e w6 ⟨b, rfl, h6⟩
  obtain rfl := h6.symm
  cases b with
  | true =>
    simp only []
    go_wp2_with fail
    go_ret
    exact ⟨rfl, HB.out⟩
  | false =>
    have HN := Lib.hid (fun w => num_any 0 w)
    simp only []
    go_wp2_with fail
    go_loopw [7, 8] (fun x i wx => ∃ (k : Nat) (D : ByteArray), x = .string D ∧ i = .int .i64 k ∧ k ≤ s.size ∧ wx = w5 ∧ D.size ≤ 2 * k ∧ Hid (D.data.toList = dbl (s.data.toList.take k))) (fun _ i _ => s.size - (intOf i).toNat)
    case atStart => exact ⟨0, _, rfl, rfl, Nat.zero_le _, rfl, Nat.le_refl _, rfl⟩
    case round =>
      obtain ⟨k, D, rfl, rfl, hk, rfl, hD, HD⟩ := hrel
      by_cases hlt : k < s.size
      · have hltd : decide ((k : Int) < (s.size : Int)) = true := decide_eq_true (by omega)
        have hltI : (k : Int) < (s.size : Int) := by omega
        have hk0 : (0 : Int) ≤ (k : Int) := by omega
        have hb64 : IntKind.i64.wrap ((k : Int) + 1) = (k : Int) + 1 := IntWalk.i64_in _ (by omega)
        have hkk : (k : Int) ≤ (k : Int) + 1 := by omega
        have hk1 : (k : Int) + 1 ≤ (s.size : Int) := by omega
        have hk10 : (0 : Int) ≤ (k : Int) + 1 := by omega
        have htk : s.data.toList.take (k + 1) = s.data.toList.take k ++ [s[k]'hlt] := by
          rw [List.take_add_one, Lib.data_getElem? s k hlt]; rfl
        obtain ⟨hE1, hE2⟩ := ext_dt (t := s) (a := k) (b := k + 1) (by omega) (by omega)
        rw [htk, List.drop_append_of_le_length (by rw [List.length_take, dl]; omega), List.drop_eq_nil_of_le (by rw [List.length_take, dl]; omega), List.nil_append] at hE1
        obtain ⟨E, hE⟩ : ∃ E, s.extract k (k + 1) = E := ⟨_, rfl⟩
        rw [hE] at hE1 hE2
        obtain ⟨c, hc⟩ : ∃ c, s[k]'hlt = c := ⟨_, rfl⟩
        rw [hc] at htk hE1
        have h36 := byte_eq c 36
        rw [show ((36 : UInt8).toNat : Int) = 36 from rfl] at h36
        have hEs : E.size = 1 := by omega
        by_cases hc36 : c = 36
        · have g1 : ((c.toNat : Int) == 36) = true := by rw [h36, hc36]; rfl
          obtain ⟨D2, hD2⟩ : ∃ D2 : ByteArray, D ++ (⟨#[36]⟩ : ByteArray) = D2 := ⟨_, rfl⟩
          have hD2s : D2.size = D.size + 1 := by rw [← hD2, ByteArray.size_append]; rfl
          have hz1 : ¬ (9223372036854775807 < D.size + 1) := by omega
          have hz2 : ¬ (9223372036854775807 < D2.size + E.size) := by omega
          have HN2 : Hid ((D2 ++ E).data.toList = dbl (s.data.toList.take (k + 1))) := by
            rw [Hid, htk, dbl_app, ← HD.out, ByteArray.data_append, Array.toList_append, hE1, ← hD2, ByteArray.data_append, Array.toList_append, dbl, if_pos hc36, hc36, dbl]
            simp
          have hsz : (D2 ++ E).size ≤ 2 * (k + 1) := by rw [ByteArray.size_append]; omega
          clear h36 hc36 htk hE1 hD2s hE2 hEs
          go_wp2_with fail
          go_roundw
          case measure => simp [intOf]; omega
          case rel => exact ⟨k + 1, _, rfl, by go_num, by omega, by simp, hsz, HN2.out⟩
        · have g1 : ((c.toNat : Int) == 36) = false := by rw [h36]; simpa using hc36
          have hz2 : ¬ (9223372036854775807 < D.size + E.size) := by omega
          have HN2 : Hid ((D ++ E).data.toList = dbl (s.data.toList.take (k + 1))) := by
            rw [Hid, htk, dbl_app, ← HD.out, ByteArray.data_append, Array.toList_append, hE1, dbl, if_neg hc36, dbl]
          have hsz : (D ++ E).size ≤ 2 * (k + 1) := by rw [ByteArray.size_append]; omega
          clear h36 hc36 htk hE1 hE2 hEs
          go_wp2_with fail
          go_roundw
          case measure => simp [intOf]; omega
          case rel => exact ⟨k + 1, _, rfl, by go_num, by omega, by simp, hsz, HN2.out⟩
      · have HKK : Hid (k = s.size) := (show k = s.size by omega)
        have hltd : decide ((k : Int) < (s.size : Int)) = false := decide_eq_false (by omega)
        have hx := HXP.out _ D HB.out
        have hval : expandF (bsl l) (bsl []) 40 [] D.data.toList 0 = ((s.data.toList, 0), 0) := by
          rw [HD.out, HKK.out, List.take_of_length_le (by rw [dl]; exact Nat.le_refl _)]
          exact expand_dbl _ _ _ _ _ _ (by rw [dl]; omega)
        rw [hval] at hx
        have HX := Lib.hid hx
        clear hx hval HD
        go_wp2_with (go_at_call 15; refine HX.out.mono ?_)
        rintro e w8 ⟨t, rfl, ht, hB8⟩
        have htt : t = s := ba_ext ht
        subst htt
        have HB8 := Lib.hid (HB.out.trans (hB8.mono HB.out.size))
        clear ht hB8 hlt hltd
        simp only []
        go_wp2_with (go_at_call 16; refine (HN.out _).mono ?_; rintro e w9 ⟨rfl, h9⟩; obtain rfl := h9.symm; simp only [])
        go_ret
        exact ⟨rfl, HB8.out⟩
end Go.Proofs.YthbemfpoanmjcaaDoor
