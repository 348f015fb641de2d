import Derived.Test.YtplhgjngbnkhbaaDoorR
namespace Go.Proofs.YtplhgjngbnkhbaaDoor
open Go.RowKit
set_option linter.unusedVariables false

/-- What is asked of the library's tables. -/
structure Tabs (w : World) : Prop where
  db : w.cell? ⟨8, 15, none⟩ = some (.int .u8 4)
  pow : Lib.TabIs Tryd.prog w "internal/strconv.uint64pow10" .u64 Lib.pow10Tab
theorem Tabs.below {w w' : World} (h : Tabs w) (k : Below w.heap.size w w') : Tabs w' := by
  have h8 : 8 < w.heap.size := World.block_lt_of_cell? w _ h.db
  refine ⟨(k.cell (p := ⟨8, 15, none⟩) h8).trans h.db, ?_⟩
  have h1 := h.pow
  unfold Lib.TabIs World.var? at h1 ⊢
  have hg : Tryd.prog.globalNamed "internal/strconv.uint64pow10" = some 1 := by kernel_rfl
  rw [hg] at h1 ⊢
  simp only [Option.bind_some] at h1 ⊢
  rw [k.block 1 (by omega)]
  exact h1

set_option maxRecDepth 100000 in
set_option maxHeartbeats 2000000 in
theorem pow16 (w : World) : Calls Tryd.prog 90 #[.int .i64 16] w fun e w' => e = .returned (.bool true) ∧ w' = w := by
  go_enter Tryd.func90, Tryd.ntmps90
  go_wp2_with fail
  go_ret
  exact ⟨rfl, rfl⟩
set_option maxRecDepth 100000 in
set_option maxHeartbeats 2000000 in
theorem tz16' (w : World) (hT : Tabs w) : Calls Tryd.prog 101 #[.int .u64 16] w fun e w' => e = .returned (.int .i64 4) ∧ w' = w := by
  have hc := hT.db
  have hx : IntKind.u64.wrap (bits .and .u64 16 (IntKind.u64.wrap (-16)) * 285870213051353865) / 288230376151711744 = 15 := by decide +kernel
  have hadd : (⟨8, 0, none⟩ : Addr).add 15 = ⟨8, 15, none⟩ := rfl
  go_enter Tryd.func101, Tryd.ntmps101
  go_wp2_with fail
  go_ret
  exact ⟨rfl, rfl⟩
set_option maxRecDepth 100000 in
set_option maxHeartbeats 2000000 in
theorem tz16 (w : World) (hT : Tabs w) : Calls Tryd.prog 91 #[.int .u64 16] w fun e w' => e = .returned (.int .i64 4) ∧ w' = w := by
  go_enter Tryd.func91, Tryd.ntmps91
  go_wp2_with fail
  refine (tz16' w hT).mono ?_
  rintro e w' ⟨rfl, hw⟩
  obtain rfl := hw.symm
  go_wp2_with fail
  go_ret
  exact ⟨rfl, rfl⟩

theorem hex_digs : ∀ k : Fin 16, (⟨#[48, 49, 50, 51, 52, 53, 54, 55, 56, 57, 97, 98, 99, 100, 101, 102, 103, 104, 105, 106, 107, 108, 109, 110, 111, 112, 113, 114, 115, 116, 117, 118, 119, 120, 121, 122]⟩ : ByteArray)[k.val]'(Nat.lt_of_lt_of_le k.isLt (by decide)) = hexDig k.val := by decide
/-- The digits that stand at the end of the array. -/
structure Suf (w : World) (b : Nat) (j : Nat) (l : Bs) : Prop where
  len : j + l.length = 65
  cells : ∀ t (h : t < l.length), w.cell? ⟨b, j + t, none⟩ = some (.int .u8 l[t].toNat)
  all : ∀ t, t < 65 → ∃ v, w.cell? ⟨b, t, none⟩ = some v
  frozen : ∀ t, t < 65 → w.frozen? ⟨b, t, none⟩ = false
theorem Suf.put {w : World} {b j : Nat} {l : Bs} (h : Suf w b (j + 1) l) (c : UInt8) : Suf (w.setCell ⟨b, j, none⟩ (.int .u8 c.toNat)) b j (c :: l) := by
  have hj : j < 65 := by have := h.len; omega
  obtain ⟨v, hv⟩ := h.all j hj
  refine ⟨by have := h.len; simp; omega, fun t ht => ?_, fun t ht => ?_, fun t ht => ?_⟩
  · cases t with
    | zero => exact World.cell?_setCell_same _ _ _ hv
    | succ t =>
      rw [World.cell?_setCell_other _ _ _ _ (by simp)]
      have := h.cells t (by simpa using ht)
      rw [show j + (t + 1) = j + 1 + t by omega]
      exact this
  · by_cases e : t = j
    · subst e; exact ⟨_, World.cell?_setCell_same _ _ _ hv⟩
    · obtain ⟨u, hu⟩ := h.all t ht
      exact ⟨u, by rw [World.cell?_setCell_other _ _ _ _ (fun h => e (by injection h with _ h; exact h.symm))]; exact hu⟩
  · rw [World.frozen?_setCell]; exact h.frozen t ht
theorem suf_start (w : World) : Suf (w.alloc (.cells Tryd.zeroCells103 103)) w.heap.size 65 [] := by
  have hz : Tryd.zeroCells103.size = 65 := by kernel_rfl
  refine ⟨rfl, fun t h => by simp at h, fun t ht => ?_, fun t ht => ?_⟩
  · refine ⟨Tryd.zeroCells103[t], ?_⟩
    rw [World.cell?_alloc_new, Array.getElem?_eq_getElem (by omega)]; rfl
  · exact World.frozen?_alloc_new _ _ _ _
theorem hexN_big {u : Nat} (h : ¬ u < 16) : hexN u = hexN (u / 16) ++ [hexDig (u % 16)] := by rw [hexN, dif_neg h]
theorem hexN_small {u : Nat} (h : u < 16) : hexN u = [hexDig u] := by rw [hexN, dif_pos h]

theorem addr_at (b i t : Nat) : (⟨b, i, none⟩ : Addr).add t = ⟨b, i + t, none⟩ := by unfold Addr.add; by_cases h : t = 0 <;> simp [h]
theorem slice_tail {b i K : Nat} (h : i + K = 65) (hp : i < 65) (W : World) : (Instr.sliceAt 103 (.pointer (some ⟨b, 0, none⟩)) (some (.int .i64 (i : Int))) none none).run Tryd.prog W = .ok (.slice (some ⟨b, i, none⟩) K K) W := by
  have hal : Tryd.prog.arrayLen 103 = 65 := by kernel_rfl
  have he : Tryd.prog.elem 103 = 5 := by kernel_rfl
  rw [run_sliceAt_array_l W 103 ⟨b, 0, none⟩ (by rw [hal, he]; exact Tryd.underlying103) .i64 (i : Int) (by omega) (by rw [hal]; omega), hal, he, Tryd.sizeOf5]
  simp only [Result.andThen, slicedAt, Int.toNat_natCast, Nat.mul_one, addr_at, Nat.zero_add]
  have hk : 65 - i = K := by omega
  rw [hk]
  rw [if_neg (by omega)]

set_option maxRecDepth 100000 in
set_option maxHeartbeats 4000000 in
theorem formatBits_any (u : Nat) (hu : u < 18446744073709551616) (w : World) (hT : Tabs w) :
    Calls Tryd.prog 72 #[.slice none 0 0, .int .u64 u, .int .i64 16, .bool false, .bool false] w fun e w' => e = .returned (.tuple #[.slice none 0 0, .string ⟨(hexN u).toArray⟩]) ∧ Below w.heap.size w w' := by
  obtain ⟨R, hR⟩ : ∃ R, hexN u = R := ⟨_, rfl⟩
  have hRl : R.length ≤ 16 := by rw [← hR]; exact (hexN_pad 15 u (by simpa using hu)).1
  rw [hR]
  have HR := Lib.hid hR
  clear hR
  go_enter Tryd.func72, Tryd.ntmps72
  go_wp2_with fail
  have hT1 : Tabs (w.alloc (.cells Tryd.zeroCells103 103)) := hT.below ((Below.refl _ w).alloc (Nat.le_refl _) _)
  have hS1 := suf_start w
  have hB1 : Below w.heap.size w (w.alloc (.cells Tryd.zeroCells103 103)) := (Below.refl _ w).alloc (Nat.le_refl _) _
  obtain ⟨W1, hW1⟩ : ∃ W1, w.alloc (.cells Tryd.zeroCells103 103) = W1 := ⟨_, rfl⟩
  rw [hW1] at hT1 hS1 hB1 ⊢
  have HT1 := Lib.hid hT1
  have HS1 := Lib.hid hS1
  have HB1 := Lib.hid hB1
  clear hW1 hT1 hS1 hB1
  obtain ⟨b, hb⟩ : ∃ b, w.heap.size = b := ⟨_, rfl⟩
  rw [hb] at HS1 ⊢
  refine (pow16 W1).mono ?_
  rintro e w' ⟨rfl, hw⟩
  obtain rfl := hw.symm
  go_wp2_with fail
  refine (tz16 W1 HT1.out).mono ?_
  rintro e w' ⟨rfl, hw⟩
  obtain rfl := hw.symm
  go_wp2_with fail
  go_loopw [1, 13] (fun ua ja wr => ∃ (v j : Nat) (l : Bs), ua = .int .u64 v ∧ ja = .int .i64 j ∧ Hid (Suf wr b j l ∧ Below w.heap.size w wr ∧ hexN v ++ l = R) ∧ v < 18446744073709551616 ∧ j ≤ 65 ∧ 49 ≤ j) (fun ua _ _ => (intOf ua).toNat)
  case atStart => exact ⟨u, 65, [], rfl, rfl, ⟨HS1.out, HB1.out, by rw [List.append_nil]; exact HR.out⟩, hu, by omega, by omega⟩
  case round =>
    obtain ⟨v, j, l, rfl, rfl, HL, hv, hj, hj2⟩ := hrel
    have hpos := hexN_pos v
    have hlen : (hexN v).length + l.length ≤ 16 := by rw [← List.length_append, HL.out.2.2]; exact hRl
    have hjl := HL.out.1.len
    obtain ⟨i, hi⟩ : ∃ i, j = i + 1 := ⟨j - 1, by omega⟩
    subst hi
    have hi49 : 49 ≤ i := by omega
    obtain ⟨K, hK⟩ : ∃ K, i + K = 65 := ⟨65 - i, by omega⟩
    have hKl : l.length + 1 = K := by omega
    have hi0 : (0 : Int) ≤ (i : Int) := by omega
    have hi65 : (i : Int) < 65 := by omega
    have hsub : IntKind.i64.wrap (((i + 1 : Nat) : Int) - 1) = (i : Int) := by rw [IntKind.wrap_i64]; omega
    have hsub2 : wrap64 (((i + 1 : Nat) : Int) - 1) = (i : Int) := by unfold wrap64; omega
    have hsub3 : ((i : Int) + 1 - 1) = (i : Int) := by omega
    have hwi : IntKind.i64.wrap (i : Int) = (i : Int) := by rw [IntKind.wrap_i64]; omega
    have hwi2 : wrap64 (i : Int) = (i : Int) := by unfold wrap64; omega
    have hadd : (⟨b, 0, none⟩ : Addr).add i = ⟨b, i, none⟩ := by unfold Addr.add; by_cases h : i = 0 <;> simp [h]
    obtain ⟨v0, hc0⟩ := HL.out.1.all i hj
    have hf0 := HL.out.1.frozen i hj
    by_cases hge : v < 16
    · have hg : ¬ (16 : Int) ≤ (v : Int) := by omega
      have hlt2 : (v : Int) < 36 := by omega
      have hv0 : (0 : Int) ≤ (v : Int) := by omega
      have hd := hex_digs ⟨v, hge⟩
      simp only at hd
      have hput := HL.out.1.put (hexDig v)
      have HN : Hid (hexDig v :: l = R) := by rw [Hid, ← HL.out.2.2, hexN_small hge]; rfl
      obtain ⟨c, hc⟩ : ∃ c, hexDig v = c := ⟨_, rfl⟩
      rw [hc] at hd hput HN
      have hsl := slice_tail (b := b) hK hj
      have hcv := run_convert_bytes_back (P := Tryd.prog) (wr.setCell ⟨b, i, none⟩ (.int .u8 c.toNat)) 46 9 5 ⟨b, i, none⟩ K (c :: l) Tryd.underlying46 Tryd.underlying5 Tryd.underlying9 (fun t ht => by
        have := hput.cells t ht
        rw [addr_at, this])
      rw [List.length_cons, hKl] at hcv
      have HPUT := Lib.hid hput
      clear hc hput
      go_wp2_with fail
      go_ret2
      exact ⟨by rw [← HN.out]; rfl, (HL.out.2.1.setCell (p := ⟨b, i, none⟩) (Nat.le_of_eq hb) _).mono (Nat.le_of_eq hb.symm)⟩
    · have hg : (16 : Int) ≤ (v : Int) := by omega
      obtain ⟨k, hk⟩ : ∃ k, v % 16 = k := ⟨_, rfl⟩
      have hk16 : k < 16 := by omega
      have e1 : bits .and .u64 (v : Int) 15 = (k : Int) := by
        rw [← hk]
        have := u64_and_nat v 15 hv (by omega)
        rw [Nat.and_two_pow_sub_one_eq_mod v 4] at this
        exact this
      have hd := hex_digs ⟨k, hk16⟩
      simp only at hd
      have hk0 : (0 : Int) ≤ (k : Int) := by omega
      have hk36 : (k : Int) < 36 := by omega
      obtain ⟨q, hq⟩ : ∃ q, v / 16 = q := ⟨_, rfl⟩
      have hqI : (v : Int) / 16 = (q : Int) := by omega
      have hput := HL.out.1.put (hexDig k)
      have HN : Hid (hexN q ++ (hexDig k :: l) = R) := by rw [Hid, ← HL.out.2.2, hexN_big hge, hk, hq]; simp
      have HPUT := Lib.hid hput
      obtain ⟨c, hc⟩ : ∃ c, hexDig k = c := ⟨_, rfl⟩
      rw [hc] at hd HPUT HN
      have hq2 : q < v := by omega
      clear hc hput hk hq
      go_wp2_with fail
      exact ⟨⟨q, i, c :: l, rfl, rfl, ⟨HPUT.out, HL.out.2.1.setCell (p := ⟨b, i, none⟩) (Nat.le_of_eq hb) _, HN.out⟩, Nat.lt_trans hq2 hv, Nat.le_of_succ_le hj, hi49⟩, by simp [intOf]; exact hq2⟩

set_option maxRecDepth 100000 in
set_option maxHeartbeats 2000000 in
theorem FormatUint_in (u : Nat) (hu : u < 18446744073709551616) (w : World) (hT : Tabs w) :
    Calls Tryd.prog 52 #[.int .u64 u, .int .i64 16] w fun e w' => e = .returned (.string ⟨(hexN u).toArray⟩) ∧ Below w.heap.size w w' := by
  have H := Lib.hid (formatBits_any u hu w hT)
  clear hu
  obtain ⟨S, hS⟩ : ∃ S : ByteArray, ⟨(hexN u).toArray⟩ = S := ⟨_, rfl⟩
  rw [hS] at H ⊢
  clear hS
  go_enter Tryd.func52, Tryd.ntmps52
  go_wp2_with fail
  refine H.out.mono ?_
  rintro e w' ⟨rfl, hB⟩
  have HB := Lib.hid hB
  clear hB
  go_wp2_with fail
  go_ret
  exact ⟨rfl, HB.out⟩
set_option maxRecDepth 100000 in
set_option maxHeartbeats 2000000 in
theorem FormatUint_any (u : Nat) (hu : u < 18446744073709551616) (w : World) (hT : Tabs w) :
    Calls Tryd.prog 40 #[.int .u64 u, .int .i64 16] w fun e w' => e = .returned (.string ⟨(hexN u).toArray⟩) ∧ Below w.heap.size w w' := by
  have H := Lib.hid (FormatUint_in u hu w hT)
  clear hu
  obtain ⟨S, hS⟩ : ∃ S : ByteArray, ⟨(hexN u).toArray⟩ = S := ⟨_, rfl⟩
  rw [hS] at H ⊢
  clear hS
  go_enter Tryd.func40, Tryd.ntmps40
  go_wp2_with fail
  refine H.out.mono ?_
  rintro e w' ⟨rfl, hB⟩
  have HB := Lib.hid hB
  clear hB
  go_wp2_with fail
  go_ret
  exact ⟨rfl, HB.out⟩
end Go.Proofs.YtplhgjngbnkhbaaDoor
