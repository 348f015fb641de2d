import Derived.Test.YtcmjpkfinbakkaaGreatDoorRE
namespace Go.Proofs.YtcmjpkfinbakkaaGreatDoor.Fl
set_option maxRecDepth 100000
open Go.RowKit
set_option linter.unusedVariables false

theorem digit_slice : ∀ k : Fin 10, (⟨#[48, 49, 50, 51, 52, 53, 54, 55, 56, 57]⟩ : ByteArray).extract k.val (k.val + 1) = ⟨#[UInt8.ofNat (48 + k.val)]⟩ := by decide
theorem dec_small {n : Nat} (h : n < 10) : Lib.decDigits n = [UInt8.ofNat (48 + n)] := by rw [Lib.decDigits, dif_pos h]
theorem dec_big {n : Nat} (h : ¬ n < 10) : Lib.decDigits n = Lib.decDigits (n / 10) ++ [UInt8.ofNat (48 + n % 10)] := by rw [Lib.decDigits, dif_neg h]

theorem dec_len : ∀ (k n : Nat), n < 10 ^ (k + 1) → (Lib.decDigits n).length ≤ k + 1
  | k, n, h => by
    by_cases h9 : n < 10
    · rw [dec_small h9]; simp
    · rw [dec_big h9]
      cases k with
      | zero => simp at h; omega
      | succ k =>
        rw [Nat.pow_succ] at h
        have := dec_len k (n / 10) (by omega)
        simp; omega

set_option maxRecDepth 100000 in
set_option maxHeartbeats 2000000 in
theorem RefDigits_any (n : Nat) (hn : n < 9223372036854775808) (w : World) :
    Calls Tryz.prog 21 #[.int .i64 n] w fun e w' => e = .returned (.string ⟨(Lib.decDigits n).toArray⟩) ∧ w' = w := by
  induction n using Nat.strongRecOn generalizing w with
  | _ n ih =>
    obtain ⟨R, hR⟩ : ∃ R, Lib.decDigits n = R := ⟨_, rfl⟩
    rw [hR]
    obtain ⟨k, hk⟩ : ∃ k, n % 10 = k := ⟨_, rfl⟩
    have hk10 : k < 10 := by omega
    have hm : (n : Int) % 10 = (k : Int) := by omega
    have hm2 : (n : Int).tmod 10 = (k : Int) := by rw [Int.tmod_eq_emod_of_nonneg (by omega)]; omega
    have hsl := digit_slice ⟨k, hk10⟩
    simp only at hsl
    obtain ⟨z, hz⟩ : ∃ z : ByteArray, ⟨#[UInt8.ofNat (48 + k)]⟩ = z := ⟨_, rfl⟩
    rw [hz] at hsl
    have HZ := Lib.hid hz
    have HR := Lib.hid hR
    have q1 : (k : Int) ≤ 10 := by omega
    have q2 : (k : Int) + 1 ≤ 10 := by omega
    have q3 : (0 : Int) ≤ (k : Int) := by omega
    have w1 : IntKind.i64.wrap ((k : Int) + 1) = (k : Int) + 1 := by rw [IntKind.wrap_i64]; omega
    have w2 : wrap64 ((k : Int) + 1) = (k : Int) + 1 := by unfold wrap64; omega
    have HK := Lib.hid hk
    by_cases h9 : n < 10
    · have b1 : ¬ (9 : Int) < (n : Int) := by omega
      have HD : Hid (R = [UInt8.ofNat (48 + k)]) := by rw [Hid, ← hR, dec_small h9, show k = n by omega]
      clear hk hR hz ih
      go_enter Tryz.func21, Tryz.ntmps21
      go_wp2_with fail
      go_ret
      exact ⟨by rw [HD.out, ← HZ.out]; rfl, rfl⟩
    · have b1 : (9 : Int) < (n : Int) := by omega
      have HD : Hid (R = Lib.decDigits (n / 10) ++ [UInt8.ofNat (48 + k)]) := by rw [Hid, ← hR, dec_big h9, hk]
      obtain ⟨m, hmm⟩ : ∃ m, n / 10 = m := ⟨_, rfl⟩
      rw [hmm] at HD
      have hd2 : (n : Int).tdiv 10 = (m : Int) := by rw [Int.tdiv_eq_ediv_of_nonneg (by omega)]; omega
      have hd3 : (n : Int) / 10 = (m : Int) := by omega
      have hi := ih m (by omega) (by omega) w
      obtain ⟨S, hS⟩ : ∃ S : ByteArray, ⟨(Lib.decDigits m).toArray⟩ = S := ⟨_, rfl⟩
      have hSs : S.size ≤ 19 := by
        rw [← hS]
        exact dec_len 18 m (by omega)
      have hzs : z.size = 1 := by rw [← HZ.out]; rfl
      rw [hS] at hi
      have HS := Lib.hid hS
      have w3 : IntKind.i64.wrap (m : Int) = (m : Int) := by rw [IntKind.wrap_i64]; omega
      have w4 : wrap64 (m : Int) = (m : Int) := by unfold wrap64; omega
      have HI := Lib.hid hi
      clear hk hR hz ih hi hmm hS
      go_enter Tryz.func21, Tryz.ntmps21
      go_wp2_with fail
      refine HI.out.mono ?_
      rintro e w' ⟨rfl, hw⟩
      obtain rfl := hw.symm
      go_wp2_with fail
      go_ret
      refine ⟨?_, rfl⟩
      rw [HD.out, ← HZ.out, ← HS.out]
      congr 2

theorem itoa_neg {n : Nat} (h : 0 < n) : Lib.itoa (-(n : Int)) = 45 :: Lib.decDigits n := by
  unfold Lib.itoa
  rw [if_pos (by omega), Int.natAbs_neg, Int.natAbs_natCast]
theorem itoa_nat (n : Nat) : Lib.itoa (n : Int) = Lib.decDigits n := by
  unfold Lib.itoa
  rw [if_neg (by omega), Int.toNat_natCast]
set_option maxRecDepth 100000 in
set_option maxHeartbeats 2000000 in
theorem RefInt_any (n : Int) (h1 : -9223372036854775808 < n) (h2 : n < 9223372036854775808) (w : World) :
    Calls Tryz.prog 31 #[.int .i64 n] w fun e w' => e = .returned (.string ⟨(Lib.itoa n).toArray⟩) ∧ w' = w := by
  by_cases h : n < 0
  · obtain ⟨m, hm⟩ : ∃ m : Nat, n = -(m : Int) := ⟨n.natAbs, by omega⟩
    subst hm
    have hI := Lib.hid (itoa_neg (n := m) (by omega))
    obtain ⟨S, hS⟩ : ∃ S : ByteArray, ⟨(Lib.decDigits m).toArray⟩ = S := ⟨_, rfl⟩
    have hSs : S.size ≤ 19 := by
      rw [← hS]
      exact dec_len 18 m (by omega)
    have hd := RefDigits_any m (by omega) w
    rw [hS] at hd
    have HD := Lib.hid hd
    have HS := Lib.hid hS
    have b1 : (-(m : Int) == -9223372036854775808) = false := by rw [beq_eq_false_iff_ne]; omega
    have b2 : -(m : Int) < 0 := h
    have b3 : IntKind.i64.wrap (- -(m : Int)) = (m : Int) := by rw [IntKind.wrap_i64]; omega
    have b4 : wrap64 (- -(m : Int)) = (m : Int) := by unfold wrap64; omega
    have b5 : IntKind.i64.wrap (m : Int) = (m : Int) := by rw [IntKind.wrap_i64]; omega
    have b6 : wrap64 (m : Int) = (m : Int) := by unfold wrap64; omega
    clear hS hd h
    go_enter Tryz.func31, Tryz.ntmps31
    go_wp2_with fail
    refine HD.out.mono ?_
    rintro e w' ⟨rfl, hw⟩
    obtain rfl := hw.symm
    go_wp2_with fail
    go_ret
    exact ⟨by rw [hI.out, ← HS.out]; congr 2, rfl⟩
  · obtain ⟨m, hm⟩ : ∃ m : Nat, n = (m : Int) := ⟨n.toNat, by omega⟩
    subst hm
    have hI := Lib.hid (itoa_nat m)
    obtain ⟨S, hS⟩ : ∃ S : ByteArray, ⟨(Lib.decDigits m).toArray⟩ = S := ⟨_, rfl⟩
    have hd := RefDigits_any m (by omega) w
    rw [hS] at hd
    have HD := Lib.hid hd
    have HS := Lib.hid hS
    have b1 : ((m : Int) == -9223372036854775808) = false := by rw [beq_eq_false_iff_ne]; omega
    clear hS hd
    go_enter Tryz.func31, Tryz.ntmps31
    go_wp2_with fail
    refine HD.out.mono ?_
    rintro e w' ⟨rfl, hw⟩
    obtain rfl := hw.symm
    go_wp2_with fail
    go_ret
    exact ⟨by rw [hI.out, ← HS.out]; rfl, rfl⟩

theorem run_trunc (x : Nat) (h : rg x < 9218868437227405312) (w : World) : (callFunc 212 #[.float .f64 x]).run Tryz.prog w = .ok (.value (.float .f64 (wl (sg x) (tr x)))) w := by
  rw [run_callFunc_extern Tryz.func212 (by kernel_rfl) (by kernel_rfl) (by kernel_rfl) (e := Extern.MathFloor.toIntegral "math.archTrunc" .zero) (by kernel_rfl)]
  obtain ⟨m, a, hn⟩ := num_of h
  have hi := integral_num h
  have hr := hn.read
  have key : Extern.MathFloor.toIntegral "math.archTrunc" .zero #[.float .f64 x] = pure (.float .f64 (wl (sg x) (tr x))) := by
    delta Extern.MathFloor.toIntegral
    change (match FloatKind.f64.decode x with
      | .nan s t => _
      | d => pure (Value.float .f64 (FloatKind.f64.encode (d.integral .zero)))) = _
    rw [show FloatKind.f64.decode x = _ from hr]
    show pure (Value.float .f64 (D.write ((Ieee.Datum.number (sg x) m (-1074 + (a : Int))).integral .zero))) = _
    rw [← hr, hi]; rfl
  rw [key]; rfl
set_option maxRecDepth 100000 in
set_option maxHeartbeats 2000000 in
theorem Trunc_any (x : Nat) (h : rg x < 9218868437227405312) (w : World) : Calls Tryz.prog 164 #[.float .f64 x] w fun e w' => e = .returned (.float .f64 (wl (sg x) (tr x))) ∧ w' = w := by
  have hb := run_trunc x h
  clear h
  go_enter Tryz.func164, Tryz.ntmps164
  go_wp2_with fail
  go_ret
  exact ⟨rfl, rfl⟩
theorem sg_wrap {x : Nat} (hx : x < 18446744073709551616) : (IntKind.i64.wrap (x : Int) < 0) ↔ sg x = true := by
  rw [IntKind.wrap_i64]
  unfold sg
  rw [beq_iff_eq]
  omega
set_option maxRecDepth 100000 in
set_option maxHeartbeats 2000000 in
theorem Signbit_any (x : Nat) (hx : x < 18446744073709551616) (w : World) : Calls Tryz.prog 163 #[.float .f64 x] w fun e w' => e = .returned (.bool (sg x)) ∧ w' = w := by
  have hb := run_bits
  have HS := Lib.hid (sg_wrap hx)
  obtain ⟨q, hq⟩ : ∃ q, IntKind.i64.wrap (x : Int) = q := ⟨_, rfl⟩
  rw [hq] at HS
  cases h : sg x with
  | true =>
    have hneg : q < 0 := HS.out.2 h
    clear h hx
    go_enter Tryz.func163, Tryz.ntmps163
    go_wp2_with fail
    go_ret
    exact ⟨rfl, rfl⟩
  | false =>
    have hneg : ¬ q < 0 := fun e => by have := HS.out.1 e; rw [h] at this; cases this
    clear h hx
    go_enter Tryz.func163, Tryz.ntmps163
    go_wp2_with fail
    go_ret
    exact ⟨rfl, rfl⟩
end Go.Proofs.YtcmjpkfinbakkaaGreatDoor.Fl

namespace Go.Proofs.YtcmjpkfinbakkaaGreatDoor.Fl
set_option maxRecDepth 100000
open Go.RowKit
set_option linter.unusedVariables false

/-- What is asked of the library's tables. -/
structure Tabs (w : World) : Prop where
  db : w.cell? ⟨8, 15, none⟩ = some (.int .u8 4)
  pow : Lib.TabIs Tryz.prog w "internal/strconv.uint64pow10" .u64 Lib.pow10Tab
theorem Tabs.below {w w' : World} (h : Tabs w) (k : Below w.heap.size w w') : Tabs w' := by
  have h8 : 8 < w.heap.size := World.block_lt_of_cell? w _ h.db
  refine ⟨(k.cell (p := ⟨8, 15, none⟩) h8).trans h.db, ?_⟩
  have h1 := h.pow
  unfold Lib.TabIs World.var? at h1 ⊢
  have hg : Tryz.prog.globalNamed "internal/strconv.uint64pow10" = some 4 := by kernel_rfl
  rw [hg] at h1 ⊢
  simp only [Option.bind_some] at h1 ⊢
  rw [k.block 4 (by omega)]
  exact h1

set_option maxRecDepth 100000 in
set_option maxHeartbeats 2000000 in
theorem pow16 (w : World) : Calls Tryz.prog 284 #[.int .i64 16] w fun e w' => e = .returned (.bool true) ∧ w' = w := by
  go_enter Tryz.func284, Tryz.ntmps284
  go_wp2_with fail
  go_ret
  exact ⟨rfl, rfl⟩
set_option maxRecDepth 100000 in
set_option maxHeartbeats 2000000 in
theorem tz16' (w : World) (hT : Tabs w) : Calls Tryz.prog 294 #[.int .u64 16] w fun e w' => e = .returned (.int .i64 4) ∧ w' = w := by
  have hc := hT.db
  have hx : IntKind.u64.wrap (bits .and .u64 16 (IntKind.u64.wrap (-16)) * 285870213051353865) / 288230376151711744 = 15 := by decide +kernel
  have hadd : (⟨8, 0, none⟩ : Addr).add 15 = ⟨8, 15, none⟩ := rfl
  go_enter Tryz.func294, Tryz.ntmps294
  go_wp2_with fail
  go_ret
  exact ⟨rfl, rfl⟩
set_option maxRecDepth 100000 in
set_option maxHeartbeats 2000000 in
theorem tz16 (w : World) (hT : Tabs w) : Calls Tryz.prog 285 #[.int .u64 16] w fun e w' => e = .returned (.int .i64 4) ∧ w' = w := by
  go_enter Tryz.func285, Tryz.ntmps285
  go_wp2_with fail
  refine (tz16' w hT).mono ?_
  rintro e w' ⟨rfl, hw⟩
  obtain rfl := hw.symm
  go_wp2_with fail
  go_ret
  exact ⟨rfl, rfl⟩

theorem hex_digs : ∀ k : Fin 16, (⟨#[48, 49, 50, 51, 52, 53, 54, 55, 56, 57, 97, 98, 99, 100, 101, 102, 103, 104, 105, 106, 107, 108, 109, 110, 111, 112, 113, 114, 115, 116, 117, 118, 119, 120, 121, 122]⟩ : ByteArray)[k.val]'(Nat.lt_of_lt_of_le k.isLt (by decide)) = hexDig k.val := by decide
/-- The digits that stand at the end of the array. -/
structure Suf (w : World) (b : Nat) (j : Nat) (l : Bs) : Prop where
  len : j + l.length = 65
  cells : ∀ t (h : t < l.length), w.cell? ⟨b, j + t, none⟩ = some (.int .u8 l[t].toNat)
  all : ∀ t, t < 65 → ∃ v, w.cell? ⟨b, t, none⟩ = some v
  frozen : ∀ t, t < 65 → w.frozen? ⟨b, t, none⟩ = false
theorem Suf.put {w : World} {b j : Nat} {l : Bs} (h : Suf w b (j + 1) l) (c : UInt8) : Suf (w.setCell ⟨b, j, none⟩ (.int .u8 c.toNat)) b j (c :: l) := by
  have hj : j < 65 := by have := h.len; omega
  obtain ⟨v, hv⟩ := h.all j hj
  refine ⟨by have := h.len; simp; omega, fun t ht => ?_, fun t ht => ?_, fun t ht => ?_⟩
  · cases t with
    | zero => exact World.cell?_setCell_same _ _ _ hv
    | succ t =>
      rw [World.cell?_setCell_other _ _ _ _ (by simp)]
      have := h.cells t (by simpa using ht)
      rw [show j + (t + 1) = j + 1 + t by omega]
      exact this
  · by_cases e : t = j
    · subst e; exact ⟨_, World.cell?_setCell_same _ _ _ hv⟩
    · obtain ⟨u, hu⟩ := h.all t ht
      exact ⟨u, by rw [World.cell?_setCell_other _ _ _ _ (fun h => e (by injection h with _ h; exact h.symm))]; exact hu⟩
  · rw [World.frozen?_setCell]; exact h.frozen t ht
theorem suf_start (w : World) : Suf (w.alloc (.cells Tryz.zeroCells287 287)) w.heap.size 65 [] := by
  have hz : Tryz.zeroCells287.size = 65 := by kernel_rfl
  refine ⟨rfl, fun t h => by simp at h, fun t ht => ?_, fun t ht => ?_⟩
  · refine ⟨Tryz.zeroCells287[t], ?_⟩
    rw [World.cell?_alloc_new, Array.getElem?_eq_getElem (by omega)]; rfl
  · exact World.frozen?_alloc_new _ _ _ _
theorem hexN_big {u : Nat} (h : ¬ u < 16) : hexN u = hexN (u / 16) ++ [hexDig (u % 16)] := by rw [hexN, dif_neg h]
theorem hexN_small {u : Nat} (h : u < 16) : hexN u = [hexDig u] := by rw [hexN, dif_pos h]

theorem addr_at (b i t : Nat) : (⟨b, i, none⟩ : Addr).add t = ⟨b, i + t, none⟩ := by unfold Addr.add; by_cases h : t = 0 <;> simp [h]
theorem slice_tail {b i K : Nat} (h : i + K = 65) (hp : i < 65) (W : World) : (Instr.sliceAt 287 (.pointer (some ⟨b, 0, none⟩)) (some (.int .i64 (i : Int))) none none).run Tryz.prog W = .ok (.slice (some ⟨b, i, none⟩) K K) W := by
  have hal : Tryz.prog.arrayLen 287 = 65 := by kernel_rfl
  have he : Tryz.prog.elem 287 = 5 := by kernel_rfl
  rw [run_sliceAt_array_l W 287 ⟨b, 0, none⟩ (by rw [hal, he]; exact Tryz.underlying287) .i64 (i : Int) (by omega) (by rw [hal]; omega), hal, he, Tryz.sizeOf5]
  simp only [Result.andThen, slicedAt, Int.toNat_natCast, Nat.mul_one, addr_at, Nat.zero_add]
  have hk : 65 - i = K := by omega
  rw [hk]
  rw [if_neg (by omega)]

set_option maxRecDepth 100000 in
set_option maxHeartbeats 4000000 in
theorem formatBits_any (u : Nat) (hu : u < 18446744073709551616) (w : World) (hT : Tabs w) :
    Calls Tryz.prog 257 #[.slice none 0 0, .int .u64 u, .int .i64 16, .bool false, .bool false] w fun e w' => e = .returned (.tuple #[.slice none 0 0, .string ⟨(hexN u).toArray⟩]) ∧ Below w.heap.size w w' := by
  obtain ⟨R, hR⟩ : ∃ R, hexN u = R := ⟨_, rfl⟩
  have hRl : R.length ≤ 16 := by rw [← hR]; exact (hexN_pad 15 u (by simpa using hu)).1
  rw [hR]
  have HR := Lib.hid hR
  clear hR
  go_enter Tryz.func257, Tryz.ntmps257
  go_wp2_with fail
  have hT1 : Tabs (w.alloc (.cells Tryz.zeroCells287 287)) := hT.below ((Below.refl _ w).alloc (Nat.le_refl _) _)
  have hS1 := suf_start w
  have hB1 : Below w.heap.size w (w.alloc (.cells Tryz.zeroCells287 287)) := (Below.refl _ w).alloc (Nat.le_refl _) _
  obtain ⟨W1, hW1⟩ : ∃ W1, w.alloc (.cells Tryz.zeroCells287 287) = W1 := ⟨_, rfl⟩
  rw [hW1] at hT1 hS1 hB1 ⊢
  have HT1 := Lib.hid hT1
  have HS1 := Lib.hid hS1
  have HB1 := Lib.hid hB1
  clear hW1 hT1 hS1 hB1
  obtain ⟨b, hb⟩ : ∃ b, w.heap.size = b := ⟨_, rfl⟩
  rw [hb] at HS1 ⊢
  refine (pow16 W1).mono ?_
  rintro e w' ⟨rfl, hw⟩
  obtain rfl := hw.symm
  go_wp2_with fail
  refine (tz16 W1 HT1.out).mono ?_
  rintro e w' ⟨rfl, hw⟩
  obtain rfl := hw.symm
  go_wp2_with fail
  go_loopw [1, 13] (fun ua ja wr => ∃ (v j : Nat) (l : Bs), ua = .int .u64 v ∧ ja = .int .i64 j ∧ Hid (Suf wr b j l ∧ Below w.heap.size w wr ∧ hexN v ++ l = R) ∧ v < 18446744073709551616 ∧ j ≤ 65 ∧ 49 ≤ j) (fun ua _ _ => (intOf ua).toNat)
  case atStart => exact ⟨u, 65, [], rfl, rfl, ⟨HS1.out, HB1.out, by rw [List.append_nil]; exact HR.out⟩, hu, by omega, by omega⟩
  case round =>
    obtain ⟨v, j, l, rfl, rfl, HL, hv, hj, hj2⟩ := hrel
    have hpos := hexN_pos v
    have hlen : (hexN v).length + l.length ≤ 16 := by rw [← List.length_append, HL.out.2.2]; exact hRl
    have hjl := HL.out.1.len
    obtain ⟨i, hi⟩ : ∃ i, j = i + 1 := ⟨j - 1, by omega⟩
    subst hi
    have hi49 : 49 ≤ i := by omega
    obtain ⟨K, hK⟩ : ∃ K, i + K = 65 := ⟨65 - i, by omega⟩
    have hKl : l.length + 1 = K := by omega
    have hi0 : (0 : Int) ≤ (i : Int) := by omega
    have hi65 : (i : Int) < 65 := by omega
    have hsub : IntKind.i64.wrap (((i + 1 : Nat) : Int) - 1) = (i : Int) := by rw [IntKind.wrap_i64]; omega
    have hsub2 : wrap64 (((i + 1 : Nat) : Int) - 1) = (i : Int) := by unfold wrap64; omega
    have hsub3 : ((i : Int) + 1 - 1) = (i : Int) := by omega
    have hwi : IntKind.i64.wrap (i : Int) = (i : Int) := by rw [IntKind.wrap_i64]; omega
    have hwi2 : wrap64 (i : Int) = (i : Int) := by unfold wrap64; omega
    have hadd : (⟨b, 0, none⟩ : Addr).add i = ⟨b, i, none⟩ := by unfold Addr.add; by_cases h : i = 0 <;> simp [h]
    obtain ⟨v0, hc0⟩ := HL.out.1.all i hj
    have hf0 := HL.out.1.frozen i hj
    by_cases hge : v < 16
    · have hg : ¬ (16 : Int) ≤ (v : Int) := by omega
      have hlt2 : (v : Int) < 36 := by omega
      have hv0 : (0 : Int) ≤ (v : Int) := by omega
      have hd := hex_digs ⟨v, hge⟩
      simp only at hd
      have hput := HL.out.1.put (hexDig v)
      have HN : Hid (hexDig v :: l = R) := by rw [Hid, ← HL.out.2.2, hexN_small hge]; rfl
      obtain ⟨c, hc⟩ : ∃ c, hexDig v = c := ⟨_, rfl⟩
      rw [hc] at hd hput HN
      have hsl := slice_tail (b := b) hK hj
      have hcv := run_convert_bytes_back (P := Tryz.prog) (wr.setCell ⟨b, i, none⟩ (.int .u8 c.toNat)) 41 9 5 ⟨b, i, none⟩ K (c :: l) Tryz.underlying41 Tryz.underlying5 Tryz.underlying9 (fun t ht => by
        have := hput.cells t ht
        rw [addr_at, this])
      rw [List.length_cons, hKl] at hcv
      have HPUT := Lib.hid hput
      clear hc hput
      go_wp2_with fail
      go_ret2
      exact ⟨by rw [← HN.out]; rfl, (HL.out.2.1.setCell (p := ⟨b, i, none⟩) (Nat.le_of_eq hb) _).mono (Nat.le_of_eq hb.symm)⟩
    · have hg : (16 : Int) ≤ (v : Int) := by omega
      obtain ⟨k, hk⟩ : ∃ k, v % 16 = k := ⟨_, rfl⟩
      have hk16 : k < 16 := by omega
      have e1 : bits .and .u64 (v : Int) 15 = (k : Int) := by
        rw [← hk]
        have := u64_and_nat v 15 hv (by omega)
        rw [Nat.and_two_pow_sub_one_eq_mod v 4] at this
        exact this
      have hd := hex_digs ⟨k, hk16⟩
      simp only at hd
      have hk0 : (0 : Int) ≤ (k : Int) := by omega
      have hk36 : (k : Int) < 36 := by omega
      obtain ⟨q, hq⟩ : ∃ q, v / 16 = q := ⟨_, rfl⟩
      have hqI : (v : Int) / 16 = (q : Int) := by omega
      have hput := HL.out.1.put (hexDig k)
      have HN : Hid (hexN q ++ (hexDig k :: l) = R) := by rw [Hid, ← HL.out.2.2, hexN_big hge, hk, hq]; simp
      have HPUT := Lib.hid hput
      obtain ⟨c, hc⟩ : ∃ c, hexDig k = c := ⟨_, rfl⟩
      rw [hc] at hd HPUT HN
      have hq2 : q < v := by omega
      clear hc hput hk hq
      go_wp2_with fail
      exact ⟨⟨q, i, c :: l, rfl, rfl, ⟨HPUT.out, HL.out.2.1.setCell (p := ⟨b, i, none⟩) (Nat.le_of_eq hb) _, HN.out⟩, Nat.lt_trans hq2 hv, Nat.le_of_succ_le hj, hi49⟩, by simp [intOf]; exact hq2⟩

set_option maxRecDepth 100000 in
set_option maxHeartbeats 2000000 in
theorem FormatUint_in (u : Nat) (hu : u < 18446744073709551616) (w : World) (hT : Tabs w) :
    Calls Tryz.prog 215 #[.int .u64 u, .int .i64 16] w fun e w' => e = .returned (.string ⟨(hexN u).toArray⟩) ∧ Below w.heap.size w w' := by
  have H := Lib.hid (formatBits_any u hu w hT)
  clear hu
  obtain ⟨S, hS⟩ : ∃ S : ByteArray, ⟨(hexN u).toArray⟩ = S := ⟨_, rfl⟩
  rw [hS] at H ⊢
  clear hS
  go_enter Tryz.func215, Tryz.ntmps215
  go_wp2_with fail
  refine H.out.mono ?_
  rintro e w' ⟨rfl, hB⟩
  have HB := Lib.hid hB
  clear hB
  go_wp2_with fail
  go_ret
  exact ⟨rfl, HB.out⟩
set_option maxRecDepth 100000 in
set_option maxHeartbeats 2000000 in
theorem FormatUint_any (u : Nat) (hu : u < 18446744073709551616) (w : World) (hT : Tabs w) :
    Calls Tryz.prog 166 #[.int .u64 u, .int .i64 16] w fun e w' => e = .returned (.string ⟨(hexN u).toArray⟩) ∧ Below w.heap.size w w' := by
  have H := Lib.hid (FormatUint_in u hu w hT)
  clear hu
  obtain ⟨S, hS⟩ : ∃ S : ByteArray, ⟨(hexN u).toArray⟩ = S := ⟨_, rfl⟩
  rw [hS] at H ⊢
  clear hS
  go_enter Tryz.func166, Tryz.ntmps166
  go_wp2_with fail
  refine H.out.mono ?_
  rintro e w' ⟨rfl, hB⟩
  have HB := Lib.hid hB
  clear hB
  go_wp2_with fail
  go_ret
  exact ⟨rfl, HB.out⟩
end Go.Proofs.YtcmjpkfinbakkaaGreatDoor.Fl
