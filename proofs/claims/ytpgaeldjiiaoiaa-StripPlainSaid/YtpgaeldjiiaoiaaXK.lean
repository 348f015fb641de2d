import Derived.Test.YtpgaeldjiiaoiaaXJ
namespace Go.Proofs.Ytpgaeldjiiaoiaa
open Go.RowKit
set_option linter.unusedVariables false

theorem flat_at : ∀ (ps : List Pc) (i q : Nat) (hi : i < ps.length), q < 6 → (flat ps)[i * 6 + q]? = ps[i].cs[q]?
  | [], i, q, hi, _ => absurd hi (by simp)
  | x :: xs, 0, q, hi, hq => by
    show (x.cs ++ flat xs)[0 * 6 + q]? = x.cs[q]?
    rw [List.getElem?_append_left (by show 0 * 6 + q < 6; omega), Nat.zero_mul, Nat.zero_add]
  | x :: xs, i + 1, q, hi, hq => by
    show (x.cs ++ flat xs)[(i + 1) * 6 + q]? = _
    rw [List.getElem?_append_right (by show 6 ≤ (i + 1) * 6 + q; omega), show x.cs.length = 6 from rfl, show (i + 1) * 6 + q - 6 = i * 6 + q by omega]
    exact flat_at xs i q (by simpa using hi) hq
theorem cp_cs (p : Pc) (q : Nat) (hq : q < 6) : p.cs[q]? = some (cp p q) := by
  match q, hq with
  | 0, _ => rfl
  | 1, _ => rfl
  | 2, _ => rfl
  | 3, _ => rfl
  | 4, _ => rfl
  | 5, _ => rfl
def p0 : Pc := ⟨0, 0, zv⟩
theorem PR.of_row {w : World} {B g cap : Nat} {ps : List Pc} (h : w.ownsRow B 60 6 (.slice (some ⟨g, 0, none⟩) ps.length cap) ps.length (flat ps)) : PR w g ps.length (fun j => cp (ps.getD j p0)) := by
  have hc := fun k hk => World.ownsRow.cellAt h k hk
  rcases h.2 with ⟨h1, _⟩ | ⟨g', cap', cur, e, hb, hcur, hn, hm, hcs, htk⟩
  · cases h1
  · injection e with e1 e2 e3
    injection e1 with e1
    injection e1 with e1 _ _
    subst e1
    refine ⟨cur, hcur, fun j hj q hq => ?_⟩
    have := hc (j * 6 + q) (by omega)
    rw [cell_of_row _ _ _ _ _ _ hcur, flat_at ps j q hj hq, cp_cs _ q hq] at this
    rw [this]
    show some (cp ps[j] q) = some (cp (ps.getD j p0) q)
    rw [List.getD_eq_getElem?_getD, List.getElem?_eq_getElem hj]
    rfl
theorem PR.sl {w : World} {g cap : Nat} {ps : List Pc} (h : PR w g ps.length (fun j => cp (ps.getD j p0))) (hlt : ∀ p ∈ ps, ∀ q, p.v q < 18446744073709551616) (h1 : ps.length ≤ cap) (h2 : cap ≤ maxLen) : Sl w (.slice (some ⟨g, 0, none⟩) ps.length cap) ps := by
  refine ⟨_, cap, rfl, h1, h2, .inr ⟨g, 0, rfl, fun j hj => ?_⟩⟩
  have hc := fun q hq => h.cell (j := j) (q := q) hj hq
  have e : ps.getD j p0 = ps[j] := by rw [List.getD_eq_getElem?_getD, List.getElem?_eq_getElem hj]; rfl
  simp only [e] at hc
  rw [Nat.zero_add]
  refine ⟨hc 0 (by omega), hc 1 (by omega), fun q hq => ?_, hlt _ (List.getElem_mem hj)⟩
  match q, hq with
  | 0, _ => exact hc 2 (by omega)
  | 1, _ => exact hc 3 (by omega)
  | 2, _ => exact hc 4 (by omega)
  | 3, _ => exact hc 5 (by omega)
set_option maxRecDepth 100000 in
theorem Reverse_nil (w : World) : Calls Try.prog 30 #[.slice none 0 0] w fun e w' => e = .returned (.tuple #[]) ∧ w' = w := by
  go_enter Try.func30, Try.ntmps30
  go_wp2_with fail
  refine wp_loop_rounds 1 ?_
  rw [rounds_succ]
  go_wp2_with fail
  go_end0
  exact ⟨rfl, rfl⟩
/-- The pieces turned round. -/
theorem turn_any (w0 w : World) (v : Value) (ps : List Pc) (hlen : ps.length ≤ 100000) (hown : w.ownsRow w0.heap.size 60 6 v ps.length (flat ps)) (hlt : ∀ p ∈ ps, ∀ q, p.v q < 18446744073709551616) (hB : Below w0.heap.size w0 w) :
    Calls Try.prog 30 #[v] w fun e w' => e = .returned (.tuple #[]) ∧ Sl w' v ps.reverse ∧ Below w0.heap.size w0 w' := by
  have hrow := hown
  rcases hown.2 with ⟨rfl, h0⟩ | ⟨g, cap, cur, rfl, hg, hcur, hn, hm, hcs, htk⟩
  · have hnil : ps = [] := List.length_eq_zero_iff.1 h0
    subst hnil
    refine (Reverse_nil w).mono ?_
    rintro e w' ⟨rfl, rfl⟩
    exact ⟨rfl, ⟨none, 0, rfl, Nat.le_refl _, by unfold maxLen; omega, .inl rfl⟩, hB⟩
  · refine (Reverse_any g ps.length cap (fun j => ps.getD j p0) w hlen (PR.of_row hrow)).mono ?_
    rintro e w' ⟨rfl, hR, hG⟩
    refine ⟨rfl, ?_, hB.grown hG hB.size (fun k h => by cases h; exact hg)⟩
    have hR2 : PR w' g ps.reverse.length (fun j => cp (ps.reverse.getD j p0)) := by
      rw [List.length_reverse]
      refine hR.congr (fun j hj q hq => ?_)
      show cp (ps.getD (ps.length - 1 - j) p0) q = cp (ps.reverse.getD j p0) q
      congr 1
      rw [List.getD_eq_getElem?_getD, List.getD_eq_getElem?_getD, List.getElem?_reverse hj]
    have := PR.sl (cap := cap) hR2 (fun p hp => hlt p (List.mem_reverse.1 hp)) (by rw [List.length_reverse]; exact hn) hm
    rwa [List.length_reverse] at this
set_option maxRecDepth 100000 in
set_option maxHeartbeats 4000000 in
theorem Tails_any (p s : ByteArray) (w : World) (hp : p.size ≤ 100000) (hs : s.size ≤ 100000) :
    Calls Try.prog 20 #[.string p, .string s] w fun e w' => (∃ r B, e = .returned r ∧ Ints w' r B (ends (revB s) (pat p).reverse (s.size + 1))) ∧ Below w.heap.size w w' := by
  go_enter Try.func20, Try.ntmps20
  go_wp2_with fail
  have hc0 : (w.alloc (.cells #[.string s] 9)).cell? ⟨w.heap.size, 0, none⟩ = some (.string s) := new_cell _ _ _
  have hB0 : Below w.heap.size w (w.alloc (.cells #[.string s] 9)) := (Below.refl _ _).alloc (Nat.le_refl _) _
  obtain ⟨b, hb⟩ : ∃ b, w.heap.size = b := ⟨_, rfl⟩
  obtain ⟨w1, hw1⟩ : ∃ w1, w.alloc (.cells #[.string s] 9) = w1 := ⟨_, rfl⟩
  rw [hw1] at hc0 hB0 ⊢
  rw [hb] at hc0 ⊢
  have HB0 := Lib.hid hB0
  have HC0 := Lib.hid hc0
  clear hb hw1 hB0 hc0
  refine (pieces_core p w1 hp (pat p) rfl).mono ?_
  rintro e w2 ⟨v, ps, rfl, hown, hlt, hsem, hlen, hB⟩
  have HT := Lib.hid (turn_any w1 w2 v ps hlen hown hlt hB)
  have HL := Lib.hid hlen
  have HSEM : Hid (ps.reverse.map sem = (pat p).reverse) := by rw [Hid, List.map_reverse, hsem]
  clear hown hlt hsem hB hlen
  simp only []
  go_wp2_with fail
  refine HT.out.mono ?_
  rintro e w3 ⟨rfl, hsl, hB3⟩
  have hc3 : w3.cell? ⟨b, 0, none⟩ = some (.string s) := by rw [hB3.cell (World.block_lt_of_cell? w1 _ HC0.out)]; exact HC0.out
  have HC3 := Lib.hid hc3
  have HB3 := Lib.hid (HB0.out.trans (hB3.mono HB0.out.size))
  have HSL := Lib.hid hsl
  clear hB3 hsl HT
  simp only []
  go_wp2_with fail
  have hr := lengths_31 (.pointer (some ⟨b, 0, none⟩)) v ps.reverse (pat p).reverse HSEM.out (revB s) w3 (by rw [revB_size]; exact hs) (by rw [List.length_reverse]; exact HL.out) HSL.out (fun k hk w'' hB2 => Tails1_any b k s w'' (by rw [revB_size] at hk; exact hk) hs (by rw [hB2.cell (World.block_lt_of_cell? w3 _ HC3.out)]; exact HC3.out))
  rw [revB_size] at hr
  refine hr.mono ?_
  rintro e w4 ⟨r, rfl, hown, hB4⟩
  have HB4 := Lib.hid (HB3.out.trans (hB4.mono HB3.out.size))
  have HOWN := Lib.hid hown
  clear hown hB4 hr hc3
  simp only []
  go_wp2_with fail
  go_ret
  exact ⟨⟨r, _, rfl, HOWN.out⟩, HB4.out⟩
set_option maxRecDepth 100000 in
set_option maxHeartbeats 2000000 in
theorem Back_any (s p : ByteArray) (most : Bool) (w : World) (hp : p.size ≤ 100000) (hs : s.size ≤ 100000) :
    Calls Try.prog 9 #[.string s, .string p, .bool most] w fun e w' => e = .returned (.string (s.extract 0 (s.size - offK (revB s) (pat p).reverse most))) ∧ Below w.heap.size w w' := by
  have HH := Lib.hid (fun w => Tails_any p s w hp hs)
  have hlen := ends_len (revB s) (pat p).reverse (s.size + 1)
  have hle := offK_le (revB s) (pat p).reverse most
  have hoe : offK (revB s) (pat p).reverse most = pickE (ends (revB s) (pat p).reverse (s.size + 1)) most := by unfold offK; rw [revB_size]
  rw [revB_size] at hle
  have HC := Lib.hid (fun (r : Value) (B : Nat) (w : World) (h : Ints w r B (ends (revB s) (pat p).reverse (s.size + 1))) => choose_any B r _ most w (by omega) h)
  rw [← hoe] at HC
  obtain ⟨k, hk⟩ : ∃ k, offK (revB s) (pat p).reverse most = k := ⟨_, rfl⟩
  rw [hk] at HC hle ⊢
  obtain ⟨m, hm⟩ : ∃ m, s.size - k = m := ⟨_, rfl⟩
  rw [hm]
  have h1 : (m : Int) ≤ (s.size : Int) := by omega
  have h0 : (0 : Int) ≤ (m : Int) := by omega
  have e1 : IntKind.i64.wrap ((s.size : Int) - (k : Int)) = (m : Int) := by rw [IntKind.wrap_i64]; omega
  have e2 : wrap64 ((s.size : Int) - (k : Int)) = (m : Int) := by unfold wrap64; omega
  have e3 : (s.size : Int) - (k : Int) = (m : Int) := by omega
  clear hlen hk hoe hm
  go_enter Try.func9, Try.ntmps9
  go_wp2_with fail
  refine (HH.out _).mono ?_
  rintro e w1 ⟨⟨r, B, rfl, hr⟩, hB1⟩
  have HB1 := Lib.hid hB1
  have HR := Lib.hid hr
  clear hB1 hr
  simp only []
  go_wp2_with fail
  refine (HC.out r B _ HR.out).mono ?_
  rintro e w2 ⟨rfl, h⟩
  obtain rfl := h.symm
  simp only []
  go_wp2_with fail
  go_ret
  exact ⟨rfl, HB1.out⟩
end Go.Proofs.Ytpgaeldjiiaoiaa
