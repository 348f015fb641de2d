import Derived.Test.YthpmdgkhpigofaaAB
namespace Go.Proofs.Ythpmdgkhpigofaa
open Go.RowKit

def allLit (P : List It) : Bool := P.all fun it => it.1 == 0
def chars (P : List It) : List UInt8 := P.map fun it => it.2.1

theorem own53_kept {w w' : World} {B b n : Nat} {v : Value} {l : List Value} (h : w.ownsRow B 53 6 v n l) (hk : Lib.OthersKept 5 (some b) w w') (hb : ∀ g, v.ownBlock = some g → g ≠ b) : w'.ownsRow B 53 6 v n l := by
  refine ⟨h.1, ?_⟩
  rcases h.2 with h1 | ⟨g, cap, cur, h1, h2, hg, h3⟩
  · exact .inl h1
  · refine .inr ⟨g, cap, cur, h1, h2, hk g _ hg (fun e => ?_) (fun c fz e => ?_), h3⟩
    · injection e with e
      exact hb g (by rw [h1]; rfl) e
    · injection e with _ e2 _
      exact absurd e2 (by decide)

theorem pcs_len (x : Pc) : x.cs.length = 6 := rfl
theorem flat_at : ∀ (xs : List Pc) (i q : Nat) (hi : i < xs.length), q < 6 → (flat xs)[i * 6 + q]? = xs[i].cs[q]?
  | [], i, q, hi, _ => absurd hi (by simp)
  | x :: xs, 0, q, hi, hq => by
    show (x.cs ++ flat xs)[0 * 6 + q]? = x.cs[q]?
    rw [List.getElem?_append_left (by rw [pcs_len]; omega), Nat.zero_mul, Nat.zero_add]
  | x :: xs, i + 1, q, hi, hq => by
    show (x.cs ++ flat xs)[(i + 1) * 6 + q]? = _
    rw [List.getElem?_append_right (by rw [pcs_len]; omega), pcs_len, show (i + 1) * 6 + q - 6 = i * 6 + q by omega]
    exact flat_at xs i q (by simpa using hi) hq
theorem add6 (g i : Nat) : (⟨g, 0, none⟩ : Addr).add (i * 6) = ⟨g, i * 6, none⟩ := by unfold Addr.add; by_cases h : i * 6 = 0 <;> simp [h]

/-- What stands at the head of a round. -/
structure PlRel (w wr : World) (v : Value) (ps : List Pc) (k : Nat) : Prop where
  bd : Lib.IsBuilder 48 5 w.heap.size w.heap.size (Lib.byteCells ((chars (ps.map sem)).take k)) wr
  row : wr.ownsRow (w.heap.size + 1) 53 6 v ps.length (flat ps)
  lt : ∀ p ∈ ps, ∀ q, p.v q < 18446744073709551616
  lit : ∀ j (h : j < ps.length), j < k → ps[j].kind = 0
  old : Below w.heap.size w wr

set_option maxRecDepth 100000 in
set_option maxHeartbeats 4000000 in
theorem Plain_any (p : ByteArray) (w : World) (hp : p.size ≤ 100000) (P : List It) (HP : Hid (pcs p (p.size + 1) 0 true = P)) :
    Calls Try.prog 16 #[.string p] w fun e w' => e = .returned (.tuple #[.string (if allLit P then ⟨(chars P).toArray⟩ else ⟨#[]⟩), .bool (allLit P)]) ∧ Below w.heap.size w w' := by
  obtain ⟨fl, hfl⟩ : ∃ fl, allLit P = fl := ⟨_, rfl⟩
  obtain ⟨rs, hrs⟩ : ∃ rs : ByteArray, (if allLit P then ⟨(chars P).toArray⟩ else ⟨#[]⟩) = rs := ⟨_, rfl⟩
  rw [hrs, hfl]
  have HFL := Lib.hid hfl
  have HRS : Hid ((if fl then ⟨(chars P).toArray⟩ else ⟨#[]⟩) = rs) := by unfold Hid; rw [← hfl]; exact hrs
  clear hfl hrs
  go_enter Try.func16, Try.ntmps16
  go_wp2_with fail
  have HN := Lib.hid (bd_new w w.heap.size (Nat.le_refl _))
  have HB := Lib.hid ((Below.refl w.heap.size w).alloc (Nat.le_refl _) (.cells #[.pointer none, .slice none 0 0] 48))
  refine (pieces_core p _ hp P HP).mono ?_
  rintro e w1 ⟨v, ps, rfl, hown, hlt, hsem, hlen, hB⟩
  have hz : (w.alloc (.cells #[.pointer none, .slice none 0 0] 48)).heap.size = w.heap.size + 1 := by simp
  have hS := sl_of_row hown hlt
  rw [hz] at hown
  have HR : Hid (PlRel w w1 v ps 0) := ⟨by simpa [Lib.byteCells] using bd_below HN.out hB, hown, hlt, fun j _ h => absurd h (Nat.not_lt_zero _), HB.out.trans (hB.mono (by simp))⟩
  obtain ⟨a, cap, rfl, hcap, hcm, _⟩ := hS
  have HSEM := Lib.hid hsem
  clear hown hlt hsem hB hz HN HB
  go_wp2_with fail
  go_loopw [10] (fun i wr => ∃ k : Nat, i = .int .i64 k ∧ k ≤ ps.length ∧ Hid (PlRel w wr (.slice a ps.length cap) ps k)) (fun i _ => ps.length - (intOf i).toNat)
  case atStart => exact ⟨0, rfl, by omega, HR.out⟩
  case round =>
    obtain ⟨k, rfl, hk, HK⟩ := hrel
    by_cases hlt : k < ps.length
    · have hltI : (k : Int) < (ps.length : Int) := by omega
      obtain ⟨g, cap', ea, hgb, hgw⟩ := HK.out.row.form (by omega)
      injection ea with e1 _ e3
      subst e1
      subst e3
      have hcell : ∀ q v, q < 6 → ps[k].cs[q]? = some v → wr.cell? ⟨g, k * 6 + q, none⟩ = some v := fun q v hq hv => by
        rw [World.ownsRow.cellAt HK.out.row (k * 6 + q) (by omega), flat_at ps k q hlt hq, hv]
      have l0 := hcell 0 _ (by omega) rfl
      have l1 := hcell 1 _ (by omega) rfl
      have l2 := hcell 2 _ (by omega) rfl
      have l3 := hcell 3 _ (by omega) rfl
      have l4 := hcell 4 _ (by omega) rfl
      have l5 := hcell 5 _ (by omega) rfl
      rw [Nat.add_zero] at l0
      have hadd := add6 g k
      have HPK : Hid (P[k]? = some (sem ps[k])) := by unfold Hid; rw [← HSEM.out]; simp [hlt]
      have hzw := HK.out.old.size
      clear hcell
      generalize ps[k] = x at *
      have HAL := Lib.hid ((Below.refl wr.heap.size wr).alloc (Nat.le_refl _) (.cells #[.int .i64 x.kind, .int .u8 x.ch.toNat, .int .u64 (x.v 0), .int .u64 (x.v 1), .int .u64 (x.v 2), .int .u64 (x.v 3)] 53))
      by_cases hx0 : x.kind = 0
      · have hb : ((x.kind : Int) != 0) = false := by simp [hx0]
        have HX0 := Lib.hid hx0
        clear hx0
        go_wp2_with fail
        refine (bd_writeByte w.heap.size w.heap.size _ x.ch.toNat _ (bd_below HK.out.bd HAL.out) (by rw [bc_len, List.length_take]; omega) (by simp; omega)).mono ?_
        rintro e w2 ⟨rfl, hb2, hB2, hO2⟩
        have HX : Hid (PlRel w w2 (.slice (some ⟨g, 0, none⟩) ps.length cap) ps (k + 1)) := by
          refine ⟨?_, own53_kept (HK.out.row.kept (gb_below HAL.out) (own_em _)) hO2 (fun j hj => by simp [Value.ownBlock] at hj; omega), HK.out.lt, fun j hj hjk => ?_, (HK.out.old.trans (HAL.out.mono hzw)).trans hB2⟩
          · rw [bc_snoc] at hb2
            have : (chars (ps.map sem)).take (k + 1) = (chars (ps.map sem)).take k ++ [x.ch] := by
              have hc : (chars (ps.map sem))[k]? = some x.ch := by
                have := HPK.out
                rw [← HSEM.out] at this
                unfold chars
                rw [List.getElem?_map, this]; rfl
              rw [List.take_add_one, hc]; rfl
            rw [this]; exact hb2
          · by_cases h : j < k
            · exact HK.out.lit j hj h
            · obtain rfl : j = k := by omega
              have := HPK.out
              rw [← HSEM.out, List.getElem?_map, List.getElem?_eq_getElem hj] at this
              simp only [Option.map_some, Option.some.injEq] at this
              have h2 : (sem ps[j]).1 = (sem x).1 := by rw [this]
              exact h2.trans HX0.out
        clear hb2 hB2 hO2
        go_wp2_with fail
        exact ⟨⟨k + 1, by go_num, by omega, HX.out⟩, by simp [intOf]; omega⟩
      · have hb : ((x.kind : Int) != 0) = true := by rw [bne_iff_ne]; omega
        have HA : Hid (fl = false) := by
          unfold Hid
          rw [← HFL.out]
          unfold allLit
          rw [List.all_eq_false]
          refine ⟨sem x, List.mem_of_getElem? HPK.out, ?_⟩
          show ¬ (x.kind == 0) = true
          simpa using hx0
        have HE : Hid (rs = ⟨#[]⟩) := by unfold Hid; rw [← HRS.out, HA.out]; rfl
        clear hx0
        go_wp2_with fail
        go_ret2
        refine ⟨by rw [HA.out, HE.out]; rfl, HK.out.old.trans (HAL.out.mono hzw)⟩
    · have hge : ¬ (k : Int) < (ps.length : Int) := by omega
      have HA : Hid (fl = true) := by
        unfold Hid
        rw [← HFL.out, ← HSEM.out]
        unfold allLit
        rw [List.all_eq_true]
        intro it hit
        obtain ⟨x, hx, rfl⟩ := List.mem_map.1 hit
        obtain ⟨j, hj, rfl⟩ := List.mem_iff_getElem.1 hx
        show (ps[j].kind == 0) = true
        rw [HK.out.lit j hj (by omega)]; rfl
      have HE : Hid (rs = ⟨(chars P).toArray⟩) := by unfold Hid; rw [← HRS.out, HA.out]; rfl
      have hbd := HK.out.bd
      rw [List.take_of_length_le (by unfold chars; simp; omega), HSEM.out] at hbd
      have HBD := Lib.hid hbd
      clear hbd
      go_wp2_with fail
      refine (Try.Builder_String_any w.heap.size w.heap.size (chars P) _ HBD.out HK.out.old.size).mono ?_
      rintro e w2 ⟨rfl, hB2⟩
      have HX := Lib.hid (HK.out.old.trans hB2)
      clear hB2
      go_wp2_with fail
      go_ret2
      exact ⟨by rw [HA.out, HE.out]; rfl, HX.out⟩
end Go.Proofs.Ythpmdgkhpigofaa
