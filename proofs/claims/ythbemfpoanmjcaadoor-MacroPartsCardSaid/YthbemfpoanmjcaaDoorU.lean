import Derived.Test.YthbemfpoanmjcaaDoorT
namespace Go.Proofs.YthbemfpoanmjcaaDoor
open Go.RowKit
set_option linter.unusedVariables false

/-! Numbers in names. -/
def dg (i : Nat) : Bs := if i < 10 then [UInt8.ofNat (48 + i)] else [UInt8.ofNat (48 + i / 10), UInt8.ofNat (48 + i % 10)]
def digB : ByteArray := ⟨#[48, 49, 50, 51, 52, 53, 54, 55, 56, 57]⟩
theorem dig_at : ∀ n : Fin 10, digB.extract n.val (n.val + 1) = mk (dg n.val) := by decide
set_option maxRecDepth 100000 in
set_option maxHeartbeats 4000000 in
theorem Digits_lo (n : Nat) (hn : n < 10) (w : World) : Calls Tryd.prog 18 #[.int .i64 n] w fun e w' => e = .returned (.string (mk (dg n))) ∧ w' = w := by
  have h1 : Int.tmod (n : Int) 10 = (n : Int) := by rw [Int.tmod_eq_emod_of_nonneg (by omega)]; omega
  have hb : IntKind.i64.wrap ((n : Int) + 1) = (n : Int) + 1 := IntWalk.i64_in _ (by omega)
  have hd : decide ((9 : Int) < (n : Int)) = false := decide_eq_false (by omega)
  have he : (⟨#[48, 49, 50, 51, 52, 53, 54, 55, 56, 57]⟩ : ByteArray).extract n (n + 1) = mk (dg n) := dig_at ⟨n, hn⟩
  have hn0 : (0 : Int) ≤ (n : Int) := by omega
  have hn1 : (n : Int) ≤ (n : Int) + 1 := by omega
  have hn2 : (n : Int) + 1 ≤ 10 := by omega
  obtain ⟨E, hE⟩ : ∃ E, mk (dg n) = E := ⟨_, rfl⟩
  rw [hE] at he ⊢
  clear hE
  go_enter Tryd.func18, Tryd.ntmps18
  go_wp2_with fail
  go_ret
  exact ⟨rfl, rfl⟩
set_option maxRecDepth 100000 in
set_option maxHeartbeats 4000000 in
theorem Digits_any (n : Nat) (hn : n < 100) (w : World) : Calls Tryd.prog 18 #[.int .i64 n] w fun e w' => e = .returned (.string (mk (dg n))) ∧ w' = w := by
  by_cases h10 : n < 10
  · exact Digits_lo n h10 w
  obtain ⟨q, hq⟩ : ∃ q, n % 10 = q := ⟨_, rfl⟩
  obtain ⟨p, hp⟩ : ∃ p, n / 10 = p := ⟨_, rfl⟩
  have h1 : Int.tmod (n : Int) 10 = (q : Int) := by rw [Int.tmod_eq_emod_of_nonneg (by omega)]; omega
  have h2 : Int.tdiv (n : Int) 10 = (p : Int) := by rw [Int.tdiv_eq_ediv_of_nonneg (by omega)]; omega
  have hb : IntKind.i64.wrap ((q : Int) + 1) = (q : Int) + 1 := IntWalk.i64_in _ (by omega)
  have hb2 : IntKind.i64.wrap (p : Int) = (p : Int) := IntWalk.i64_in _ (by omega)
  have hd : decide ((9 : Int) < (n : Int)) = true := decide_eq_true (by omega)
  have he : (⟨#[48, 49, 50, 51, 52, 53, 54, 55, 56, 57]⟩ : ByteArray).extract q (q + 1) = mk (dg q) := dig_at ⟨q, by omega⟩
  have hn0 : (0 : Int) ≤ (q : Int) := by omega
  have hn1 : (q : Int) ≤ (q : Int) + 1 := by omega
  have hn2 : (q : Int) + 1 ≤ 10 := by omega
  have HD := Lib.hid (Digits_lo p (by omega) w)
  have hdg : mk (dg n) = mk (dg p) ++ mk (dg q) := by
    refine ba_ext ?_
    rw [ByteArray.data_append, Array.toList_append, mk_list, mk_list, mk_list]
    unfold dg
    rw [if_neg h10, if_pos (by omega), if_pos (by omega), hp, hq]; rfl
  have hs1 : (mk (dg p)).size = 1 := by rw [sz_mk]; unfold dg; rw [if_pos (by omega)]; rfl
  have hs2 : (mk (dg q)).size = 1 := by rw [sz_mk]; unfold dg; rw [if_pos (by omega)]; rfl
  rw [hdg]
  obtain ⟨E, hE⟩ : ∃ E, mk (dg q) = E := ⟨_, rfl⟩
  obtain ⟨F, hF⟩ : ∃ F, mk (dg p) = F := ⟨_, rfl⟩
  rw [hE] at he hs2 ⊢
  rw [hF] at HD hs1 ⊢
  have hz : ¬ (9223372036854775807 < F.size + E.size) := by omega
  clear hE hF hdg hs1 hs2 hp hq
  go_enter Tryd.func18, Tryd.ntmps18
  go_wp2_with (go_at_call 18; refine HD.out.mono ?_; rintro e w5 ⟨rfl, h5⟩; obtain rfl := h5.symm; simp only [])
  go_ret
  exact ⟨rfl, rfl⟩
theorem dg_size (n : Nat) : (mk (dg n)).size ≤ 2 := by rw [sz_mk]; unfold dg; split <;> simp
/-! Pairs in a row of the call's own. -/
def pcs (L : Prs) : List Value := L.flatMap fun p => [.string p.1, .string p.2]
theorem pcs_len : ∀ L : Prs, (pcs L).length = L.length * 2
  | [] => rfl
  | p :: L => by
    show ([Value.string p.1, Value.string p.2] ++ pcs L).length = _
    rw [List.length_append, pcs_len L]; simp; omega
theorem pcs_at : ∀ (L : Prs) (i : Nat) (h : i < L.length), (pcs L)[i * 2]? = some (.string L[i].1) ∧ (pcs L)[i * 2 + 1]? = some (.string L[i].2)
  | [], _, h => absurd h (by simp)
  | p :: L, 0, h => ⟨rfl, rfl⟩
  | p :: L, i + 1, h => by
    have ih := pcs_at L i (by simpa using h)
    have e : pcs (p :: L) = .string p.1 :: .string p.2 :: pcs L := rfl
    rw [e, show (i + 1) * 2 = i * 2 + 1 + 1 by omega]
    exact ih
theorem pcs_app (L M : Prs) : pcs (L ++ M) = pcs L ++ pcs M := by simp [pcs]
structure Po (w0 w : World) (v : Value) (L : Prs) : Prop where
  own : w.ownsRow w0.heap.size 36 2 v L.length (pcs L)
  old : Below w0.heap.size w0 w
theorem Po.pv {w0 w : World} {v : Value} {L : Prs} (h : Po w0 w v L) (hl : L.length ≤ 1000000) (hs : ∀ p ∈ L, p.2.size ≤ 9223372036854775807) : PV w.heap.size w v L := by
  refine ⟨by omega, hs, ?_⟩
  rcases h.own.2 with ⟨h1, h0⟩ | ⟨b, cap, cur, rfl, h2, h3, h4⟩
  · exact .inl ⟨none, 0, h1, List.eq_nil_of_length_eq_zero h0⟩
  · refine .inr ⟨b, 0, cap, rfl, (Array.getElem?_eq_some_iff.1 h3).1, (Array.getElem?_eq_some_iff.1 h3).1, fun k hk => ?_⟩
    have e := pcs_at L k hk
    rw [Nat.zero_add]
    exact ⟨by rw [World.ownsRow.cellAt h.own (k * 2) (by omega), e.1], by rw [World.ownsRow.cellAt h.own (k * 2 + 1) (by omega), e.2]⟩
theorem info36 : (Tryd.prog.info? 36).map (fun i => (i.zero, i.size, i.bytes)) = some (some (.agg #[.string ⟨#[]⟩, .string ⟨#[]⟩]), 2, 32) := by kernel_rfl
theorem own_below {w w' : World} {B e sz n : Nat} {v : Value} {xs : List Value} (h : w.ownsRow B e sz v n xs) (hb : Below w.heap.size w w') : w'.ownsRow B e sz v n xs :=
  own_keep h (fun g c hg => (hb.block g (Array.getElem?_eq_some_iff.1 hg).1).trans hg)
theorem Po.push {w0 w : World} {v : Value} {L : Prs} (h : Po w0 w v L) (hl : L.length ≤ 100000) (p : ByteArray × ByteArray) :
    ∃ v' w', (Builtin.append_ #[24, 24] 24 #[v, .slice (some ⟨w.heap.size, 0, none⟩) 1 1]).run Tryd.prog (w.alloc (.cells #[.string p.1, .string p.2] 36)) = .ok v' w' ∧ Po w0 w' v' (L ++ [p]) ∧ ∃ a c, v' = .slice a (L.length + 1) c := by
  obtain ⟨i0, hi, hz0, hz1, hz2⟩ := info_parts info36
  have hw0 : Below w.heap.size w (w.alloc (.cells #[.string p.1, .string p.2] 36)) := (Below.refl _ _).alloc (Nat.le_refl _) _
  have hown := own_below h.own hw0
  obtain ⟨v', w', h2, h3, h4, h5⟩ := run_append_own (P := Tryd.prog) (w.alloc (.cells #[.string p.1, .string p.2] 36)) w0.heap.size 24 24 36 i0 _ 2 32 Tryd.underlying24 hi hz0 hz1 hz2 rfl (by decide) v L.length (pcs L) hown ⟨w.heap.size, 0, none⟩ 1 1 [.string p.1, .string p.2] rfl
    (fun j u hj => by
      rw [addn, Nat.zero_add]
      simp only [World.cell?, heap_alloc_new w]
      simpa using hj) (by
      intro u hu
      simp only [List.mem_cons, List.not_mem_nil, or_false] at hu
      rcases hu with rfl | rfl <;> rfl) (by unfold maxLen; omega) (by omega) (by have := h.old.size; have := hw0.size; omega)
  refine ⟨v', w', h2, ⟨by rw [pcs_app, List.length_append]; simpa [pcs] using h3, ?_⟩, ?_⟩
  · exact h.old.trans ((hw0.mono h.old.size).trans ((Only.of_grown (S := fun i => v.ownBlock = some i) h4 (fun k hk => hk)).below (fun k hk => (hown.lt k hk).1) (by have := h.old.size; have := hw0.size; omega)))
  · rcases h3.2 with ⟨_, h0⟩ | ⟨g, cap, cur, e1, _⟩
    · omega
    · exact ⟨_, cap, e1⟩
theorem Po.nil (w : World) : Po w w (.slice none 0 0) [] := ⟨World.ownsRow_nil _ _ _ _, Below.refl _ _⟩
theorem Po.one (w : World) (p : ByteArray × ByteArray) : Po w (w.alloc (.cells #[.string p.1, .string p.2] 36)) (.slice (some ⟨w.heap.size, 0, none⟩) 1 1) [p] :=
  ⟨⟨rfl, .inr ⟨w.heap.size, 1, _, rfl, Nat.le_refl _, heap_alloc_new w _, by simp, by unfold maxLen; omega, rfl, rfl⟩⟩, (Below.refl _ _).alloc (Nat.le_refl _) _⟩
end Go.Proofs.YthbemfpoanmjcaaDoor
