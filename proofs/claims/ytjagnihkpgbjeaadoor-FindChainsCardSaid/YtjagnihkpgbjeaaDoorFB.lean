import Derived.Test.YtjagnihkpgbjeaaDoorFA
import Derived.Test.YtjagnihkpgbjeaaDoorVA
import Derived.Laws.OwnMore
namespace Go.Proofs.YtjagnihkpgbjeaaDoor
open Go.RowKit
set_option linter.unusedVariables false
/-! Rules in a slice. -/
structure Rl where
  ts : List Bs
  ns : List Bs
  rc : List Bs
/-- The three lists of a rule, as its fields hold them; and that they are short. -/
structure Rl3 (w : World) (a b c : Value) (r : Rl) : Prop where
  t : SlS w a r.ts
  n : SlS w b r.ns
  k : SlS w c r.rc
  lt : r.ts.length ≤ 100000
  ln : r.ns.length ≤ 100000
  lk : r.rc.length ≤ 100000
theorem Rl3.below {w w' : World} {a b c : Value} {r : Rl} (h : Rl3 w a b c r) (hb : Below w.heap.size w w') : Rl3 w' a b c r := ⟨h.t.below hb, h.n.below hb, h.k.below hb, h.lt, h.ln, h.lk⟩
def RsV (w : World) (v : Value) (rs : List Rl) : Prop :=
  (v = .slice none 0 0 ∧ rs = []) ∨ ∃ g off c, v = .slice (some ⟨g, off, none⟩) rs.length c ∧ rs.length ≤ c ∧ c ≤ 9223372036854775807 ∧ g < w.heap.size ∧
    ∀ i (h : i < rs.length), ∃ x y z, w.cell? ⟨g, off + i * 3, none⟩ = some x ∧ w.cell? ⟨g, off + i * 3 + 1, none⟩ = some y ∧ w.cell? ⟨g, off + i * 3 + 2, none⟩ = some z ∧ Rl3 w x y z rs[i]
theorem RsV.below {w w' : World} {v : Value} {rs : List Rl} (h : RsV w v rs) (hb : Below w.heap.size w w') : RsV w' v rs := by
  rcases h with h | ⟨g, off, c, h1, h2, h3, h4, h5⟩
  · exact .inl h
  · refine .inr ⟨g, off, c, h1, h2, h3, Nat.lt_of_lt_of_le h4 hb.size, fun i hi => ?_⟩
    obtain ⟨x, y, z, e1, e2, e3, e4⟩ := h5 i hi
    exact ⟨x, y, z, (hb.cell (p := ⟨g, _, none⟩) h4).trans e1, (hb.cell (p := ⟨g, _, none⟩) h4).trans e2, (hb.cell (p := ⟨g, _, none⟩) h4).trans e3, e4.below hb⟩
theorem RsV.len {w : World} {v : Value} {rs : List Rl} (h : RsV w v rs) : ∃ a c, v = .slice a rs.length c := by
  rcases h with ⟨h, rfl⟩ | ⟨g, off, c, h, _⟩
  · exact ⟨_, _, h⟩
  · exact ⟨_, _, h⟩
theorem RsV.get {w : World} {a : Option Addr} {n c : Nat} {rs : List Rl} (h : RsV w (.slice a n c) rs) (k : Nat) (hk : k < rs.length) :
    ∃ g off x y z, a = some ⟨g, off, none⟩ ∧ g < w.heap.size ∧ w.cell? ⟨g, off + k * 3, none⟩ = some x ∧ w.cell? ⟨g, off + k * 3 + 1, none⟩ = some y ∧ w.cell? ⟨g, off + k * 3 + 2, none⟩ = some z ∧ Rl3 w x y z rs[k] := by
  rcases h with ⟨_, rfl⟩ | ⟨g, off, c, h1, h2, h3, h4, h5⟩
  · simp at hk
  · injection h1 with h1 _ _
    obtain ⟨x, y, z, e⟩ := h5 k hk
    exact ⟨g, off, x, y, z, h1, h4, e⟩
theorem addk3 (g off k : Nat) : (⟨g, off, none⟩ : Addr).add (k * 3) = ⟨g, off + k * 3, none⟩ := addk g off (k * 3)
def isPlainF (r : Rl) : Bool := !r.ts.any pct
def makesF (r : Rl) (x : Bs) : Bool := r.ts.contains x && isPlainF r
theorem below_alloc (w : World) (o : Obj) : Below w.heap.size w (w.alloc o) := (Below.refl _ w).alloc (Nat.le_refl _) o
set_option maxRecDepth 100000 in
set_option maxHeartbeats 1000000 in
theorem isPlain_any (a b c : Value) (r : Rl) (w : World) (h : Rl3 w a b c r) (t : Bool) (ht : isPlainF r = t) :
    Calls Tryd.prog 79 #[.agg #[a, b, c]] w fun e w' => e = .returned (.bool t) ∧ Below w.heap.size w w' := by
  have HC := Lib.hid (ContainsF_any a r.ts (w.alloc (.cells #[a, b, c] 48)) (h.t.below (below_alloc _ _)) (by have := h.lt; omega) (!t) (by rw [← ht]; simp [isPlainF]))
  clear h ht
  go_enter Tryd.func79, Tryd.ntmps79
  go_wp2_with (go_at_call 57; refine HC.out.mono ?_; rintro e w1 ⟨rfl, h1⟩; obtain rfl := h1.symm; simp only [])
  go_ret
  exact ⟨by simp, below_alloc _ _⟩
set_option maxRecDepth 100000 in
set_option maxHeartbeats 1000000 in
theorem makes_any (a b c : Value) (r : Rl) (x : ByteArray) (w : World) (h : Rl3 w a b c r) (t : Bool) (ht : makesF r x.data.toList = t) :
    Calls Tryd.prog 77 #[.agg #[a, b, c], .string x] w fun e w' => e = .returned (.bool t) ∧ Below w.heap.size w w' := by
  have h2 := h.below (below_alloc w (.cells #[a, b, c] 48))
  obtain ⟨s, hs⟩ : ∃ s, r.ts.contains x.data.toList = s := ⟨_, rfl⟩
  obtain ⟨p, hp⟩ : ∃ p, isPlainF r = p := ⟨_, rfl⟩
  have HC := Lib.hid (Contains_any a r.ts x (w.alloc (.cells #[a, b, c] 48)) h2.t (by have := h.lt; omega) s hs)
  have HP := Lib.hid (isPlain_any a b c r (w.alloc (.cells #[a, b, c] 48)) h2 p hp)
  unfold makesF at ht
  rw [hs, hp] at ht
  clear h h2 hs hp
  cases s with
  | false =>
    have ht : false = t := by simpa using ht
    subst ht
    go_enter Tryd.func77, Tryd.ntmps77
    go_wp2_with (go_at_call 78; refine HC.out.mono ?_; rintro e w1 ⟨rfl, h1⟩; obtain rfl := h1.symm; simp only [])
    go_ret
    exact ⟨rfl, below_alloc _ _⟩
  | true =>
    have ht : p = t := by simpa using ht
    subst ht
    go_enter Tryd.func77, Tryd.ntmps77
    go_wp2_with (first
      | (go_at_call 78; refine HC.out.mono ?_; rintro e w1 ⟨rfl, h1⟩; obtain rfl := h1.symm; simp only [])
      | (go_at_call 79; refine HP.out.mono ?_; rintro e w1 ⟨rfl, h1⟩; have H1 := Lib.hid h1; clear h1; simp only []))
    go_ret
    exact ⟨rfl, (below_alloc _ _).trans (H1.out.mono (by simp))⟩
/-! plain: the rules of a target. -/
def plainF (rs : List Rl) (x : Bs) : List Rl := rs.filter fun r => makesF r x
def tri (L : List (Value × Value × Value)) : List Value := L.flatMap fun p => [p.1, p.2.1, p.2.2]
theorem tri_len : ∀ L : List (Value × Value × Value), (tri L).length = L.length * 3
  | [] => rfl
  | p :: L => by
    show ([p.1, p.2.1, p.2.2] ++ tri L).length = _
    rw [List.length_append, tri_len L]; simp; omega
theorem tri_at : ∀ (L : List (Value × Value × Value)) (i : Nat) (h : i < L.length), (tri L)[i * 3]? = some L[i].1 ∧ (tri L)[i * 3 + 1]? = some L[i].2.1 ∧ (tri L)[i * 3 + 2]? = some L[i].2.2
  | [], _, h => absurd h (by simp)
  | p :: L, 0, h => ⟨rfl, rfl, rfl⟩
  | p :: L, i + 1, h => by
    have ih := tri_at L i (by simpa using h)
    have e : tri (p :: L) = p.1 :: p.2.1 :: p.2.2 :: tri L := rfl
    rw [e, show (i + 1) * 3 = i * 3 + 1 + 1 + 1 by omega]
    exact ih
theorem tri_app (L M : List (Value × Value × Value)) : tri (L ++ M) = tri L ++ tri M := by simp [tri]
/-- Rules in a row of the call's own. -/
structure Ro (wb w0 w : World) (v : Value) (L : List Rl) : Prop where
  own : ∃ cs : List (Value × Value × Value), cs.length = L.length ∧ w.ownsRow w0.heap.size 48 3 v L.length (tri cs) ∧ ∀ i (h : i < L.length) (h' : i < cs.length), Rl3 wb cs[i].1 cs[i].2.1 cs[i].2.2 L[i]
  old : Below w0.heap.size w0 w
theorem Ro.rsv {wb w0 w : World} {v : Value} {L : List Rl} (h : Ro wb w0 w v L) (hb : Below wb.heap.size wb w0) : RsV w v L := by
  obtain ⟨cs, hl, how, hr⟩ := h.own
  rcases how.2 with ⟨h1, h0⟩ | ⟨b, cap, cur, rfl, h2, h3, h4, h5, h6⟩
  · exact .inl ⟨h1, List.eq_nil_of_length_eq_zero h0⟩
  · refine .inr ⟨b, 0, cap, rfl, h4, h5, (Array.getElem?_eq_some_iff.1 h3).1, fun i hi => ?_⟩
    have hc : i < cs.length := by omega
    have e := tri_at cs i hc
    rw [Nat.zero_add]
    exact ⟨_, _, _, by rw [World.ownsRow.cellAt how (i * 3) (by omega), e.1], by rw [World.ownsRow.cellAt how (i * 3 + 1) (by omega), e.2.1], by rw [World.ownsRow.cellAt how (i * 3 + 2) (by omega), e.2.2], (hr i hi hc).below (hb.trans (h.old.mono hb.size))⟩
theorem info48 : (Tryd.prog.info? 48).map (fun i => (i.zero, i.size, i.bytes)) = some (some (.agg #[.slice none 0 0, .slice none 0 0, .slice none 0 0]), 3, 72) := by kernel_rfl
theorem own_keep3 {w w' : World} {B e sz n : Nat} {v : Value} {xs : List Value} (h : w.ownsRow B e sz v n xs) (hb : Below w.heap.size w w') : w'.ownsRow B e sz v n xs := by
  refine ⟨h.1, ?_⟩
  rcases h.2 with hn | ⟨g, cap, cur, rfl, h1, h2, r⟩
  · exact .inl hn
  · exact .inr ⟨g, cap, cur, rfl, h1, (hb.block g (Array.getElem?_eq_some_iff.1 h2).1).trans h2, r⟩
theorem Ro.below {wb w0 w w' : World} {v : Value} {L : List Rl} (h : Ro wb w0 w v L) (hb : Below w.heap.size w w') : Ro wb w0 w' v L := by
  obtain ⟨⟨cs, h1, h2, h3⟩, h4⟩ := h
  exact ⟨⟨cs, h1, own_keep3 h2 hb, h3⟩, h4.trans (hb.mono h4.size)⟩
theorem oneCell_sl {w : World} {v : Value} {L : List Bs} (h : SlS w v L) : v.oneCell' = true := by
  obtain ⟨a, c, rfl⟩ := h.len; rfl
theorem Ro.push {wb w0 w : World} {v : Value} {L : List Rl} (h : Ro wb w0 w v L) (hl : L.length ≤ 100000) (a b c : Value) (r : Rl) (h3 : Rl3 wb a b c r) :
    ∃ v' w', (Builtin.append_ #[43, 43] 43 #[v, .slice (some ⟨w.heap.size, 0, none⟩) 1 1]).run Tryd.prog (w.alloc (.cells #[a, b, c] 48)) = .ok v' w' ∧ Ro wb w0 w' v' (L ++ [r]) := by
  obtain ⟨i0, hi, hz0, hz1, hz2⟩ := info_parts info48
  have hw0 : Below w.heap.size w (w.alloc (.cells #[a, b, c] 48)) := below_alloc _ _
  obtain ⟨⟨cs, hcl, how, hr⟩, hold⟩ := h
  have hown := own_keep3 how hw0
  obtain ⟨v', w', h2, h3', h4, h5⟩ := run_append_own (P := Tryd.prog) (w.alloc (.cells #[a, b, c] 48)) w0.heap.size 43 43 48 i0 _ 3 72 Tryd.underlying43 hi hz0 hz1 hz2 rfl (by decide) v L.length (tri cs) hown ⟨w.heap.size, 0, none⟩ 1 1 [a, b, c] rfl
    (fun j u hj => by
      rw [addk, Nat.zero_add]
      simp only [World.cell?, heap_alloc_new w]
      simpa using hj) (by
      intro u hu
      simp only [List.mem_cons, List.not_mem_nil, or_false] at hu
      rcases hu with rfl | rfl | rfl
      · exact oneCell_sl h3.t
      · exact oneCell_sl h3.n
      · exact oneCell_sl h3.k) (by unfold maxLen; omega) (by omega) (by have := hold.size; have := hw0.size; omega)
  refine ⟨v', w', h2, ⟨⟨cs ++ [(a, b, c)], by simp [hcl], by rw [tri_app, List.length_append]; simpa [tri] using h3', fun i hi hi' => ?_⟩, ?_⟩⟩
  · by_cases e : i < cs.length
    · rw [List.getElem_append_left e, List.getElem_append_left (by omega)]
      exact hr i (by omega) e
    · have e2 : i = cs.length := by simp at hi'; omega
      subst e2
      rw [List.getElem_append_right (Nat.le_refl _), List.getElem_append_right (by omega)]
      simpa using h3
  · exact hold.trans ((hw0.mono hold.size).trans ((Only.of_grown (S := fun i => v.ownBlock = some i) h4 (fun k hk => hk)).below (fun k hk => (hown.lt k hk).1) (by have := hold.size; have := hw0.size; omega)))
theorem Ro.nil (wb w : World) : Ro wb w w (.slice none 0 0) [] := ⟨⟨[], rfl, World.ownsRow_nil _ _ _ _, fun i h => absurd h (by simp)⟩, Below.refl _ _⟩
end Go.Proofs.YtjagnihkpgbjeaaDoor
