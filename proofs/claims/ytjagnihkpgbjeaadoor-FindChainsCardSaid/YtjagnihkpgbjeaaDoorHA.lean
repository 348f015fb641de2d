import Derived.Test.YtjagnihkpgbjeaaDoorFH
import Derived.Maps.Own
import Derived.Maps.OwnOps
namespace Go.Proofs.YtjagnihkpgbjeaaDoor
open Go.RowKit Go.Maps Go.ChangeMaps
set_option linter.unusedVariables false
/-! A map from texts to numbers; the walk over the graph as a function. -/
def IMap (w : World) (mb N : Nat) (st : Bs → Int) : Prop := ∃ nn D, nn ≤ N ∧ w.ownsMap Tryd.prog 9 (plainElem (H := Unit) Tryd.prog 3) mb nn D ∧ ∀ k : Bs, D.atKey (.string k) (.lit (.int .i64 0)) = .lit (.int .i64 (st k))
theorem zero3 (w : World) : (zeroValue 3).run Tryd.prog w = .ok (.int .i64 0) w := by kernel_rfl
theorem IMap.lt {w : World} {mb N : Nat} {st : Bs → Int} (h : IMap w mb N st) : mb < w.heap.size := by
  obtain ⟨nn, D, _, h1, _⟩ := h
  exact h1.lt
theorem IMap.blk {w w' : World} {mb N : Nat} {st : Bs → Int} (h : IMap w mb N st) (hb : w'.heap[mb]? = w.heap[mb]?) : IMap w' mb N st := by
  obtain ⟨nn, D, h1, hown, hg⟩ := h
  obtain ⟨es, clock, h2, F, hs, hD⟩ := hown
  exact ⟨nn, D, h1, ⟨es, clock, hb.trans h2, F, hs, hD⟩, hg⟩
theorem IMap.no_cells {w : World} {mb N : Nat} {st : Bs → Int} (h : IMap w mb N st) {c : Array Value} {t : TypeId} {z : Nat × Nat} : w.heap[mb]? ≠ some (.cells c t z) := by
  obtain ⟨nn, D, h1, hown, hg⟩ := h
  obtain ⟨es, clock, h2, F, hs, hD⟩ := hown
  rw [h2]
  intro e
  cases e
theorem lit_int_inj {a b : Int} (h : (DataW.lit (.int .i64 a) : DataW Unit) = .lit (.int .i64 b)) : a = b := by
  injection h with h; injection h
theorem IMap.look {w : World} {mb N : Nat} {st : Bs → Int} (h : IMap w mb N st) (s : ByteArray) (hs : s.size ≤ maxLen) : (Instr.lookup 98 (.map (some mb)) (.string s) false).run Tryd.prog w = .ok (.int .i64 (st s.data.toList)) w := by
  obtain ⟨nn, D, h1, hown, hg⟩ := h
  have hk := Go.WideMaps.keyOf_string_mk Tryd.underlying9 hs
  obtain ⟨a, hrun, hv⟩ := hown.lookup_int keyedS Tryd.underlying98 Tryd.underlying3 (zero3 w) hk
  rw [hg] at hv
  rw [hrun, lit_int_inj hv.1]
structure GS where
  st : Bs → Int
  reached : Nat
  nested : Nat
  order : List Bs
def setS (st : Bs → Int) (t : Bs) (x : Int) : Bs → Int := fun k => if k = t then x else st k
def openS (s : GS) (t : Bs) : GS := ⟨setS s.st t 1, s.reached + 1, s.nested + 1, s.order⟩
def closeS (s : GS) (t : Bs) : GS := ⟨setS s.st t 2, s.reached, s.nested - 1, s.order ++ [t]⟩
def okB (t : Bs) : Bool := t.all (fun c => c != 47 && c != 0) && decide (t.length ≤ 60) && !t.isEmpty && decide (t.head? ≠ some 46)
theorem okB_nm {t : Bs} (h : okB t = true) : Nm t ∧ t.head? ≠ some 46 := by
  unfold okB at h
  simp only [Bool.and_eq_true, List.all_eq_true, decide_eq_true_eq, bne_iff_ne, Bool.not_eq_true'] at h
  obtain ⟨⟨⟨h1, h2⟩, h3⟩, h4⟩ := h
  refine ⟨⟨(fun e => by rw [e] at h3; cases h3), (fun e => h4 (by rw [e]; rfl)), (fun e => h4 (by rw [e]; rfl)), fun c hc => (h1 c hc).1, fun c hc => (h1 c hc).2, h2⟩, h4⟩
/-- sort, by fuel: with which error, and how all stands behind it; none where it is not told. -/
def sortF (G : Bs → Pl) (th : Bs → Bool) : Nat → List Bs → GS → Option (Int × GS)
  | 0, _, _ => none
  | _ + 1, [], s => some (0, s)
  | n + 1, t :: ts, s =>
    if okB t = false then none
    else if s.st t = 2 then sortF G th n ts s
    else if s.st t = 1 then some (18, s)
    else if 1000 ≤ s.reached ∨ 200 ≤ s.nested then none
    else if (G t).rule = false ∧ th t = false then some (19, s)
    else match sortF G th n (G t).ns (openS s t) with
      | none => none
      | some (e, s1) => if e = 0 then (if s1.nested = 0 then none else sortF G th n ts (closeS s1 t)) else some (e, s1)
theorem sortF_cons {G : Bs → Pl} {th : Bs → Bool} {n : Nat} {t : Bs} {ts : List Bs} {s : GS} {r : Int × GS} (h : sortF G th n (t :: ts) s = some r) :
    okB t = true ∧ ∃ m, n = m + 1 ∧ ((s.st t = 2 ∧ sortF G th m ts s = some r) ∨ (s.st t ≠ 2 ∧ s.st t = 1 ∧ r = (18, s)) ∨
      (s.st t ≠ 2 ∧ s.st t ≠ 1 ∧ s.reached < 1000 ∧ s.nested < 200 ∧
        (((G t).rule = false ∧ th t = false ∧ r = (19, s)) ∨
         ((G t).rule = true ∨ th t = true) ∧ ∃ e s1, sortF G th m (G t).ns (openS s t) = some (e, s1) ∧ ((e ≠ 0 ∧ r = (e, s1)) ∨ (e = 0 ∧ 0 < s1.nested ∧ sortF G th m ts (closeS s1 t) = some r))))) := by
  cases n with
  | zero => cases h
  | succ m =>
    rw [sortF] at h
    by_cases h0 : okB t = false
    · rw [if_pos h0] at h; cases h
    rw [if_neg h0] at h
    refine ⟨by simpa using h0, m, rfl, ?_⟩
    by_cases h1 : s.st t = 2
    · rw [if_pos h1] at h; exact .inl ⟨h1, h⟩
    rw [if_neg h1] at h
    by_cases h2 : s.st t = 1
    · rw [if_pos h2] at h
      injection h with h
      exact .inr (.inl ⟨h1, h2, h.symm⟩)
    rw [if_neg h2] at h
    by_cases h3 : 1000 ≤ s.reached ∨ 200 ≤ s.nested
    · rw [if_pos h3] at h; cases h
    rw [if_neg h3] at h
    refine .inr (.inr ⟨h1, h2, by omega, by omega, ?_⟩)
    by_cases h4 : (G t).rule = false ∧ th t = false
    · rw [if_pos h4] at h
      injection h with h
      exact .inl ⟨h4.1, h4.2, h.symm⟩
    rw [if_neg h4] at h
    refine .inr ⟨?_, ?_⟩
    · cases hr : (G t).rule
      · right
        cases ht : th t
        · exact absurd ⟨hr, ht⟩ h4
        · rfl
      · exact .inl rfl
    · cases hs : sortF G th m (G t).ns (openS s t) with
      | none => rw [hs] at h; cases h
      | some q =>
        obtain ⟨e, s1⟩ := q
        rw [hs] at h
        simp only at h
        refine ⟨e, s1, rfl, ?_⟩
        by_cases he : e = 0
        · rw [if_pos he] at h
          by_cases hz : s1.nested = 0
          · rw [if_pos hz] at h; cases h
          · rw [if_neg hz] at h
            exact .inr ⟨he, by omega, h⟩
        · rw [if_neg he] at h
          injection h with h
          exact .inl ⟨he, h.symm⟩
end Go.Proofs.YtjagnihkpgbjeaaDoor
