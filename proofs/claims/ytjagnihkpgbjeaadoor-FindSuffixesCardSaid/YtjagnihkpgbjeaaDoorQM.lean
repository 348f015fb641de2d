import Derived.Test.YtjagnihkpgbjeaaDoorZC
namespace Go.Proofs.YtjagnihkpgbjeaaDoor
open Go Go.RowKit

section
variable {P : Program} {ops : Array Oper} {md : Region.Mode} {C : World → Prop}
theorem op_then {o : Oper} {a : Act} {w : World} {K : Act → World → Prop} {R : Act → World → Prop} {Q : Exit → Act → World → Prop} (hh : o.wp P a w K (Exit.then R Q)) : o.wp P a w K Q := by
  unfold Oper.wp at *
  generalize (execOp a.eval o).run P w = r at *
  cases r with
  | ok n w' =>
    cases n <;> simp only [Oper.upon] at hh ⊢ <;>
      first
        | exact hh
        | exact Calls.mono hh (fun e w'' he => by cases e <;> exact he)
  | halt x w' => cases x <;> simp only [Oper.upon] at hh ⊢ <;> exact hh
theorem wpOp_then {i : Nat} {a : Act} {w : World} {K : Act → World → Prop} {R : Act → World → Prop} {Q : Exit → Act → World → Prop} (hh : wpOp P ops (Exit.then R Q) i K a w) : wpOp P ops Q i K a w := by
  unfold wpOp at *
  split
  · simpa [*] using hh
  · rename_i o ho
    simp only [ho] at hh
    split
    · rename_i hw; simp only [hw, if_true] at hh; exact hh.imp op_then (fun h => ⟨h.1, h.2⟩)
    · rename_i hw; simp only [hw] at hh; exact hh
/-- All behind n wait for one that is not ahead of n. -/
def waitB (md : Region.Mode) (ops : Array Oper) (n : Nat) : Bool :=
  (List.range ops.size).all fun t => decide (t ≤ n) || (List.range t).any fun j => decide (n ≤ j) && Region.waitsFor md ops t j
def midB (md : Region.Mode) (ops : Array Oper) (g : Nat) : Nat → Nat → Array Bool → Bool
  | 0, k, listed => Region.lexFrom md ops g k listed
  | f + 1, k, listed => decide (Region.ready md ops listed = [k]) && midB md ops g f (k + 1) (listed.setIfInBounds k true)
def lexHead2 (md : Region.Mode) (ops : Array Oper) (m g : Nat) : Nat → Nat → Array Bool → Bool
  | 0, k, listed => midB md ops g m k listed
  | f + 1, k, listed => (Region.ready md ops listed).contains k && Region.free md ops listed k && lexHead2 md ops m g f (k + 1) (listed.setIfInBounds k true)
/-- First n operations in any order, m behind them one by one, then the others in any order. -/
def lexMidB (md : Region.Mode) (ops : Array Oper) (n m : Nat) : Bool :=
  Region.noSelect ops && decide (n + m ≤ ops.size) && decide (1 ≤ m) && Region.sinkB md ops n && waitB md ops n && lexHead2 md ops m (ops.size - n - m) n 0 (Array.replicate ops.size false)
theorem tail_waits2 {n : Nat} {listed : Array Bool} (hs : Region.sinkB md ops n = true) (hc : waitB md ops n = true) (hn : n < ops.size) (inv : HeadInv md ops n listed) :
    ∀ (d i : Nat), n - i = d → i < n → listed.getD i true = false → ∀ t, n ≤ t → t ∉ Region.ready md ops listed := by
  intro d
  induction d using Nat.strongRecOn with
  | _ d ih =>
    intro i hd hi hun t ht hr
    obtain ⟨_, ot, hot, hall⟩ := mem_ready.1 hr
    have htlt : t < ops.size := (Array.getElem?_eq_some_iff.1 hot).1
    by_cases htn : t = n
    · subst htn
      have h1 := List.all_eq_true.1 hs i (List.mem_range.2 hi)
      obtain ⟨j, hj, hj2⟩ := List.any_eq_true.1 h1
      simp only [Bool.and_eq_true, decide_eq_true_eq] at hj2
      obtain ⟨oj, hoj, e, he, hb, hon⟩ := Region.waitsFor_spec hj2.2
      have hjle : j ≤ t := by have := List.mem_range.1 hj; omega
      by_cases hjt : j = t
      · subst hjt
        have : oj = ot := Option.some.inj (hoj.symm.trans hot)
        subst this
        have h2 := hall e he hb
        rw [hon, getD_both hun] at h2
        cases h2
      · cases hl : listed.getD j false with
        | true =>
          have h2 := inv.closed j oj hoj hl e he hb
          rw [hon, getD_both hun] at h2
          cases h2
        | false =>
          have hjs : j < listed.size := by rw [inv.size]; omega
          exact ih (t - j) (by omega) j rfl (by omega) (getD_in hjs hl) t (Nat.le_refl _) hr
    · have h1 := List.all_eq_true.1 hc t (List.mem_range.2 htlt)
      simp only [Bool.or_eq_true, decide_eq_true_eq] at h1
      rcases h1 with h1 | h1
      · omega
      · obtain ⟨j, hj, hj2⟩ := List.any_eq_true.1 h1
        simp only [Bool.and_eq_true, decide_eq_true_eq] at hj2
        obtain ⟨o', ho', e, he, hb, hon⟩ := Region.waitsFor_spec hj2.2
        have : o' = ot := Option.some.inj (ho'.symm.trans hot)
        subst this
        have h2 := hall e he hb
        rw [hon, getD_both (inv.tail j hj2.1 (by have := List.mem_range.1 hj; omega))] at h2
        cases h2
theorem headQ_first2 {n i : Nat} {oi : Oper} {v : Value} {L : Array Bool → Act → Prop} (hi : ops[i]? = some oi) (hsel : ∀ (j : Nat) (o : Oper) cs b, ops[j]? = some o → o.op ≠ .select cs b)
    (hs : Region.sinkB md ops n = true) (hc : waitB md ops n = true) (hn : n < ops.size) (hin : i < n)
    (hdone : ∀ listed a, L listed a → ∀ j ∈ Region.ready md ops listed, n ≤ j) :
    ∀ (f : Nat) (listed : Array Bool) (a : Act), HeadInv md ops n listed →
      (∀ j oj, ops[j]? = some oj → j ≠ i → listed.getD j true = false → (∀ e ∈ oj.after, Region.binds md e = true → e.on ≠ i) → oi.apart ops oj = true) →
      i ∈ Region.ready md ops listed → YieldsIn P ops C oi v a →
      headQ P md ops C n L f (listed.setIfInBounds i true) (a.put oi.dst v) → headQ P md ops C n L (f + 1) listed a := by
  intro f
  induction f with
  | zero =>
    intro listed a inv _ hr hy H
    have hun := (mem_ready.1 hr).1
    refine ⟨fun h => (by rw [h] at hr; cases hr), fun j hj => ?_⟩
    have hjn : j < n := Nat.lt_of_not_le fun h => tail_waits2 hs hc hn inv _ i rfl hin hun j h hj
    refine ⟨hjn, ?_⟩
    by_cases hji : j = i
    · subst hji; exact hy.qOp hi H
    · have := hdone _ _ H j (ready_mono hj hji)
      omega
  | succ f ih =>
    intro listed a inv hfree hr hy H
    have hun := (mem_ready.1 hr).1
    refine ⟨fun h => (by rw [h] at hr; cases hr), fun j hj => ?_⟩
    have hjn : j < n := Nat.lt_of_not_le fun h => tail_waits2 hs hc hn inv _ i rfl hin hun j h hj
    refine ⟨hjn, ?_⟩
    by_cases hji : j = i
    · subst hji; exact hy.qOp hi H
    · have h1 := (H.2 j (ready_mono hj hji)).2
      obtain ⟨hjun, oj, hoj, hall⟩ := mem_ready.1 hj
      have hnot : ∀ e ∈ oj.after, Region.binds md e = true → e.on ≠ i := fun e he hb heq => by
        have h5 := hall e he hb
        rw [heq, getD_both hun] at h5
        cases h5
      have h2 := qOp_put hoj (hfree j oj hoj hji hjun hnot) (fun cs b => hsel i oi cs b hi) (fun cs b => hsel j oj cs b hoj) hy h1
      refine qOp_mono (fun a' h3 => ih (listed.setIfInBounds j true) a' (inv.set hj hjn) (fun k ok hk hki hun' hno => ?_) (ready_mono hr (Ne.symm hji)) h3.1 ?_) h2
      · refine hfree k ok hk hki ?_ hno
        by_cases hjk : j = k
        · subst hjk; exact hjun
        · rwa [getD_set_ne true hjk] at hun'
      · rw [Array.setIfInBounds_comm _ _ hji]
        exact h3.2
theorem midB_ready {m g k : Nat} {listed : Array Bool} (hm : 1 ≤ m) (h : midB md ops g m k listed = true) : ∀ j ∈ Region.ready md ops listed, k ≤ j := by
  cases m with
  | zero => omega
  | succ m =>
    intro j hj
    simp only [midB, Bool.and_eq_true, decide_eq_true_eq] at h
    rw [h.1] at hj
    have : j = k := by simpa using hj
    omega
theorem headQ_lex2 {n m g : Nat} {Lq : Act → Prop} (hm : 1 ≤ m) (hsel : Region.noSelect ops = true) (hs : Region.sinkB md ops n = true) (hc : waitB md ops n = true) (hn : n < ops.size) :
    ∀ (l : List Oper) (k : Nat) (listed : Array Bool) (a : Act), (∀ j, j < l.length → l[j]? = ops[k + j]?) → k + l.length = n → HeadInv md ops n listed →
    lexHead2 md ops m g l.length k listed = true → wpQuiet P ops C Lq l a →
    headQ P md ops C n (fun listed' a' => midB md ops g m n listed' = true ∧ Lq a') l.length listed a
  | [], k, listed, a, _, hk, _, hB, h => by
    obtain rfl : k = n := by simpa using hk
    exact ⟨by simpa [lexHead2] using hB, h⟩
  | o :: l, k, listed, a, hl, hk, inv, hB, h => by
    have h0 : ops[k]? = some o := by simpa using (hl 0 (by simp)).symm
    simp only [List.length_cons, lexHead2, Bool.and_eq_true] at hB
    obtain ⟨⟨hr, hf⟩, hB'⟩ := hB
    have hkn : k < n := by simp only [List.length_cons] at hk; omega
    have hr' : k ∈ Region.ready md ops listed := by simpa using hr
    have hst : qOp P ops C k (wpQuiet P ops C Lq l) a := by unfold qOp; simp only [h0]; exact h
    obtain ⟨v, hy, hK⟩ := yieldsIn_of_qOp h0 hst
    exact headQ_first2 h0 (Region.noSelect_spec hsel) hs hc hn hkn (fun listed' a' hL => midB_ready hm hL.1) l.length listed a inv (Region.free_spec h0 hf) hr' hy
      (headQ_lex2 hm hsel hs hc hn l (k + 1) _ _ (fun j hj => by have := hl (j + 1) (by simp; omega); simpa [Nat.add_assoc, Nat.add_comm 1 j] using this) (by simp only [List.length_cons] at hk; omega) (inv.set hr' hkn) hB' hK)
theorem wpAny_of_mid {Q : Exit → Act → World → Prop} {R : Act → World → Prop} {g e : Nat} (hend : ∀ listed a w, Region.lexFrom md ops g e listed = true → R a w → wpAny P md ops Q g listed a w) :
    ∀ (l : List Oper) (k : Nat) (listed : Array Bool) (a : Act) (w : World), (∀ j, j < l.length → l[j]? = ops[k + j]?) → k + l.length = e →
    midB md ops g l.length k listed = true → wpList P ops (Exit.then R Q) l a w → wpAny P md ops Q (l.length + g) listed a w
  | [], k, listed, a, w, _, hk, hB, h => by
    obtain rfl : k = e := by simpa using hk
    rw [List.length_nil, Nat.zero_add]
    exact hend _ _ _ (by simpa [midB] using hB) h
  | o :: l, k, listed, a, w, hl, hk, hB, h => by
    have h0 : ops[k]? = some o := by simpa using (hl 0 (by simp)).symm
    simp only [List.length_cons, midB, Bool.and_eq_true, decide_eq_true_eq] at hB
    rw [List.length_cons, show l.length + 1 + g = (l.length + g) + 1 by omega]
    refine ⟨fun h1 => (by rw [hB.1] at h1; cases h1), fun i hi => ?_⟩
    rw [hB.1] at hi
    have hik : i = k := by simpa using hi
    subst hik
    have hw : wpOp P ops (Exit.then R Q) i (wpList P ops (Exit.then R Q) l) a w := by unfold wpOp; simp only [h0]; exact h
    exact wpOp_mono (fun a' w' h' => wpAny_of_mid hend l (i + 1) _ a' w' (fun j hj => by have := hl (j + 1) (by simp; omega); simpa [Nat.add_assoc, Nat.add_comm 1 j] using this) (by simp only [List.length_cons] at hk; omega) hB.2 h') (wpOp_then hw)
/-- A region whose first n operations are quiet in the class C, m behind them one by one, and the others quiet again. -/
theorem wp_region_quiet_mid {id : Nat} {Q : Exit → Act → World → Prop} {a : Act} {w : World} {l : List Oper} (n m : Nat) (C : World → Prop) (hm : P.follows .mixedOrders = true) (hB : lexMidB .any l.toArray n m = true)
    (hC : C { w with drawn := w.drawn + 1 })
    (h : wpQuiet P l.toArray C (fun a' => ∀ w', C w' → wpList P l.toArray (Exit.then (fun b w'' => wpQuiet P l.toArray (fun x => x = w'') (fun b' => Q .normal b' w'') (l.drop (n + m)) b) Q) ((l.drop n).take m) a' w') (l.take n) a) : (Code.region id l.toArray true).wp P Q a w := by
  simp only [lexMidB, Bool.and_eq_true, decide_eq_true_eq] at hB
  obtain ⟨⟨⟨⟨⟨hsel, hnm⟩, hm1⟩, hs⟩, hc⟩, hlex⟩ := hB
  have hnm' : n + m ≤ l.length := by simpa using hnm
  have hn : n < l.toArray.size := by simp; omega
  have htl : (l.take n).length = n := by simp; omega
  have hml : ((l.drop n).take m).length = m := by simp; omega
  have hrl : (l.drop (n + m)).length = l.toArray.size - n - m := by simp; omega
  have inv0 : HeadInv .any l.toArray n (Array.replicate l.toArray.size false) :=
    ⟨by simp, fun j oj _ hl => (by rw [getD_replicate_false] at hl; cases hl), fun t _ ht => getD_in (by simpa using ht) (getD_replicate_false _ _)⟩
  have H := headQ_lex2 (md := .any) (C := C) (m := m) (g := l.toArray.size - n - m) hm1 hsel hs hc hn (l.take n) 0 _ a (fun j hj => by
    have hj' : j < n := by rw [htl] at hj; exact hj
    simp [hj']) (by simpa using htl) inv0 (by rw [htl]; exact hlex) h
  refine wp_region_any hm ?_
  have := wpAny_of_headQ (C := C) (Q' := Q) (g := m + (l.toArray.size - n - m)) (fun listed a' w' hw' hL => by
    have := wpAny_of_mid (md := .any) (Q := Q) (g := l.toArray.size - n - m) (e := n + m) (fun listed b w'' hlf hR => by
      refine wpAny_of_quiet (C := fun x => x = w'') (Q := fun b' => Q .normal b' w'') (fun b' x hx hq => by subst hx; exact hq) _ _ _ _ rfl ?_
      have := wpAnyQ_lex (C := fun x => x = w'') (md := .any) hsel (l.drop (n + m)) (n + m) listed b (fun j => by simp [List.getElem?_drop]) (by rw [hrl]; exact hlf) hR
      rwa [hrl] at this) ((l.drop n).take m) n listed a' w' (fun j hj => by
        have hj' : j < m := by rw [hml] at hj; exact hj
        simp [List.getElem?_take, List.getElem?_drop, hj']) (by rw [hml]) (by rw [hml]; exact hL.1) (hL.2 w' hw')
    rwa [hml] at this) _ _ _ _ hC H
  rw [htl, show n + (m + (l.toArray.size - n - m)) = l.toArray.size by omega] at this
  exact this
end
end Go.Proofs.YtjagnihkpgbjeaaDoor

namespace Go.Proofs.YtjagnihkpgbjeaaDoor
open Go Go.RowKit

section
variable {P : Program} {ops : Array Oper} {md : Region.Mode} {C1 C2 : World → Prop} {i0 : Nat}

/-- The one waits for the other, or for one that does. -/
def waits2B (md : Region.Mode) (ops : Array Oper) (i0 i : Nat) : Bool := Region.waitsFor md ops i0 i || (List.range ops.size).any fun j => Region.waitsFor md ops i0 j && Region.waitsFor md ops j i
/-- Operation i in state a: the maker makes w2 of w1; the others leave either world as it was. -/
def stepYB (P : Program) (md : Region.Mode) (ops : Array Oper) (C1 C2 : World → Prop) (i0 i : Nat) (o : Oper) (v : Value) (a : Act) : Prop :=
  (i = i0 ∧ Region.wanted o (yielded ops a.tmps) = true ∧ (∀ x, C1 x → ∃ y, (execOp a.eval o).run P x = .ok .skip y ∧ C2 y) ∧ v = undef) ∨
  (i ≠ i0 ∧ YieldsIn P ops (C1) o v a ∧ (YieldsIn P ops (C2) o v a ∨ waits2B md ops i0 i = true))
theorem stepYB.of_same {i : Nat} {o : Oper} {v : Value} {a a' : Act} (hy : stepYB P md ops C1 C2 i0 i o v a) (he : execOp a'.eval o = execOp a.eval o)
    (hw : Region.wanted o (yielded ops a'.tmps) = Region.wanted o (yielded ops a.tmps)) : stepYB P md ops C1 C2 i0 i o v a' := by
  rcases hy with ⟨h1, h2, h3⟩ | ⟨h1, h2, h3⟩
  · exact .inl ⟨h1, by rw [hw]; exact h2, by rw [he]; exact h3⟩
  · exact .inr ⟨h1, h2.of_same he hw, h3.imp (fun h => h.of_same he hw) id⟩
/-- The first operations, in whatever order. -/
def headYB (P : Program) (md : Region.Mode) (ops : Array Oper) (C1 C2 : World → Prop) (i0 n : Nat) (L : Array Bool → Act → Prop) : Nat → Array Bool → Act → Prop
  | 0, listed, a => L listed a
  | f + 1, listed, a =>
    Region.ready md ops listed ≠ [] ∧ ∀ i ∈ Region.ready md ops listed, i < n ∧ ∃ o v, ops[i]? = some o ∧ stepYB P md ops C1 C2 i0 i o v a ∧ headYB P md ops C1 C2 i0 n L f (listed.setIfInBounds i true) (a.put o.dst v)
theorem wpAny_of_headYB {n g : Nat} {L : Array Bool → Act → Prop} {Q' : Exit → Act → World → Prop} (hi0 : i0 < ops.size) (hL1 : ∀ listed a, L listed a → listed.getD i0 false = true) (hL : ∀ listed a w, C2 w → L listed a → wpAny P md ops Q' g listed a w) :
    ∀ (f : Nat) (listed : Array Bool) (a : Act) (w : World), HeadInv md ops n listed → (listed.getD i0 false = false → C1 w) → (listed.getD i0 false = true → C2 w) → headYB P md ops C1 C2 i0 n L f listed a → wpAny P md ops Q' (f + g) listed a w
  | 0, listed, a, w, _, _, hw2, h => by
    rw [Nat.zero_add]
    exact hL _ _ _ (hw2 (hL1 _ _ h)) h
  | f + 1, listed, a, w, inv, hw1, hw2, h => by
    have hsz := inv.size
    rw [show f + 1 + g = (f + g) + 1 by omega]
    refine ⟨fun h0 => absurd h0 h.1, fun i hi => ?_⟩
    obtain ⟨hin, o, v, ho, hy, hk⟩ := h.2 i hi
    have hun := (mem_ready.1 hi).1
    have inv' := inv.set hi hin
    rcases hy with ⟨he, hwa, hrun, hv⟩ | ⟨hne, hy1, hy2⟩
    · rw [he] at hun ho hk inv' ⊢
      obtain ⟨y, hy, hyC⟩ := hrun w (hw1 (getD_both hun))
      unfold wpOp
      simp only [ho, hwa, if_true]
      refine .inl ?_
      have hset : (listed.setIfInBounds i0 true).getD i0 false = true := by
        simp [Array.getD_eq_getD_getElem?, Array.getElem?_setIfInBounds, hsz, hi0]
      unfold Oper.wp
      rw [hy]
      rw [hv] at hk
      exact wpAny_of_headYB hi0 hL1 hL f _ _ _ inv' (fun e => by rw [hset] at e; cases e) (fun _ => hyC) hk
    · cases hli : listed.getD i0 false
      · have hq := hy1.qOp ho (K := fun a' => headYB P md ops C1 C2 i0 n L f (listed.setIfInBounds i true) a') hk
        refine wpOp_of_qOp (C := C1) (hw1 hli) (fun a' w' hw' hk' => ?_) hq
        exact wpAny_of_headYB hi0 hL1 hL f _ _ _ inv' (fun _ => hw') (fun e => by rw [getD_set_ne false hne, hli] at e; cases e) hk'
      · have hy : YieldsIn P ops C2 o v a := by
          rcases hy2 with hy2 | hwait
          · exact hy2
          · have one : ∀ j k, Region.waitsFor md ops j k = true → listed.getD j false = true → listed.getD k false = true := fun j k hjk hj => by
              obtain ⟨oj, hoj, e, hee, hbb, hon⟩ := Region.waitsFor_spec hjk
              have h5 := inv.closed j oj hoj hj e hee hbb
              rwa [hon] at h5
            have h5 : listed.getD i false = true := by
              unfold waits2B at hwait
              rw [Bool.or_eq_true] at hwait
              rcases hwait with hwait | hwait
              · exact one _ _ hwait hli
              · obtain ⟨j, _, hj⟩ := List.any_eq_true.1 hwait
                rw [Bool.and_eq_true] at hj
                exact one _ _ hj.2 (one _ _ hj.1 hli)
            rw [getD_both hun] at h5
            cases h5
        have hq := hy.qOp ho (K := fun a' => headYB P md ops C1 C2 i0 n L f (listed.setIfInBounds i true) a') hk
        refine wpOp_of_qOp (C := C2) (hw2 hli) (fun a' w' hw' hk' => ?_) hq
        exact wpAny_of_headYB hi0 hL1 hL f _ _ _ inv' (fun e => by rw [getD_set_ne false hne, hli] at e; cases e) (fun _ => hw') hk'
theorem headY_firstB {n i : Nat} {oi : Oper} {v : Value} {L : Array Bool → Act → Prop} (hi : ops[i]? = some oi) (hsel : ∀ (j : Nat) (o : Oper) cs b, ops[j]? = some o → o.op ≠ .select cs b)
    (hs : Region.sinkB md ops n = true) (hc : waitB md ops n = true) (hn : n < ops.size) (hin : i < n)
    (hdone : ∀ listed a, L listed a → ∀ j ∈ Region.ready md ops listed, n ≤ j) :
    ∀ (f : Nat) (listed : Array Bool) (a : Act), HeadInv md ops n listed →
      (∀ j oj, ops[j]? = some oj → j ≠ i → listed.getD j true = false → (∀ e ∈ oj.after, Region.binds md e = true → e.on ≠ i) → oi.apart ops oj = true) →
      i ∈ Region.ready md ops listed → stepYB P md ops C1 C2 i0 i oi v a →
      headYB P md ops C1 C2 i0 n L f (listed.setIfInBounds i true) (a.put oi.dst v) → headYB P md ops C1 C2 i0 n L (f + 1) listed a := by
  intro f
  induction f with
  | zero =>
    intro listed a inv _ hr hy H
    have hun := (mem_ready.1 hr).1
    refine ⟨fun h => (by rw [h] at hr; cases hr), fun j hj => ?_⟩
    have hjn : j < n := Nat.lt_of_not_le fun h => tail_waits2 hs hc hn inv _ i rfl hin hun j h hj
    refine ⟨hjn, ?_⟩
    by_cases hji : j = i
    · subst hji; exact ⟨oi, v, hi, hy, H⟩
    · have := hdone _ _ H j (ready_mono hj hji)
      omega
  | succ f ih =>
    intro listed a inv hfree hr hy H
    have hun := (mem_ready.1 hr).1
    refine ⟨fun h => (by rw [h] at hr; cases hr), fun j hj => ?_⟩
    have hjn : j < n := Nat.lt_of_not_le fun h => tail_waits2 hs hc hn inv _ i rfl hin hun j h hj
    refine ⟨hjn, ?_⟩
    by_cases hji : j = i
    · subst hji; exact ⟨oi, v, hi, hy, H⟩
    · obtain ⟨oj, u, hoj, hyj, hrest⟩ := (H.2 j (ready_mono hj hji)).2
      obtain ⟨hjun, oj', hoj', hall⟩ := mem_ready.1 hj
      obtain rfl : oj' = oj := Option.some.inj (hoj'.symm.trans hoj)
      have hnot : ∀ e ∈ oj'.after, Region.binds md e = true → e.on ≠ i := fun e he hb heq => by
        have h5 := hall e he hb
        rw [heq, getD_both hun] at h5
        cases h5
      obtain ⟨h1, h2, h3⟩ := Oper.apart_spec (hfree j oj' hoj hji hjun hnot)
      refine ⟨oj', u, hoj, hyj.of_same (execOp_put oj' (fun cs b => hsel j oj' cs b hoj) a oi.dst v h1).symm (wanted_put oj' a oi.dst v h1).symm, ?_⟩
      refine ih (listed.setIfInBounds j true) (a.put oj'.dst u) (inv.set hj hjn) (fun k ok hk hki hun' hno => ?_) (ready_mono hr (Ne.symm hji)) (hy.of_same (execOp_put oi (fun cs b => hsel i oi cs b hi) a oj'.dst u h3) (wanted_put oi a oj'.dst u h3)) ?_
      · refine hfree k ok hk hki ?_ hno
        by_cases hjk : j = k
        · subst hjk; exact hjun
        · rwa [getD_set_ne true hjk] at hun'
      · rw [Array.setIfInBounds_comm _ _ hji, ← Act.put_comm a v u h2]
        exact hrest
/-- The lexical order of the head. -/
def lexYB (P : Program) (md : Region.Mode) (ops : Array Oper) (C1 C2 : World → Prop) (i0 : Nat) (Lq : Act → Prop) : List Oper → Nat → Act → Prop
  | [], _, a => Lq a
  | o :: l, k, a => ∃ v, stepYB P md ops C1 C2 i0 k o v a ∧ lexYB P md ops C1 C2 i0 Lq l (k + 1) (a.put o.dst v)
theorem headY_lexB {n m g : Nat} {Lq : Act → Prop} (hm : 1 ≤ m) (hsel : Region.noSelect ops = true) (hs : Region.sinkB md ops n = true) (hc : waitB md ops n = true) (hn : n < ops.size) :
    ∀ (l : List Oper) (k : Nat) (listed : Array Bool) (a : Act), (∀ j, j < l.length → l[j]? = ops[k + j]?) → k + l.length = n → HeadInv md ops n listed → (∀ j, j < k → listed.getD j false = true) →
    lexHead2 md ops m g l.length k listed = true → lexYB P md ops C1 C2 i0 Lq l k a →
    headYB P md ops C1 C2 i0 n (fun listed' a' => midB md ops g m n listed' = true ∧ (∀ j, j < n → listed'.getD j false = true) ∧ Lq a') l.length listed a
  | [], k, listed, a, _, hk, _, hlow, hB, h => by
    obtain rfl : k = n := by simpa using hk
    exact ⟨by simpa [lexHead2] using hB, hlow, h⟩
  | o :: l, k, listed, a, hl, hk, inv, hlow, hB, h => by
    have h0 : ops[k]? = some o := by simpa using (hl 0 (by simp)).symm
    simp only [List.length_cons, lexHead2, Bool.and_eq_true] at hB
    obtain ⟨⟨hr, hf⟩, hB'⟩ := hB
    have hkn : k < n := by simp only [List.length_cons] at hk; omega
    have hr' : k ∈ Region.ready md ops listed := by simpa using hr
    obtain ⟨v, hy, hK⟩ := h
    have hlow' : ∀ j, j < k + 1 → (listed.setIfInBounds k true).getD j false = true := fun j hj => by
      by_cases hjk : j = k
      · subst hjk
        have hjs : j < listed.size := by rw [inv.size]; omega
        simp [Array.getD_eq_getD_getElem?, Array.getElem?_setIfInBounds, hjs]
      · exact getD_set_true (hlow j (by omega))
    exact headY_firstB h0 (Region.noSelect_spec hsel) hs hc hn hkn (fun listed' a' hL => midB_ready hm hL.1) l.length listed a inv (Region.free_spec h0 hf) hr' hy
      (headY_lexB hm hsel hs hc hn l (k + 1) _ _ (fun j hj => by have := hl (j + 1) (by simp; omega); simpa [Nat.add_assoc, Nat.add_comm 1 j] using this) (by simp only [List.length_cons] at hk; omega) (inv.set hr' hkn) hlow' hB' hK)
/-- Each operation has a slot of its own. -/
def dstsOk (N : Nat) : List Oper → Bool
  | [] => true
  | o :: l => (match o.dst with | some d => decide (d < N) && l.all (fun p => p.dst != some d) | none => false) && dstsOk N l
theorem put_size (a : Act) (d : Option Tmp) (v : Value) : (a.put d v).tmps.size = a.tmps.size := by
  cases d with
  | none => rfl
  | some d => simp [Act.put]
theorem quiet_keeps {C : World → Prop} {A : Act} {d : Nat} : ∀ (l : List Oper) (a : Act), wpQuiet P ops C (fun a' => a' = A) l a → (l.all fun p => p.dst != some d) = true → A.tmps[d]? = a.tmps[d]?
  | [], a, h, _ => by rw [← (show a = A from h)]
  | o :: l, a, h, hd => by
    simp only [List.all_cons, Bool.and_eq_true, bne_iff_ne] at hd
    have hput : ∀ v, (a.put o.dst v).tmps[d]? = a.tmps[d]? := fun v => by
      cases hdd : o.dst with
      | none => rfl
      | some e =>
        have hne : e ≠ d := fun he => hd.1 (by rw [hdd, he])
        simp [Act.put, Array.getElem?_setIfInBounds_ne hne]
    unfold wpQuiet at h
    split at h
    · obtain ⟨v, _, h2⟩ := h
      rw [quiet_keeps l _ h2 hd.2, hput]
    · rw [quiet_keeps l _ h hd.2, hput]
theorem lexY_ofB {A : Act} {N : Nat} {Lq : Act → Prop} (l2 : List Oper) : ∀ (l : List Oper) (k : Nat) (a : Act), dstsOk N l = true → N ≤ a.tmps.size → (k + l.length ≤ i0 ∨ i0 < k) →
    wpQuiet P ops (C1) (fun a' => a' = A) l a → wpQuiet P ops (C2) (fun a' => a' = A) l a → lexYB P md ops C1 C2 i0 Lq l2 (k + l.length) A → lexYB P md ops C1 C2 i0 Lq (l ++ l2) k a
  | [], k, a, _, _, _, h1, _, h => by
    rw [← (show a = A from h1)] at h
    exact h
  | o :: l, k, a, hD, hsz, hk, h1, h2, h => by
    simp only [dstsOk, Bool.and_eq_true] at hD
    obtain ⟨hd, hD'⟩ := hD
    rw [List.length_cons] at hk h
    have hki : k ≠ i0 := by omega
    cases hdd : o.dst with
    | none => rw [hdd] at hd; cases hd
    | some d =>
      rw [hdd] at hd
      simp only [Bool.and_eq_true, decide_eq_true_eq] at hd
      have hval : ∀ v, (a.put o.dst v).tmps[d]? = some v := fun v => by
        have hdl : d < a.tmps.size := Nat.lt_of_lt_of_le (by simpa using hd.1) hsz
        rw [hdd]; simp [Act.put, hdl]
      unfold wpQuiet at h1 h2
      show lexYB P md ops C1 C2 i0 Lq (o :: (l ++ l2)) k a
      by_cases hw : Region.wanted o (yielded ops a.tmps) = true
      · simp only [hw, if_true] at h1 h2
        obtain ⟨v1, q1, r1⟩ := h1
        obtain ⟨v2, q2, r2⟩ := h2
        have e1 := quiet_keeps l _ r1 hd.2
        have e2 := quiet_keeps l _ r2 hd.2
        rw [hval] at e1 e2
        obtain rfl : v1 = v2 := Option.some.inj (e1.symm.trans e2)
        exact ⟨v1, .inr ⟨hki, .inl ⟨hw, q1⟩, .inl (.inl ⟨hw, q2⟩)⟩, lexY_ofB l2 l (k + 1) _ hD' (by rw [put_size]; exact hsz) (by omega) r1 r2 (by rw [show k + 1 + l.length = k + (l.length + 1) by omega]; exact h)⟩
      · simp only [hw] at h1 h2
        have hw' : Region.wanted o (yielded ops a.tmps) = false := by simpa using hw
        exact ⟨undef, .inr ⟨hki, .inr ⟨hw', rfl⟩, .inl (.inr ⟨hw', rfl⟩)⟩, lexY_ofB l2 l (k + 1) _ hD' (by rw [put_size]; exact hsz) (by omega) h1 h2 (by rw [show k + 1 + l.length = k + (l.length + 1) by omega]; exact h)⟩
def earlyBB (md : Region.Mode) (ops : Array Oper) (i0 i : Nat) (o : Oper) : Bool := waits2B md ops i0 i
theorem lexY_earlyB {A : Act} {Lq : Act → Prop} (l2 : List Oper) : ∀ (l : List Oper) (k : Nat) (a : Act), (∀ j o, l[j]? = some o → earlyBB md ops i0 (k + j) o = true) → k + l.length ≤ i0 →
    wpQuiet P ops (C1) (fun a' => a' = A) l a → lexYB P md ops C1 C2 i0 Lq l2 (k + l.length) A → lexYB P md ops C1 C2 i0 Lq (l ++ l2) k a
  | [], k, a, _, _, h1, h => by
    rw [← (show a = A from h1)] at h
    exact h
  | o :: l, k, a, hwt, hk, h1, h => by
    rw [List.length_cons] at hk h
    have hki : k ≠ i0 := by omega
    have hwk := hwt 0 o rfl
    have hwt' : ∀ j o', l[j]? = some o' → earlyBB md ops i0 (k + 1 + j) o' = true := fun j o' hj => by
      rw [show k + 1 + j = k + (j + 1) by omega]; exact hwt (j + 1) o' hj
    unfold wpQuiet at h1
    show lexYB P md ops C1 C2 i0 Lq (o :: (l ++ l2)) k a
    have h' : lexYB P md ops C1 C2 i0 Lq l2 (k + 1 + l.length) A := by rw [show k + 1 + l.length = k + (l.length + 1) by omega]; exact h
    by_cases hw : Region.wanted o (yielded ops a.tmps) = true
    · simp only [hw, if_true] at h1
      obtain ⟨v1, q1, r1⟩ := h1
      refine ⟨v1, .inr ⟨hki, .inl ⟨hw, q1⟩, ?_⟩, lexY_earlyB l2 l (k + 1) _ hwt' (by omega) r1 h'⟩
      exact .inr hwk
    · simp only [hw] at h1
      have hw' : Region.wanted o (yielded ops a.tmps) = false := by simpa using hw
      exact ⟨undef, .inr ⟨hki, .inr ⟨hw', rfl⟩, .inl (.inr ⟨hw', rfl⟩)⟩, lexY_earlyB l2 l (k + 1) _ hwt' (by omega) h1 h'⟩
/-- What the head must be. -/
def earlyAllB (md : Region.Mode) (ops : Array Oper) (i0 : Nat) : Nat → List Oper → Bool
  | _, [] => true
  | k, o :: l => earlyBB md ops i0 k o && earlyAllB md ops i0 (k + 1) l
theorem earlyAll_atB {i0 : Nat} : ∀ (l : List Oper) (k : Nat), earlyAllB md ops i0 k l = true → ∀ j o, l[j]? = some o → earlyBB md ops i0 (k + j) o = true
  | [], k, _, j, o, hj => by simp at hj
  | p :: l, k, h, j, o, hj => by
    simp only [earlyAllB, Bool.and_eq_true] at h
    cases j with
    | zero => simp at hj; subst hj; exact h.1
    | succ j => rw [show k + (j + 1) = k + 1 + j by omega]; exact earlyAll_atB l (k + 1) h.2 j o (by simpa using hj)
theorem wpQuiet_at {C : World → Prop} {R : Act → Prop} : ∀ (l : List Oper) (a : Act), wpQuiet P ops C R l a → ∃ A, R A ∧ wpQuiet P ops C (fun a' => a' = A) l a
  | [], a, h => ⟨a, h, rfl⟩
  | o :: l, a, h => by
    unfold wpQuiet at h
    by_cases hw : Region.wanted o (yielded ops a.tmps) = true
    · simp only [hw, if_true] at h
      obtain ⟨v, h1, h2⟩ := h
      obtain ⟨A, hR, hA⟩ := wpQuiet_at l _ h2
      refine ⟨A, hR, ?_⟩
      unfold wpQuiet
      simp only [hw, if_true]
      exact ⟨v, h1, hA⟩
    · simp only [hw] at h
      obtain ⟨A, hR, hA⟩ := wpQuiet_at l _ h
      refine ⟨A, hR, ?_⟩
      unfold wpQuiet
      simp only [hw]
      exact hA
theorem wpQuiet_size {C : World → Prop} {A : Act} : ∀ (l : List Oper) (a : Act), wpQuiet P ops C (fun a' => a' = A) l a → A.tmps.size = a.tmps.size
  | [], a, h => by rw [← (show a = A from h)]
  | o :: l, a, h => by
    unfold wpQuiet at h
    split at h
    · obtain ⟨v, _, h2⟩ := h
      rw [wpQuiet_size l _ h2, put_size]
    · rw [wpQuiet_size l _ h, put_size]
/-- A region whose first n0 operations are quiet and go ahead of a store, whose next n1 are quiet whether ahead of it or behind it (in the classes C1 and C2); then the store stands, then m operations one by one, and the others quiet. -/
theorem wp_region_beside {id : Nat} {Q : Exit → Act → World → Prop} {a : Act} {w : World} {l : List Oper} (n0 n1 m N : Nat) (C1 C2 : World → Prop) (o0 : Oper) (hm : P.follows .mixedOrders = true) (hB : lexMidB .any l.toArray (n0 + n1 + 1) m = true)
    (hE : earlyAllB .any l.toArray (n0 + n1) 0 (l.take n0) = true) (hD2 : dstsOk N ((l.drop n0).take n1) = true) (hN : N ≤ a.tmps.size) (h0 : l[n0 + n1]? = some o0) (hC : C1 { w with drawn := w.drawn + 1 })
    (h : wpQuiet P l.toArray C1 (fun A0 => wpQuiet P l.toArray C1 (fun A1 => Region.wanted o0 (yielded l.toArray A1.tmps) = true ∧ (∀ x, C1 x → ∃ y, (execOp A1.eval o0).run P x = .ok .skip y ∧ C2 y) ∧
      wpQuiet P l.toArray C2 (fun a' => a' = A1) ((l.drop n0).take n1) A0 ∧
      ∀ w2, C2 w2 → wpList P l.toArray (Exit.then (fun b w'' => wpQuiet P l.toArray (fun x => x = w'') (fun b' => Q .normal b' w'') (l.drop (n0 + n1 + 1 + m)) b) Q) ((l.drop (n0 + n1 + 1)).take m) (A1.put o0.dst undef) w2) ((l.drop n0).take n1) A0) (l.take n0) a) : (Code.region id l.toArray true).wp P Q a w := by
  obtain ⟨A0, hrest, hq1⟩ := wpQuiet_at _ _ h
  obtain ⟨A1, ⟨hwa, hrun, hs2, hgo⟩, hs1⟩ := wpQuiet_at _ _ hrest
  simp only [lexMidB, Bool.and_eq_true, decide_eq_true_eq] at hB
  obtain ⟨⟨⟨⟨⟨hsel, hnm⟩, hm1⟩, hs⟩, hc⟩, hlex⟩ := hB
  have hnm' : n0 + n1 + 1 + m ≤ l.length := by simpa using hnm
  have hn : n0 + n1 + 1 < l.toArray.size := by simp; omega
  have htk : l.take (n0 + n1 + 1) = l.take n0 ++ ((l.drop n0).take n1 ++ [o0]) := by
    rw [List.take_add_one, h0, List.take_add, List.append_assoc]; rfl
  have htn : (l.take n0).length = n0 := by simp; omega
  have ht2 : ((l.drop n0).take n1).length = n1 := by simp; omega
  have htl : (l.take (n0 + n1 + 1)).length = n0 + n1 + 1 := by simp; omega
  have hml : ((l.drop (n0 + n1 + 1)).take m).length = m := by simp; omega
  have hrl : (l.drop (n0 + n1 + 1 + m)).length = l.toArray.size - (n0 + n1 + 1) - m := by simp; omega
  have inv0 : HeadInv .any l.toArray (n0 + n1 + 1) (Array.replicate l.toArray.size false) :=
    ⟨by simp, fun j oj _ hl => (by rw [getD_replicate_false] at hl; cases hl), fun t _ ht => getD_in (by simpa using ht) (getD_replicate_false _ _)⟩
  have hsA : N ≤ A0.tmps.size := by rw [wpQuiet_size _ _ hq1]; exact hN
  have hlast : lexYB P .any l.toArray C1 C2 (n0 + n1) (fun b => ∀ w2, C2 w2 → wpList P l.toArray (Exit.then (fun b w'' => wpQuiet P l.toArray (fun x => x = w'') (fun b' => Q .normal b' w'') (l.drop (n0 + n1 + 1 + m)) b) Q) ((l.drop (n0 + n1 + 1)).take m) b w2) [o0] (n0 + n1) A1 :=
    ⟨undef, .inl ⟨rfl, hwa, hrun, rfl⟩, hgo⟩
  have hly2 := lexY_ofB (md := .any) (C1 := C1) (C2 := C2) (i0 := n0 + n1) (A := A1) (N := N) (Lq := fun b => ∀ w2, C2 w2 → wpList P l.toArray (Exit.then (fun b w'' => wpQuiet P l.toArray (fun x => x = w'') (fun b' => Q .normal b' w'') (l.drop (n0 + n1 + 1 + m)) b) Q) ((l.drop (n0 + n1 + 1)).take m) b w2) [o0] ((l.drop n0).take n1) n0 A0 hD2 hsA (.inl (by rw [ht2]; exact Nat.le_refl _)) hs1 hs2 (by rw [ht2]; exact hlast)
  have hly := lexY_earlyB (md := .any) (C1 := C1) (C2 := C2) (i0 := n0 + n1) (A := A0) ((l.drop n0).take n1 ++ [o0]) (l.take n0) 0 a (earlyAll_atB _ _ hE) (by rw [htn]; omega) hq1 (by rw [htn, Nat.zero_add]; exact hly2)
  rw [← htk] at hly
  have H := headY_lexB (md := .any) (m := m) (g := l.toArray.size - (n0 + n1 + 1) - m) hm1 hsel hs hc hn (l.take (n0 + n1 + 1)) 0 _ a (fun j hj => by
    have hj' : j < n0 + n1 + 1 := by rw [htl] at hj; exact hj
    rw [List.getElem?_take, if_pos hj', Nat.zero_add]; simp) (by simpa using htl) inv0 (fun j hj => by omega) (by rw [htl]; exact hlex) hly
  refine wp_region_any hm ?_
  have := wpAny_of_headYB (C1 := C1) (C2 := C2) (i0 := n0 + n1) (Q' := Q) (g := m + (l.toArray.size - (n0 + n1 + 1) - m)) (by omega) (fun listed a' hL => hL.2.1 (n0 + n1) (by omega)) (fun listed a' w2 hw2 hL => by
    have := wpAny_of_mid (md := .any) (Q := Q) (g := l.toArray.size - (n0 + n1 + 1) - m) (e := n0 + n1 + 1 + m) (fun listed b w'' hlf hR => by
      refine wpAny_of_quiet (C := fun x => x = w'') (Q := fun b' => Q .normal b' w'') (fun b' x hx hq => by subst hx; exact hq) _ _ _ _ rfl ?_
      have := wpAnyQ_lex (C := fun x => x = w'') (md := .any) hsel (l.drop (n0 + n1 + 1 + m)) (n0 + n1 + 1 + m) listed b (fun j => by simp [List.getElem?_drop]) (by rw [hrl]; exact hlf) hR
      rwa [hrl] at this) ((l.drop (n0 + n1 + 1)).take m) (n0 + n1 + 1) listed a' w2 (fun j hj => by
        have hj' : j < m := by rw [hml] at hj; exact hj
        rw [List.getElem?_take, if_pos hj', List.getElem?_drop]; simp) (congrArg (n0 + n1 + 1 + ·) hml) (by rw [hml]; exact hL.1) (hL.2.2 w2 hw2)
    rwa [hml] at this) _ _ _ _ inv0 (fun _ => hC) (fun e => by rw [getD_replicate_false] at e; cases e) H
  rw [htl, show n0 + n1 + 1 + (m + (l.toArray.size - (n0 + n1 + 1) - m)) = l.toArray.size by omega] at this
  exact this
end
end Go.Proofs.YtjagnihkpgbjeaaDoor
