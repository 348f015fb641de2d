import Derived.Test.YtcmjpkfinbakkaaGreatDoorQCB
import Derived.Deep.QuietTactic
namespace Go.Proofs.YtcmjpkfinbakkaaGreatDoor.Vf.Ck
set_option maxRecDepth 100000
open Go Go.RowKit

/-- One world, as a class. -/
structure One (W : World) where
  v : World
  h : v = W
instance (W : World) : Nonempty (One W) := ⟨⟨W, rfl⟩⟩
def isOne (W : World) : World → Prop := fun x => ∃ b : One W, x = b.v
theorem isOne_iff {W x : World} : isOne W x ↔ x = W := ⟨fun ⟨b, h⟩ => h.trans b.h, fun h => ⟨⟨x, h⟩, rfl⟩⟩

section
variable {P : Program} {ops : Array Oper} {md : Region.Mode} {w1 w2 : World} {i0 : Nat}

/-- Operation i in state a: the maker makes w2 of w1; the others leave either world as it was. -/
def stepY (P : Program) (ops : Array Oper) (w1 w2 : World) (i0 i : Nat) (o : Oper) (v : Value) (a : Act) : Prop :=
  (i = i0 ∧ Region.wanted o (yielded ops a.tmps) = true ∧ (execOp a.eval o).run P w1 = .ok (.value v) w2) ∨
  (i ≠ i0 ∧ YieldsIn P ops (isOne w1) o v a ∧ YieldsIn P ops (isOne w2) o v a)
theorem stepY.of_same {i : Nat} {o : Oper} {v : Value} {a a' : Act} (hy : stepY P ops w1 w2 i0 i o v a) (he : execOp a'.eval o = execOp a.eval o)
    (hw : Region.wanted o (yielded ops a'.tmps) = Region.wanted o (yielded ops a.tmps)) : stepY P ops w1 w2 i0 i o v a' := by
  rcases hy with ⟨h1, h2, h3⟩ | ⟨h1, h2, h3⟩
  · exact .inl ⟨h1, by rw [hw]; exact h2, by rw [he]; exact h3⟩
  · exact .inr ⟨h1, h2.of_same he hw, h3.of_same he hw⟩
/-- The first operations, in whatever order. -/
def headY (P : Program) (md : Region.Mode) (ops : Array Oper) (w1 w2 : World) (i0 n : Nat) (L : Array Bool → Act → Prop) : Nat → Array Bool → Act → Prop
  | 0, listed, a => L listed a
  | f + 1, listed, a =>
    Region.ready md ops listed ≠ [] ∧ ∀ i ∈ Region.ready md ops listed, i < n ∧ ∃ o v, ops[i]? = some o ∧ stepY P ops w1 w2 i0 i o v a ∧ headY P md ops w1 w2 i0 n L f (listed.setIfInBounds i true) (a.put o.dst v)
theorem wpAny_of_headY {n g : Nat} {L : Array Bool → Act → Prop} {Q' : Exit → Act → World → Prop} (hi0 : i0 < ops.size) (hL1 : ∀ listed a, L listed a → listed.getD i0 false = true) (hL : ∀ listed a, L listed a → wpAny P md ops Q' g listed a w2) :
    ∀ (f : Nat) (listed : Array Bool) (a : Act) (w : World), listed.size = ops.size → w = (if listed.getD i0 false then w2 else w1) → headY P md ops w1 w2 i0 n L f listed a → wpAny P md ops Q' (f + g) listed a w
  | 0, listed, a, w, _, hw, h => by
    rw [Nat.zero_add, hw, hL1 _ _ h, if_pos rfl]
    exact hL _ _ h
  | f + 1, listed, a, w, hsz, hw, h => by
    rw [show f + 1 + g = (f + g) + 1 by omega]
    refine ⟨fun h0 => absurd h0 h.1, fun i hi => ?_⟩
    obtain ⟨_, o, v, ho, hy, hk⟩ := h.2 i hi
    have hun := (mem_ready.1 hi).1
    have hsz' : (listed.setIfInBounds i true).size = ops.size := by rw [Array.size_setIfInBounds]; exact hsz
    rcases hy with ⟨he, hwa, hrun⟩ | ⟨hne, hy1, hy2⟩
    · rw [he] at hun ho hk ⊢
      have hw1 : w = w1 := by rw [hw, getD_both hun]; rfl
      rw [hw1]
      unfold wpOp
      simp only [ho, hwa, if_true]
      refine .inl ?_
      unfold Oper.wp
      rw [hrun]
      have hset : (listed.setIfInBounds i0 true).getD i0 false = true := by
        simp [Array.getD_eq_getD_getElem?, Array.getElem?_setIfInBounds, hsz, hi0]
      exact wpAny_of_headY hi0 hL1 hL f _ _ _ (by rw [Array.size_setIfInBounds]; exact hsz) (by rw [hset]; rfl) hk
    · have hy : YieldsIn P ops (isOne w) o v a := by
        rw [hw]
        cases listed.getD i0 false
        · exact hy1
        · exact hy2
      have hq := hy.qOp ho (K := fun a' => headY P md ops w1 w2 i0 n L f (listed.setIfInBounds i true) a') hk
      refine wpOp_of_qOp (C := isOne w) (isOne_iff.2 rfl) (fun a' w' hw' hk' => ?_) hq
      rw [isOne_iff] at hw'
      refine wpAny_of_headY hi0 hL1 hL f _ _ _ hsz' ?_ hk'
      rw [getD_set_ne false hne, hw', hw]
theorem headY_first {n i : Nat} {oi : Oper} {v : Value} {L : Array Bool → Act → Prop} (hi : ops[i]? = some oi) (hsel : ∀ (j : Nat) (o : Oper) cs b, ops[j]? = some o → o.op ≠ .select cs b)
    (hs : Region.sinkB md ops n = true) (hc : waitB md ops n = true) (hn : n < ops.size) (hin : i < n)
    (hdone : ∀ listed a, L listed a → ∀ j ∈ Region.ready md ops listed, n ≤ j) :
    ∀ (f : Nat) (listed : Array Bool) (a : Act), HeadInv md ops n listed →
      (∀ j oj, ops[j]? = some oj → j ≠ i → listed.getD j true = false → (∀ e ∈ oj.after, Region.binds md e = true → e.on ≠ i) → oi.apart ops oj = true) →
      i ∈ Region.ready md ops listed → stepY P ops w1 w2 i0 i oi v a →
      headY P md ops w1 w2 i0 n L f (listed.setIfInBounds i true) (a.put oi.dst v) → headY P md ops w1 w2 i0 n L (f + 1) listed a := by
  intro f
  induction f with
  | zero =>
    intro listed a inv _ hr hy H
    have hun := (mem_ready.1 hr).1
    refine ⟨fun h => (by rw [h] at hr; cases hr), fun j hj => ?_⟩
    have hjn : j < n := Nat.lt_of_not_le fun h => tail_waits2 hs hc hn inv _ i rfl hin hun j h hj
    refine ⟨hjn, ?_⟩
    by_cases hji : j = i
    · subst hji; exact ⟨oi, v, hi, hy, H⟩
    · have := hdone _ _ H j (ready_mono hj hji)
      omega
  | succ f ih =>
    intro listed a inv hfree hr hy H
    have hun := (mem_ready.1 hr).1
    refine ⟨fun h => (by rw [h] at hr; cases hr), fun j hj => ?_⟩
    have hjn : j < n := Nat.lt_of_not_le fun h => tail_waits2 hs hc hn inv _ i rfl hin hun j h hj
    refine ⟨hjn, ?_⟩
    by_cases hji : j = i
    · subst hji; exact ⟨oi, v, hi, hy, H⟩
    · obtain ⟨oj, u, hoj, hyj, hrest⟩ := (H.2 j (ready_mono hj hji)).2
      obtain ⟨hjun, oj', hoj', hall⟩ := mem_ready.1 hj
      obtain rfl : oj' = oj := Option.some.inj (hoj'.symm.trans hoj)
      have hnot : ∀ e ∈ oj'.after, Region.binds md e = true → e.on ≠ i := fun e he hb heq => by
        have h5 := hall e he hb
        rw [heq, getD_both hun] at h5
        cases h5
      obtain ⟨h1, h2, h3⟩ := Oper.apart_spec (hfree j oj' hoj hji hjun hnot)
      refine ⟨oj', u, hoj, hyj.of_same (execOp_put oj' (fun cs b => hsel j oj' cs b hoj) a oi.dst v h1).symm (wanted_put oj' a oi.dst v h1).symm, ?_⟩
      refine ih (listed.setIfInBounds j true) (a.put oj'.dst u) (inv.set hj hjn) (fun k ok hk hki hun' hno => ?_) (ready_mono hr (Ne.symm hji)) (hy.of_same (execOp_put oi (fun cs b => hsel i oi cs b hi) a oj'.dst u h3) (wanted_put oi a oj'.dst u h3)) ?_
      · refine hfree k ok hk hki ?_ hno
        by_cases hjk : j = k
        · subst hjk; exact hjun
        · rwa [getD_set_ne true hjk] at hun'
      · rw [Array.setIfInBounds_comm _ _ hji, ← Act.put_comm a v u h2]
        exact hrest
/-- The lexical order of the head. -/
def lexY (P : Program) (ops : Array Oper) (w1 w2 : World) (i0 : Nat) (Lq : Act → Prop) : List Oper → Nat → Act → Prop
  | [], _, a => Lq a
  | o :: l, k, a => ∃ v, stepY P ops w1 w2 i0 k o v a ∧ lexY P ops w1 w2 i0 Lq l (k + 1) (a.put o.dst v)
theorem headY_lex {n m g : Nat} {Lq : Act → Prop} (hm : 1 ≤ m) (hsel : Region.noSelect ops = true) (hs : Region.sinkB md ops n = true) (hc : waitB md ops n = true) (hn : n < ops.size) :
    ∀ (l : List Oper) (k : Nat) (listed : Array Bool) (a : Act), (∀ j, j < l.length → l[j]? = ops[k + j]?) → k + l.length = n → HeadInv md ops n listed → (∀ j, j < k → listed.getD j false = true) →
    lexHead2 md ops m g l.length k listed = true → lexY P ops w1 w2 i0 Lq l k a →
    headY P md ops w1 w2 i0 n (fun listed' a' => midB md ops g m n listed' = true ∧ (∀ j, j < n → listed'.getD j false = true) ∧ Lq a') l.length listed a
  | [], k, listed, a, _, hk, _, hlow, hB, h => by
    obtain rfl : k = n := by simpa using hk
    exact ⟨by simpa [lexHead2] using hB, hlow, h⟩
  | o :: l, k, listed, a, hl, hk, inv, hlow, hB, h => by
    have h0 : ops[k]? = some o := by simpa using (hl 0 (by simp)).symm
    simp only [List.length_cons, lexHead2, Bool.and_eq_true] at hB
    obtain ⟨⟨hr, hf⟩, hB'⟩ := hB
    have hkn : k < n := by simp only [List.length_cons] at hk; omega
    have hr' : k ∈ Region.ready md ops listed := by simpa using hr
    obtain ⟨v, hy, hK⟩ := h
    have hlow' : ∀ j, j < k + 1 → (listed.setIfInBounds k true).getD j false = true := fun j hj => by
      by_cases hjk : j = k
      · subst hjk
        have hjs : j < listed.size := by rw [inv.size]; omega
        simp [Array.getD_eq_getD_getElem?, Array.getElem?_setIfInBounds, hjs]
      · exact getD_set_true (hlow j (by omega))
    exact headY_first h0 (Region.noSelect_spec hsel) hs hc hn hkn (fun listed' a' hL => midB_ready hm hL.1) l.length listed a inv (Region.free_spec h0 hf) hr' hy
      (headY_lex hm hsel hs hc hn l (k + 1) _ _ (fun j hj => by have := hl (j + 1) (by simp; omega); simpa [Nat.add_assoc, Nat.add_comm 1 j] using this) (by simp only [List.length_cons] at hk; omega) (inv.set hr' hkn) hlow' hB' hK)
/-- Each operation has a slot of its own. -/
def dstsOk (N : Nat) : List Oper → Bool
  | [] => true
  | o :: l => (match o.dst with | some d => decide (d < N) && l.all (fun p => p.dst != some d) | none => false) && dstsOk N l
theorem put_size (a : Act) (d : Option Tmp) (v : Value) : (a.put d v).tmps.size = a.tmps.size := by
  cases d with
  | none => rfl
  | some d => simp [Act.put]
theorem quiet_keeps {C : World → Prop} {A : Act} {d : Nat} : ∀ (l : List Oper) (a : Act), wpQuiet P ops C (fun a' => a' = A) l a → (l.all fun p => p.dst != some d) = true → A.tmps[d]? = a.tmps[d]?
  | [], a, h, _ => by rw [← (show a = A from h)]
  | o :: l, a, h, hd => by
    simp only [List.all_cons, Bool.and_eq_true, bne_iff_ne] at hd
    have hput : ∀ v, (a.put o.dst v).tmps[d]? = a.tmps[d]? := fun v => by
      cases hdd : o.dst with
      | none => rfl
      | some e =>
        have hne : e ≠ d := fun he => hd.1 (by rw [hdd, he])
        simp [Act.put, Array.getElem?_setIfInBounds_ne hne]
    unfold wpQuiet at h
    split at h
    · obtain ⟨v, _, h2⟩ := h
      rw [quiet_keeps l _ h2 hd.2, hput]
    · rw [quiet_keeps l _ h hd.2, hput]
theorem lexY_of {A : Act} {N : Nat} : ∀ (l : List Oper) (k : Nat) (a : Act), dstsOk N l = true → N ≤ a.tmps.size → k + l.length ≤ i0 →
    wpQuiet P ops (isOne w1) (fun a' => a' = A) l a → wpQuiet P ops (isOne w2) (fun a' => a' = A) l a → ∀ (o0 : Oper) (Lq : Act → Prop), (∃ v, stepY P ops w1 w2 i0 (k + l.length) o0 v A ∧ Lq (A.put o0.dst v)) → lexY P ops w1 w2 i0 Lq (l ++ [o0]) k a
  | [], k, a, _, _, _, h1, _, o0, Lq, h => by
    obtain ⟨v, hv, hL⟩ := h
    rw [← (show a = A from h1)] at hv hL
    exact ⟨v, hv, hL⟩
  | o :: l, k, a, hD, hsz, hk, h1, h2, o0, Lq, h => by
    simp only [dstsOk, Bool.and_eq_true] at hD
    obtain ⟨hd, hD'⟩ := hD
    rw [List.length_cons] at hk h
    cases hdd : o.dst with
    | none => rw [hdd] at hd; cases hd
    | some d =>
      rw [hdd] at hd
      simp only [Bool.and_eq_true, decide_eq_true_eq] at hd
      have hval : ∀ v, (a.put o.dst v).tmps[d]? = some v := fun v => by
        have hdl : d < a.tmps.size := Nat.lt_of_lt_of_le (by simpa using hd.1) hsz
        rw [hdd]; simp [Act.put, hdl]
      unfold wpQuiet at h1 h2
      show lexY P ops w1 w2 i0 Lq (o :: (l ++ [o0])) k a
      by_cases hw : Region.wanted o (yielded ops a.tmps) = true
      · simp only [hw, if_true] at h1 h2
        obtain ⟨v1, q1, r1⟩ := h1
        obtain ⟨v2, q2, r2⟩ := h2
        have e1 := quiet_keeps l _ r1 hd.2
        have e2 := quiet_keeps l _ r2 hd.2
        rw [hval] at e1 e2
        obtain rfl : v1 = v2 := Option.some.inj (e1.symm.trans e2)
        exact ⟨v1, .inr ⟨by omega, .inl ⟨hw, q1⟩, .inl ⟨hw, q2⟩⟩, lexY_of l (k + 1) _ hD' (by rw [put_size]; exact hsz) (by omega) r1 r2 o0 Lq (by rw [show k + 1 + l.length = k + (l.length + 1) by omega]; exact h)⟩
      · simp only [hw] at h1 h2
        have hw' : Region.wanted o (yielded ops a.tmps) = false := by simpa using hw
        exact ⟨undef, .inr ⟨by omega, .inr ⟨hw', rfl⟩, .inr ⟨hw', rfl⟩⟩, lexY_of l (k + 1) _ hD' (by rw [put_size]; exact hsz) (by omega) h1 h2 o0 Lq (by rw [show k + 1 + l.length = k + (l.length + 1) by omega]; exact h)⟩
theorem wpQuiet_at {C : World → Prop} {R : Act → Prop} : ∀ (l : List Oper) (a : Act), wpQuiet P ops C R l a → ∃ A, R A ∧ wpQuiet P ops C (fun a' => a' = A) l a
  | [], a, h => ⟨a, h, rfl⟩
  | o :: l, a, h => by
    unfold wpQuiet at h
    by_cases hw : Region.wanted o (yielded ops a.tmps) = true
    · simp only [hw, if_true] at h
      obtain ⟨v, h1, h2⟩ := h
      obtain ⟨A, hR, hA⟩ := wpQuiet_at l _ h2
      refine ⟨A, hR, ?_⟩
      unfold wpQuiet
      simp only [hw, if_true]
      exact ⟨v, h1, hA⟩
    · simp only [hw] at h
      obtain ⟨A, hR, hA⟩ := wpQuiet_at l _ h
      refine ⟨A, hR, ?_⟩
      unfold wpQuiet
      simp only [hw]
      exact hA
/-- A region whose first n operations are quiet, whose next one makes memory beside them, m behind all of these one by one, and the others quiet again. -/
theorem wp_region_made {id : Nat} {Q : Exit → Act → World → Prop} {a : Act} {w : World} {l : List Oper} (n m N : Nat) (o0 : Oper) (hm : P.follows .mixedOrders = true) (hB : lexMidB .any l.toArray (n + 1) m = true)
    (hD : dstsOk N (l.take n) = true) (hN : N ≤ a.tmps.size) (h0 : l[n]? = some o0)
    (h : wpQuiet P l.toArray (isOne w.drew) (fun A => Region.wanted o0 (yielded l.toArray A.tmps) = true ∧ ∃ v w2, (execOp A.eval o0).run P w.drew = .ok (.value v) w2 ∧ wpQuiet P l.toArray (isOne w2) (fun a' => a' = A) (l.take n) a ∧
      wpList P l.toArray (Exit.then (fun b w'' => wpQuiet P l.toArray (fun x => x = w'') (fun b' => Q .normal b' w'') (l.drop (n + 1 + m)) b) Q) ((l.drop (n + 1)).take m) (A.put o0.dst v) w2) (l.take n) a) : (Code.region id l.toArray true).wp P Q a w := by
  obtain ⟨A, ⟨hwa, v, w2, hrun, hq2, hrest⟩, hq1⟩ := wpQuiet_at _ _ h
  simp only [lexMidB, Bool.and_eq_true, decide_eq_true_eq] at hB
  obtain ⟨⟨⟨⟨⟨hsel, hnm⟩, hm1⟩, hs⟩, hc⟩, hlex⟩ := hB
  have hnm' : n + 1 + m ≤ l.length := by simpa using hnm
  have hn : n + 1 < l.toArray.size := by simp; omega
  have htk : l.take (n + 1) = l.take n ++ [o0] := by rw [List.take_add_one, h0]; rfl
  have htn : (l.take n).length = n := by simp; omega
  have htl : (l.take (n + 1)).length = n + 1 := by simp; omega
  have hml : ((l.drop (n + 1)).take m).length = m := by simp; omega
  have hrl : (l.drop (n + 1 + m)).length = l.toArray.size - (n + 1) - m := by simp; omega
  have inv0 : HeadInv .any l.toArray (n + 1) (Array.replicate l.toArray.size false) :=
    ⟨by simp, fun j oj _ hl => (by rw [getD_replicate_false] at hl; cases hl), fun t _ ht => getD_in (by simpa using ht) (getD_replicate_false _ _)⟩
  have hly := lexY_of (w1 := w.drew) (w2 := w2) (i0 := n) (A := A) (N := N) (l.take n) 0 a hD hN (by rw [htn]; omega) hq1 hq2 o0 (fun b => wpList P l.toArray (Exit.then (fun b w'' => wpQuiet P l.toArray (fun x => x = w'') (fun b' => Q .normal b' w'') (l.drop (n + 1 + m)) b) Q) ((l.drop (n + 1)).take m) b w2) ⟨v, .inl ⟨by rw [htn]; omega, hwa, hrun⟩, hrest⟩
  rw [← htk] at hly
  have H := headY_lex (md := .any) (m := m) (g := l.toArray.size - (n + 1) - m) hm1 hsel hs hc hn (l.take (n + 1)) 0 _ a (fun j hj => by
    have hj' : j < n + 1 := by rw [htl] at hj; exact hj
    rw [List.getElem?_take, if_pos hj', Nat.zero_add]; simp) (by simpa using htl) inv0 (fun j hj => by omega) (by rw [htl]; exact hlex) hly
  refine wp_region_any hm ?_
  have := wpAny_of_headY (Q' := Q) (g := m + (l.toArray.size - (n + 1) - m)) (by omega) (fun listed a' hL => hL.2.1 n (by omega)) (fun listed a' hL => by
    have := wpAny_of_mid (md := .any) (Q := Q) (g := l.toArray.size - (n + 1) - m) (e := n + 1 + m) (fun listed b w'' hlf hR => by
      refine wpAny_of_quiet (C := fun x => x = w'') (Q := fun b' => Q .normal b' w'') (fun b' x hx hq => by subst hx; exact hq) _ _ _ _ rfl ?_
      have := wpAnyQ_lex (C := fun x => x = w'') (md := .any) hsel (l.drop (n + 1 + m)) (n + 1 + m) listed b (fun j => by simp [List.getElem?_drop]) (by rw [hrl]; exact hlf) hR
      rwa [hrl] at this) ((l.drop (n + 1)).take m) (n + 1) listed a' w2 (fun j hj => by
        have hj' : j < m := by rw [hml] at hj; exact hj
        rw [List.getElem?_take, if_pos hj', List.getElem?_drop]; simp) (congrArg (n + 1 + ·) hml) (by rw [hml]; exact hL.1) hL.2.2
    rwa [hml] at this) _ _ _ _ (by simp) (by rw [getD_replicate_false]) H
  rw [htl, show n + 1 + (m + (l.toArray.size - (n + 1) - m)) = l.toArray.size by omega] at this
  exact this
end
end Go.Proofs.YtcmjpkfinbakkaaGreatDoor.Vf.Ck

namespace Go.Proofs.YtcmjpkfinbakkaaGreatDoor.Vf.Ck
set_option maxRecDepth 100000
open Go.RowKit
set_option linter.unusedVariables false

theorem hp_minus (m : Nat) : hp ⟨(45 :: Lib.decDigits m).toArray⟩ ⟨#[45]⟩ = true := by
  unfold hp
  rw [Bool.and_eq_true, decide_eq_true_iff, beq_iff_eq, Lib.extract_toList, Lib.toList_data]
  refine ⟨?_, rfl⟩
  show 1 ≤ (45 :: Lib.decDigits m).length
  simp
theorem hp_mem {s p : ByteArray} (h : hp s p = true) : ∀ c ∈ p.data.toList, c ∈ s.data.toList := by
  unfold hp at h
  rw [Bool.and_eq_true, beq_iff_eq, Lib.extract_toList, Lib.toList_data] at h
  intro c hc
  rw [← h.2] at hc
  exact List.mem_of_mem_take (by simpa using hc)
theorem hp_plus (m : Nat) : hp ⟨(Lib.decDigits m).toArray⟩ ⟨#[45]⟩ = false := by
  rw [Bool.eq_false_iff]
  intro h
  have h1 : (45 : UInt8) ∈ Lib.decDigits m := hp_mem h 45 (by simp)
  have h2 := dec_isDig m 45 h1
  exact absurd h2 (by decide)
theorem numB_dec {m : Nat} (h : (Lib.decDigits m).length ≤ 18) : numB ⟨(Lib.decDigits m).toArray⟩ = true := by
  unfold numB lead
  have h1 := dec_pos m
  rw [takeWhile_all (dec_isDig m)]
  rw [decide_eq_true (show 1 ≤ (⟨(Lib.decDigits m).toArray⟩ : ByteArray).size from h1), decide_eq_true (show (⟨(Lib.decDigits m).toArray⟩ : ByteArray).size ≤ 18 from h)]
  show (true && (true && (_ == _))) = true
  rw [Bool.true_and, Bool.true_and, beq_iff_eq]; rfl
theorem numB_long {s : ByteArray} (h : 18 < s.size) : numB s = false := by
  unfold numB
  rw [decide_eq_false (show ¬ s.size ≤ 18 by omega)]; simp
theorem ext_take (l : List UInt8) (k : Nat) (h : k ≤ l.length) : (⟨l.toArray⟩ : ByteArray).extract 0 k = ⟨(l.take k).toArray⟩ := by
  refine ByteArray.ext (Array.ext' ?_)
  rw [← Lib.toList_data, Lib.extract_toList]
  simp
theorem ext_drop (l : List UInt8) (k : Nat) : (⟨l.toArray⟩ : ByteArray).extract k (⟨l.toArray⟩ : ByteArray).size = ⟨(l.drop k).toArray⟩ := by
  refine ByteArray.ext (Array.ext' ?_)
  rw [← Lib.toList_data, Lib.extract_toList]
  show List.take (l.length - k) (List.drop k l) = List.drop k l
  rw [List.take_of_length_le (by rw [List.length_drop]; exact Nat.le_refl _)]
theorem run_neg (x : Nat) (hx : x < 18446744073709551616) : Op.unary .neg (.float .f64 x) = pure (.float .f64 (opp x)) := by
  rw [← opp_xor hx]; rfl
theorem run_store_float (a : Addr) (k : FloatKind) (x : Nat) (m : Mode) (w : World) : (store a (.float k x) m).run Tryz.prog w = stored Tryz.prog w a (.float k x) m := run_store Tryz.prog w a _ m rfl
/-- What stands ahead of the digits. -/
def mns (neg : Bool) (m : Nat) : List UInt8 := if neg then 45 :: Lib.decDigits m else Lib.decDigits m
theorem cut_minus (neg : Bool) (m : Nat) : hp ⟨(mns neg m).toArray⟩ ⟨#[45]⟩ = neg ∧ (if neg = true then (⟨(mns neg m).toArray⟩ : ByteArray).extract (⟨#[45]⟩ : ByteArray).size (⟨(mns neg m).toArray⟩ : ByteArray).size else ⟨(mns neg m).toArray⟩) = ⟨(Lib.decDigits m).toArray⟩ := by
  cases neg
  · exact ⟨hp_plus m, rfl⟩
  · refine ⟨hp_minus m, ?_⟩
    rw [if_pos rfl]
    exact ext_drop (45 :: Lib.decDigits m) 1
set_option maxRecDepth 100000 in
set_option maxHeartbeats 2000000 in
theorem read_long (neg : Bool) (m : Nat) (h : 1000000000000000000 ≤ m) (h2 : m ≤ 9223372036854775808) (w : World) :
    Calls Tryz.prog 205 #[.string ⟨(mns neg m).toArray⟩] w fun e w' => e = .returned (.tuple #[.agg #[.float .f64 0, .float .f64 0], .bool false]) ∧ Below w.heap.size w w' := by
  have hc := CutPrefix_any ⟨(mns neg m).toArray⟩ ⟨#[45]⟩
  obtain ⟨e1, e2⟩ := cut_minus neg m
  rw [e1, e2] at hc
  obtain ⟨S, hS⟩ : ∃ S : ByteArray, ⟨(mns neg m).toArray⟩ = S := ⟨_, rfl⟩
  obtain ⟨D, hD⟩ : ∃ D : ByteArray, ⟨(Lib.decDigits m).toArray⟩ = D := ⟨_, rfl⟩
  rw [hS, hD] at hc
  have hD18 : 18 < D.size := by rw [← hD]; exact dec_long m h
  have hDm : D.size ≤ 19 := by rw [← hD]; exact dec_len 18 m (by omega)
  have hn := Number_any D
  rw [numB_long hD18] at hn
  rw [hS]
  have HC := Lib.hid hc
  have HN := Lib.hid (fun w => hn w (by omega))
  clear hc hn hS hD e1 e2 h h2 hD18 hDm
  have hsf := run_store_float
  go_enter Tryz.func205, Tryz.ntmps205
  go_wp2_with (first
    | (go_at_call 156; refine (HC.out _).mono ?_; rintro e w' ⟨rfl, rfl⟩)
    | (go_at_call 160; refine (HN.out _).mono ?_; rintro e w' ⟨rfl, rfl⟩))
  refine bodyPost_ret (v := .tuple #[.agg #[.float .f64 0, .float .f64 0], .bool false]) ?_ rfl ?_
  · simp [results, Tryz.results205, go_sem]
  · refine ⟨rfl, ?_⟩
    exact (Below.refl _ _).alloc (Nat.le_refl _) _
set_option maxRecDepth 100000 in
set_option maxHeartbeats 2000000 in
theorem read_dig (neg : Bool) (m H L at' : Nat) (ha : at' = (Lib.decDigits m).length - 9) (h : m < 1000000000000000000) (hH : dval ((Lib.decDigits m).take at') = H) (hL : dval ((Lib.decDigits m).drop at') = L)
    (l1 : ((Lib.decDigits m).take at').length ≤ 9) (l2 : ((Lib.decDigits m).drop at').length ≤ 9) (hH2 : H < 1000000000) (hL2 : L < 1000000000) (w : World) :
    Calls Tryz.prog 205 #[.string ⟨(mns neg m).toArray⟩] w fun e w' => e = .returned (.tuple #[.agg #[.float .f64 (sgw neg (fl H)), .float .f64 (sgw neg (fl L))], .bool true]) ∧ Below w.heap.size w w' := by
  have hc := CutPrefix_any ⟨(mns neg m).toArray⟩ ⟨#[45]⟩
  obtain ⟨e1, e2⟩ := cut_minus neg m
  rw [e1, e2] at hc
  obtain ⟨S, hS⟩ : ∃ S : ByteArray, ⟨(mns neg m).toArray⟩ = S := ⟨_, rfl⟩
  have hl18 : (Lib.decDigits m).length ≤ 18 := dec_len 17 m (by omega)
  have hn := Number_any ⟨(Lib.decDigits m).toArray⟩
  rw [numB_dec hl18] at hn
  have hle : at' ≤ (Lib.decDigits m).length := by omega
  have t1 := ext_take (Lib.decDigits m) at' hle
  have t2 := ext_drop (Lib.decDigits m) at'
  obtain ⟨A, hA⟩ : ∃ S : ByteArray, ⟨((Lib.decDigits m).take at').toArray⟩ = S := ⟨_, rfl⟩
  obtain ⟨B, hB⟩ : ∃ S : ByteArray, ⟨((Lib.decDigits m).drop at').toArray⟩ = S := ⟨_, rfl⟩
  have va := value_any A
  have vb := value_any B
  have va2 := fun w => va w (by rw [← hA]; exact l1) (by rw [← hA]; exact fun c hc => dec_isDig m c (List.mem_of_mem_take hc))
  have vb2 := fun w => vb w (by rw [← hB]; exact l2) (by rw [← hB]; exact fun c hc => dec_isDig m c (List.mem_of_mem_drop hc))
  have qa : dval A.data.toList = H := by rw [← hA]; exact hH
  have qb : dval B.data.toList = L := by rw [← hB]; exact hL
  rw [qa] at va2
  rw [qb] at vb2
  rw [hA] at t1
  rw [hB] at t2
  have hln : ∀ D : ByteArray, ⟨(Lib.decDigits m).toArray⟩ = D → D.size = (Lib.decDigits m).length := fun D e => by rw [← e]; rfl
  obtain ⟨D, hD⟩ : ∃ D : ByteArray, ⟨(Lib.decDigits m).toArray⟩ = D := ⟨_, rfl⟩
  have hls := hln D hD
  rw [hS, hD] at hc
  rw [hD] at hn t1 t2
  rw [hS]
  have k1 : D.size ≤ 18 := by omega
  have k2 : IntKind.i64.wrap ((D.size : Int) - 9) = (D.size : Int) - 9 := IntWalk.i64_in _ (by omega)
  have k3 : max ((D.size : Int) - 9) 0 = (at' : Int) := by omega
  have k4 : (at' : Int) ≤ (D.size : Int) := by omega
  have n1 := run_neg (fl H) (by have := fl_lt (t := H) (by omega); omega)
  have n2 := run_neg (fl L) (by have := fl_lt (t := L) (by omega); omega)
  obtain ⟨xh, hxh⟩ : ∃ x, fl H = x := ⟨_, rfl⟩
  obtain ⟨xl, hxl⟩ : ∃ x, fl L = x := ⟨_, rfl⟩
  rw [hxh] at va2 n1 ⊢
  rw [hxl] at vb2 n2 ⊢
  have HC := Lib.hid hc
  have HN := Lib.hid (fun w => hn w (by omega))
  have HVA := Lib.hid va2
  have HVB := Lib.hid vb2
  clear hc hn hS hD e1 e2 h hH hL l1 l2 hH2 hL2 hA hB va vb va2 vb2 qa qb hln hxh hxl hl18 hle
  have hsf := run_store_float
  have hat : at' = D.size - 9 := by omega
  clear ha hls
  by_cases hz : D.size ≤ 8
  · obtain rfl : at' = 0 := by omega
    have g1 : A = ByteArray.empty := by rw [← t1]; exact ByteArray.ext (Array.ext' (by rw [← Lib.toList_data, Lib.extract_toList]; simp))
    have g2 : B = D := by
      rw [← t2]
      refine ByteArray.ext (Array.ext' ?_)
      rw [← Lib.toList_data, Lib.extract_toList, List.drop_zero, Nat.sub_zero, List.take_of_length_le (by simp)]
    rw [g1] at HVA
    rw [g2] at HVB
    have m1 : (D.size : Int) - 9 ≤ 0 := by omega
    clear t1 t2 hat k2 k3 k4 g1 g2
    cases neg
    all_goals
      go_enter Tryz.func205, Tryz.ntmps205
      go_wp2_with (first
        | (go_at_call 156; refine (HC.out _).mono ?_; rintro e w' ⟨rfl, rfl⟩)
        | (go_at_call 160; refine (HN.out _).mono ?_; rintro e w' ⟨rfl, rfl⟩))
      all_goals first
        | (exfalso; omega)
        | skip
      all_goals
        refine wp_region_made 9 1 39 _ (by kernel_rfl) (by kernel_rfl) (by kernel_rfl) (Nat.le_refl 39) rfl ?_
        have HB1 : Hid (Below w.heap.size w (w.alloc (.cells #[.float .f64 0, .float .f64 0] 230)).drew) := Below.drew ((Below.refl _ _).alloc (Nat.le_refl _) _)
        have hc1 : (w.alloc (.cells #[.float .f64 0, .float .f64 0] 230)).drew.cell? ⟨w.heap.size, 0, none⟩ = some (.float .f64 0) := by go_simp
        have hc2 : (w.alloc (.cells #[.float .f64 0, .float .f64 0] 230)).drew.cell? ⟨w.heap.size, 1, none⟩ = some (.float .f64 0) := by go_simp
        have hf1 : (w.alloc (.cells #[.float .f64 0, .float .f64 0] 230)).drew.frozen? ⟨w.heap.size, 0, none⟩ = false := by go_simp
        have hf2 : (w.alloc (.cells #[.float .f64 0, .float .f64 0] 230)).drew.frozen? ⟨w.heap.size, 1, none⟩ = false := by go_simp
        have hsz : w.heap.size + 1 ≤ (w.alloc (.cells #[.float .f64 0, .float .f64 0] 230)).drew.heap.size := by simp
        generalize (w.alloc (.cells #[.float .f64 0, .float .f64 0] 230)).drew = wz at HB1 hc1 hc2 hf1 hf2 hsz ⊢
        have hne : w.heap.size ≠ wz.heap.size := by omega
        have hne2 : wz.heap.size ≠ w.heap.size := by omega
        have hlt : w.heap.size < wz.heap.size := by omega
        have hd1 : (wz.alloc (.cells #[.float .f64 0, .float .f64 0] 230)).cell? ⟨w.heap.size, 0, none⟩ = some (.float .f64 0) := by rw [World.cell?_alloc_lt (h := hlt)]; exact hc1
        have hd2 : (wz.alloc (.cells #[.float .f64 0, .float .f64 0] 230)).cell? ⟨w.heap.size, 1, none⟩ = some (.float .f64 0) := by rw [World.cell?_alloc_lt (h := hlt)]; exact hc2
        clear hsz
        have HC1 : Hid (∀ b : One wz, Calls Tryz.prog 243 #[.string ByteArray.empty] b.v fun e w' => e = .returned (.float .f64 xh) ∧ ∃ b' : One wz, w' = b'.v) := fun b => (HVA.out b.v).mono fun e w' ⟨he, hw⟩ => ⟨he, b, hw⟩
        have HC2 : Hid (∀ b : One wz, Calls Tryz.prog 243 #[.string D] b.v fun e w' => e = .returned (.float .f64 xl) ∧ ∃ b' : One wz, w' = b'.v) := fun b => (HVB.out b.v).mono fun e w' ⟨he, hw⟩ => ⟨he, b, hw⟩
        unfold isOne
        simp only [List.take_succ_cons, List.take_zero, List.drop_succ_cons, List.drop_zero]
        repeat (go_big_quiet_step (first | with_reducible exact HC1.out _ | with_reducible exact HC2.out _))
        refine wpQuiet_nil ?_
        refine ⟨by kernel_rfl, .pointer (some ⟨wz.heap.size, 0, none⟩), wz.alloc (.cells #[.float .f64 0, .float .f64 0] 230), ?_, ?_, ?_⟩
        · go_simp
        · generalize wz.alloc (.cells #[.float .f64 0, .float .f64 0] 230) = wy
          have HD1 : Hid (∀ b : One wy, Calls Tryz.prog 243 #[.string ByteArray.empty] b.v fun e w' => e = .returned (.float .f64 xh) ∧ ∃ b' : One wy, w' = b'.v) := fun b => (HVA.out b.v).mono fun e w' ⟨he, hw⟩ => ⟨he, b, hw⟩
          have HD2 : Hid (∀ b : One wy, Calls Tryz.prog 243 #[.string D] b.v fun e w' => e = .returned (.float .f64 xl) ∧ ∃ b' : One wy, w' = b'.v) := fun b => (HVB.out b.v).mono fun e w' ⟨he, hw⟩ => ⟨he, b, hw⟩
          clear HC1 HC2
          repeat (go_big_quiet_step (first | with_reducible exact HD1.out _ | with_reducible exact HD2.out _))
          exact wpQuiet_nil rfl
        clear HC1 HC2
        go_wp2_with fail
        show wpQuiet _ _ _ _ _ _
        refine wpQuiet_nil ?_
        go_wp2_with fail
        have HBE := HB1.out
        first
        | (refine bodyPost_ret (v := .tuple #[.agg #[.float .f64 xh, .float .f64 xl], .bool true]) ?_ rfl ?_
           · simp [results, Tryz.results205, go_sem, hlt, hne, hne2, hc1, hc2]
           · exact ⟨rfl, Below.alloc (Below.setCell (Below.setCell HBE (Nat.le_refl _) _) (Nat.le_refl _) _) (by simp; omega) _⟩)
        | (refine bodyPost_ret (v := .tuple #[.agg #[.float .f64 (opp xh), .float .f64 (opp xl)], .bool true]) ?_ rfl ?_
           · simp [results, Tryz.results205, go_sem, hlt, hne, hne2, hc1, hc2]
           · exact ⟨rfl, Below.alloc (Below.setCell (Below.setCell HBE (Nat.le_refl _) _) (Nat.le_refl _) _) (by simp; omega) _⟩)
  by_cases hz8 : D.size = 9
  · have hz : D.size = 9 := hz8
    obtain rfl : at' = 0 := by omega
    have g1 : A = ByteArray.empty := by rw [← t1]; exact ByteArray.ext (Array.ext' (by rw [← Lib.toList_data, Lib.extract_toList]; simp))
    have g2 : B = D := by
      rw [← t2]
      refine ByteArray.ext (Array.ext' ?_)
      rw [← Lib.toList_data, Lib.extract_toList, List.drop_zero, Nat.sub_zero, List.take_of_length_le (by simp)]
    rw [g1] at HVA
    rw [g2] at HVB
    have m1 : IntKind.i64.wrap ((D.size : Int) - 9) = 0 := by rw [IntWalk.i64_in _ (by omega)]; omega
    clear t1 t2 hat k2 k3 k4 g1 g2 hz hz8
    cases neg
    all_goals
      go_enter Tryz.func205, Tryz.ntmps205
      go_wp2_with (first
        | (go_at_call 156; refine (HC.out _).mono ?_; rintro e w' ⟨rfl, rfl⟩)
        | (go_at_call 160; refine (HN.out _).mono ?_; rintro e w' ⟨rfl, rfl⟩))
      all_goals first
        | (exfalso; omega)
        | skip
      all_goals
        refine wp_region_made 9 1 39 _ (by kernel_rfl) (by kernel_rfl) (by kernel_rfl) (Nat.le_refl 39) rfl ?_
        have HB1 : Hid (Below w.heap.size w (w.alloc (.cells #[.float .f64 0, .float .f64 0] 230)).drew) := Below.drew ((Below.refl _ _).alloc (Nat.le_refl _) _)
        have hc1 : (w.alloc (.cells #[.float .f64 0, .float .f64 0] 230)).drew.cell? ⟨w.heap.size, 0, none⟩ = some (.float .f64 0) := by go_simp
        have hc2 : (w.alloc (.cells #[.float .f64 0, .float .f64 0] 230)).drew.cell? ⟨w.heap.size, 1, none⟩ = some (.float .f64 0) := by go_simp
        have hf1 : (w.alloc (.cells #[.float .f64 0, .float .f64 0] 230)).drew.frozen? ⟨w.heap.size, 0, none⟩ = false := by go_simp
        have hf2 : (w.alloc (.cells #[.float .f64 0, .float .f64 0] 230)).drew.frozen? ⟨w.heap.size, 1, none⟩ = false := by go_simp
        have hsz : w.heap.size + 1 ≤ (w.alloc (.cells #[.float .f64 0, .float .f64 0] 230)).drew.heap.size := by simp
        generalize (w.alloc (.cells #[.float .f64 0, .float .f64 0] 230)).drew = wz at HB1 hc1 hc2 hf1 hf2 hsz ⊢
        have hne : w.heap.size ≠ wz.heap.size := by omega
        have hne2 : wz.heap.size ≠ w.heap.size := by omega
        have hlt : w.heap.size < wz.heap.size := by omega
        have hd1 : (wz.alloc (.cells #[.float .f64 0, .float .f64 0] 230)).cell? ⟨w.heap.size, 0, none⟩ = some (.float .f64 0) := by rw [World.cell?_alloc_lt (h := hlt)]; exact hc1
        have hd2 : (wz.alloc (.cells #[.float .f64 0, .float .f64 0] 230)).cell? ⟨w.heap.size, 1, none⟩ = some (.float .f64 0) := by rw [World.cell?_alloc_lt (h := hlt)]; exact hc2
        clear hsz
        have HC1 : Hid (∀ b : One wz, Calls Tryz.prog 243 #[.string ByteArray.empty] b.v fun e w' => e = .returned (.float .f64 xh) ∧ ∃ b' : One wz, w' = b'.v) := fun b => (HVA.out b.v).mono fun e w' ⟨he, hw⟩ => ⟨he, b, hw⟩
        have HC2 : Hid (∀ b : One wz, Calls Tryz.prog 243 #[.string D] b.v fun e w' => e = .returned (.float .f64 xl) ∧ ∃ b' : One wz, w' = b'.v) := fun b => (HVB.out b.v).mono fun e w' ⟨he, hw⟩ => ⟨he, b, hw⟩
        unfold isOne
        simp only [List.take_succ_cons, List.take_zero, List.drop_succ_cons, List.drop_zero]
        repeat (go_big_quiet_step (first | with_reducible exact HC1.out _ | with_reducible exact HC2.out _))
        refine wpQuiet_nil ?_
        refine ⟨by kernel_rfl, .pointer (some ⟨wz.heap.size, 0, none⟩), wz.alloc (.cells #[.float .f64 0, .float .f64 0] 230), ?_, ?_, ?_⟩
        · go_simp
        · generalize wz.alloc (.cells #[.float .f64 0, .float .f64 0] 230) = wy
          have HD1 : Hid (∀ b : One wy, Calls Tryz.prog 243 #[.string ByteArray.empty] b.v fun e w' => e = .returned (.float .f64 xh) ∧ ∃ b' : One wy, w' = b'.v) := fun b => (HVA.out b.v).mono fun e w' ⟨he, hw⟩ => ⟨he, b, hw⟩
          have HD2 : Hid (∀ b : One wy, Calls Tryz.prog 243 #[.string D] b.v fun e w' => e = .returned (.float .f64 xl) ∧ ∃ b' : One wy, w' = b'.v) := fun b => (HVB.out b.v).mono fun e w' ⟨he, hw⟩ => ⟨he, b, hw⟩
          clear HC1 HC2
          repeat (go_big_quiet_step (first | with_reducible exact HD1.out _ | with_reducible exact HD2.out _))
          exact wpQuiet_nil rfl
        clear HC1 HC2
        go_wp2_with fail
        show wpQuiet _ _ _ _ _ _
        refine wpQuiet_nil ?_
        go_wp2_with fail
        have HBE := HB1.out
        first
        | (refine bodyPost_ret (v := .tuple #[.agg #[.float .f64 xh, .float .f64 xl], .bool true]) ?_ rfl ?_
           · simp [results, Tryz.results205, go_sem, hlt, hne, hne2, hc1, hc2]
           · exact ⟨rfl, Below.alloc (Below.setCell (Below.setCell HBE (Nat.le_refl _) _) (Nat.le_refl _) _) (by simp; omega) _⟩)
        | (refine bodyPost_ret (v := .tuple #[.agg #[.float .f64 (opp xh), .float .f64 (opp xl)], .bool true]) ?_ rfl ?_
           · simp [results, Tryz.results205, go_sem, hlt, hne, hne2, hc1, hc2]
           · exact ⟨rfl, Below.alloc (Below.setCell (Below.setCell HBE (Nat.le_refl _) _) (Nat.le_refl _) _) (by simp; omega) _⟩)
  · subst hat
    have m1 : ¬ (D.size : Int) - 9 ≤ 0 := by omega
    have m2 : (((D.size : Int) - 9).toNat) = D.size - 9 := by omega
    have m3 : 0 ≤ (D.size : Int) - 9 := by omega
    have m4 : (D.size : Int) - 9 ≤ (D.size : Int) := by omega
    clear k3 k4
    cases neg
    all_goals
      go_enter Tryz.func205, Tryz.ntmps205
      go_wp2_with (first
        | (go_at_call 156; refine (HC.out _).mono ?_; rintro e w' ⟨rfl, rfl⟩)
        | (go_at_call 160; refine (HN.out _).mono ?_; rintro e w' ⟨rfl, rfl⟩))
      all_goals first
        | (exfalso; omega)
        | skip
      all_goals
        refine wp_region_made 9 1 39 _ (by kernel_rfl) (by kernel_rfl) (by kernel_rfl) (Nat.le_refl 39) rfl ?_
        have HB1 : Hid (Below w.heap.size w (w.alloc (.cells #[.float .f64 0, .float .f64 0] 230)).drew) := Below.drew ((Below.refl _ _).alloc (Nat.le_refl _) _)
        have hc1 : (w.alloc (.cells #[.float .f64 0, .float .f64 0] 230)).drew.cell? ⟨w.heap.size, 0, none⟩ = some (.float .f64 0) := by go_simp
        have hc2 : (w.alloc (.cells #[.float .f64 0, .float .f64 0] 230)).drew.cell? ⟨w.heap.size, 1, none⟩ = some (.float .f64 0) := by go_simp
        have hf1 : (w.alloc (.cells #[.float .f64 0, .float .f64 0] 230)).drew.frozen? ⟨w.heap.size, 0, none⟩ = false := by go_simp
        have hf2 : (w.alloc (.cells #[.float .f64 0, .float .f64 0] 230)).drew.frozen? ⟨w.heap.size, 1, none⟩ = false := by go_simp
        have hsz : w.heap.size + 1 ≤ (w.alloc (.cells #[.float .f64 0, .float .f64 0] 230)).drew.heap.size := by simp
        generalize (w.alloc (.cells #[.float .f64 0, .float .f64 0] 230)).drew = wz at HB1 hc1 hc2 hf1 hf2 hsz ⊢
        have hne : w.heap.size ≠ wz.heap.size := by omega
        have hne2 : wz.heap.size ≠ w.heap.size := by omega
        have hlt : w.heap.size < wz.heap.size := by omega
        have hd1 : (wz.alloc (.cells #[.float .f64 0, .float .f64 0] 230)).cell? ⟨w.heap.size, 0, none⟩ = some (.float .f64 0) := by rw [World.cell?_alloc_lt (h := hlt)]; exact hc1
        have hd2 : (wz.alloc (.cells #[.float .f64 0, .float .f64 0] 230)).cell? ⟨w.heap.size, 1, none⟩ = some (.float .f64 0) := by rw [World.cell?_alloc_lt (h := hlt)]; exact hc2
        clear hsz
        have HC1 : Hid (∀ b : One wz, Calls Tryz.prog 243 #[.string A] b.v fun e w' => e = .returned (.float .f64 xh) ∧ ∃ b' : One wz, w' = b'.v) := fun b => (HVA.out b.v).mono fun e w' ⟨he, hw⟩ => ⟨he, b, hw⟩
        have HC2 : Hid (∀ b : One wz, Calls Tryz.prog 243 #[.string B] b.v fun e w' => e = .returned (.float .f64 xl) ∧ ∃ b' : One wz, w' = b'.v) := fun b => (HVB.out b.v).mono fun e w' ⟨he, hw⟩ => ⟨he, b, hw⟩
        unfold isOne
        simp only [List.take_succ_cons, List.take_zero, List.drop_succ_cons, List.drop_zero]
        repeat (go_big_quiet_step (first | with_reducible exact HC1.out _ | with_reducible exact HC2.out _))
        refine wpQuiet_nil ?_
        refine ⟨by kernel_rfl, .pointer (some ⟨wz.heap.size, 0, none⟩), wz.alloc (.cells #[.float .f64 0, .float .f64 0] 230), ?_, ?_, ?_⟩
        · go_simp
        · generalize wz.alloc (.cells #[.float .f64 0, .float .f64 0] 230) = wy
          have HD1 : Hid (∀ b : One wy, Calls Tryz.prog 243 #[.string A] b.v fun e w' => e = .returned (.float .f64 xh) ∧ ∃ b' : One wy, w' = b'.v) := fun b => (HVA.out b.v).mono fun e w' ⟨he, hw⟩ => ⟨he, b, hw⟩
          have HD2 : Hid (∀ b : One wy, Calls Tryz.prog 243 #[.string B] b.v fun e w' => e = .returned (.float .f64 xl) ∧ ∃ b' : One wy, w' = b'.v) := fun b => (HVB.out b.v).mono fun e w' ⟨he, hw⟩ => ⟨he, b, hw⟩
          clear HC1 HC2
          repeat (go_big_quiet_step (first | with_reducible exact HD1.out _ | with_reducible exact HD2.out _))
          exact wpQuiet_nil rfl
        clear HC1 HC2
        go_wp2_with fail
        show wpQuiet _ _ _ _ _ _
        refine wpQuiet_nil ?_
        go_wp2_with fail
        have HBE := HB1.out
        first
        | (refine bodyPost_ret (v := .tuple #[.agg #[.float .f64 xh, .float .f64 xl], .bool true]) ?_ rfl ?_
           · simp [results, Tryz.results205, go_sem, hlt, hne, hne2, hc1, hc2]
           · exact ⟨rfl, Below.alloc (Below.setCell (Below.setCell HBE (Nat.le_refl _) _) (Nat.le_refl _) _) (by simp; omega) _⟩)
        | (refine bodyPost_ret (v := .tuple #[.agg #[.float .f64 (opp xh), .float .f64 (opp xl)], .bool true]) ?_ rfl ?_
           · simp [results, Tryz.results205, go_sem, hlt, hne, hne2, hc1, hc2]
           · exact ⟨rfl, Below.alloc (Below.setCell (Below.setCell HBE (Nat.le_refl _) _) (Nat.le_refl _) _) (by simp; omega) _⟩)
end Go.Proofs.YtcmjpkfinbakkaaGreatDoor.Vf.Ck
