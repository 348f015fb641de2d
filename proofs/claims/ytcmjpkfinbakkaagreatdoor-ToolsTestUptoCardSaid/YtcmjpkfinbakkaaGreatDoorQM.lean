import Derived.Test.YtcmjpkfinbakkaaGreatDoorWVM
import Derived.Lib.MinMax
import Derived.Shelf.Strings.Builder1
import Derived.Shelf.Strings.Builder2
import Derived.Shelf.Strings.OnBuilder
import Derived.Shelf.Strings.Trim
import Derived.Shelf.Small.Utf8
import Derived.Shelf.Small.Bits
import Derived.Shelf.Small.Strs
import Derived.Shelf.Small.Wraps
import Derived.Shelf.Strings.BuilderF
import Derived.Shelf.Strings.BuilderK
import Derived.Shelf.Utf8.RuneCount
import Derived.Shelf.Strings.Builder2Cap
import Derived.Shelf.Strconv.Itoa0
import Derived.Shelf.Strconv.Itoa1
import Derived.Shelf.LaysM
import Derived.Shelf.Strconv.Itoa2
import Derived.Shelf.Strconv.Itoa3
import Derived.Shelf.Strconv.Itoa4
import Derived.Shelf.Strconv.Clone
import Derived.Shelf.Strconv.SyntaxError
import Derived.Shelf.Strconv.Lower
import Derived.Shelf.Strconv.ParseUint10
import Derived.Shelf.Strconv.ParseUint10Empty
import Derived.Shelf.Strconv.RangeError
import Derived.Shelf.Strconv.ParseUintEmpty
import Derived.Shelf.Strconv.ParseUint10b64
import Derived.Shelf.Strconv.ParseUint10b32
import Derived.Shelf.Strconv.ParseUint10b16
import Derived.Shelf.Strconv.ParseUint10b8
import Derived.Shelf.Strings.Search1
import Derived.Shelf.Strings.Search2
import Derived.Shelf.Strings.Search3
import Derived.Shelf.Strings.Count
import Derived.Shelf.Strings.Shaped
import Derived.Shelf.Sort.Plain
import Derived.Shelf.Strings.Prefix
import Derived.Shelf.Strings.Split
import Derived.Shelf.Strings.SplitShaped
import Derived.Shelf.Unicode.Decode
import Derived.Shelf.Strings.Runes
import Derived.Shelf.Strings.RuneCount
import Derived.Shelf.Strings.IndexAny
import Derived.Shelf.Strings.AsciiSet
import Derived.Shelf.Strings.IndexAnyAll
import Derived.Shelf.Strings.Explode
import Derived.Shelf.Bits.Mul64
import Derived.Shelf.Strings.Repeat
import Derived.Shelf.Unicode.DecodeSlow
import Derived.Shelf.Unicode.DecodeAny
import Derived.Shelf.Unicode.DecodeLast
import Derived.Shelf.Slices.Equal
import Derived.Shelf.Slices.CompactS
import Derived.Shelf.Slices.Cells
import Derived.Shelf.Slices.In.SortNone
import Derived.Shelf.Slices.Empties2
import Derived.Ground.SlbCloneProg
import Derived.Shelf.Bytes.SlClone
import Derived.Test.YtcmjpkfinbakkaaGreatDoorProg
namespace Go.Proofs.YtcmjpkfinbakkaaGreatDoor
open Go Go.RowKit

section
variable {P : Program} {ops : Array Oper} {md : Region.Mode} {C : World → Prop}
theorem op_then {o : Oper} {a : Act} {w : World} {K : Act → World → Prop} {R : Act → World → Prop} {Q : Exit → Act → World → Prop} (hh : o.wp P a w K (Exit.then R Q)) : o.wp P a w K Q := by
  unfold Oper.wp at *
  generalize (execOp a.eval o).run P w = r at *
  cases r with
  | ok n w' =>
    cases n <;> simp only [Oper.upon] at hh ⊢ <;>
      first
        | exact hh
        | exact Calls.mono hh (fun e w'' he => by cases e <;> exact he)
  | halt x w' => cases x <;> simp only [Oper.upon] at hh ⊢ <;> exact hh
theorem wpOp_then {i : Nat} {a : Act} {w : World} {K : Act → World → Prop} {R : Act → World → Prop} {Q : Exit → Act → World → Prop} (hh : wpOp P ops (Exit.then R Q) i K a w) : wpOp P ops Q i K a w := by
  unfold wpOp at *
  split
  · simpa [*] using hh
  · rename_i o ho
    simp only [ho] at hh
    split
    · rename_i hw; simp only [hw, if_true] at hh; exact hh.imp op_then (fun h => ⟨h.1, h.2⟩)
    · rename_i hw; simp only [hw] at hh; exact hh
/-- All behind n wait for one that is not ahead of n. -/
def waitB (md : Region.Mode) (ops : Array Oper) (n : Nat) : Bool :=
  (List.range ops.size).all fun t => decide (t ≤ n) || (List.range t).any fun j => decide (n ≤ j) && Region.waitsFor md ops t j
def midB (md : Region.Mode) (ops : Array Oper) (g : Nat) : Nat → Nat → Array Bool → Bool
  | 0, k, listed => Region.lexFrom md ops g k listed
  | f + 1, k, listed => decide (Region.ready md ops listed = [k]) && midB md ops g f (k + 1) (listed.setIfInBounds k true)
def lexHead2 (md : Region.Mode) (ops : Array Oper) (m g : Nat) : Nat → Nat → Array Bool → Bool
  | 0, k, listed => midB md ops g m k listed
  | f + 1, k, listed => (Region.ready md ops listed).contains k && Region.free md ops listed k && lexHead2 md ops m g f (k + 1) (listed.setIfInBounds k true)
/-- First n operations in any order, m behind them one by one, then the others in any order. -/
def lexMidB (md : Region.Mode) (ops : Array Oper) (n m : Nat) : Bool :=
  Region.noSelect ops && decide (n + m ≤ ops.size) && decide (1 ≤ m) && Region.sinkB md ops n && waitB md ops n && lexHead2 md ops m (ops.size - n - m) n 0 (Array.replicate ops.size false)
theorem tail_waits2 {n : Nat} {listed : Array Bool} (hs : Region.sinkB md ops n = true) (hc : waitB md ops n = true) (hn : n < ops.size) (inv : HeadInv md ops n listed) :
    ∀ (d i : Nat), n - i = d → i < n → listed.getD i true = false → ∀ t, n ≤ t → t ∉ Region.ready md ops listed := by
  intro d
  induction d using Nat.strongRecOn with
  | _ d ih =>
    intro i hd hi hun t ht hr
    obtain ⟨_, ot, hot, hall⟩ := mem_ready.1 hr
    have htlt : t < ops.size := (Array.getElem?_eq_some_iff.1 hot).1
    by_cases htn : t = n
    · subst htn
      have h1 := List.all_eq_true.1 hs i (List.mem_range.2 hi)
      obtain ⟨j, hj, hj2⟩ := List.any_eq_true.1 h1
      simp only [Bool.and_eq_true, decide_eq_true_eq] at hj2
      obtain ⟨oj, hoj, e, he, hb, hon⟩ := Region.waitsFor_spec hj2.2
      have hjle : j ≤ t := by have := List.mem_range.1 hj; omega
      by_cases hjt : j = t
      · subst hjt
        have : oj = ot := Option.some.inj (hoj.symm.trans hot)
        subst this
        have h2 := hall e he hb
        rw [hon, getD_both hun] at h2
        cases h2
      · cases hl : listed.getD j false with
        | true =>
          have h2 := inv.closed j oj hoj hl e he hb
          rw [hon, getD_both hun] at h2
          cases h2
        | false =>
          have hjs : j < listed.size := by rw [inv.size]; omega
          exact ih (t - j) (by omega) j rfl (by omega) (getD_in hjs hl) t (Nat.le_refl _) hr
    · have h1 := List.all_eq_true.1 hc t (List.mem_range.2 htlt)
      simp only [Bool.or_eq_true, decide_eq_true_eq] at h1
      rcases h1 with h1 | h1
      · omega
      · obtain ⟨j, hj, hj2⟩ := List.any_eq_true.1 h1
        simp only [Bool.and_eq_true, decide_eq_true_eq] at hj2
        obtain ⟨o', ho', e, he, hb, hon⟩ := Region.waitsFor_spec hj2.2
        have : o' = ot := Option.some.inj (ho'.symm.trans hot)
        subst this
        have h2 := hall e he hb
        rw [hon, getD_both (inv.tail j hj2.1 (by have := List.mem_range.1 hj; omega))] at h2
        cases h2
theorem headQ_first2 {n i : Nat} {oi : Oper} {v : Value} {L : Array Bool → Act → Prop} (hi : ops[i]? = some oi) (hsel : ∀ (j : Nat) (o : Oper) cs b, ops[j]? = some o → o.op ≠ .select cs b)
    (hs : Region.sinkB md ops n = true) (hc : waitB md ops n = true) (hn : n < ops.size) (hin : i < n)
    (hdone : ∀ listed a, L listed a → ∀ j ∈ Region.ready md ops listed, n ≤ j) :
    ∀ (f : Nat) (listed : Array Bool) (a : Act), HeadInv md ops n listed →
      (∀ j oj, ops[j]? = some oj → j ≠ i → listed.getD j true = false → (∀ e ∈ oj.after, Region.binds md e = true → e.on ≠ i) → oi.apart ops oj = true) →
      i ∈ Region.ready md ops listed → YieldsIn P ops C oi v a →
      headQ P md ops C n L f (listed.setIfInBounds i true) (a.put oi.dst v) → headQ P md ops C n L (f + 1) listed a := by
  intro f
  induction f with
  | zero =>
    intro listed a inv _ hr hy H
    have hun := (mem_ready.1 hr).1
    refine ⟨fun h => (by rw [h] at hr; cases hr), fun j hj => ?_⟩
    have hjn : j < n := Nat.lt_of_not_le fun h => tail_waits2 hs hc hn inv _ i rfl hin hun j h hj
    refine ⟨hjn, ?_⟩
    by_cases hji : j = i
    · subst hji; exact hy.qOp hi H
    · have := hdone _ _ H j (ready_mono hj hji)
      omega
  | succ f ih =>
    intro listed a inv hfree hr hy H
    have hun := (mem_ready.1 hr).1
    refine ⟨fun h => (by rw [h] at hr; cases hr), fun j hj => ?_⟩
    have hjn : j < n := Nat.lt_of_not_le fun h => tail_waits2 hs hc hn inv _ i rfl hin hun j h hj
    refine ⟨hjn, ?_⟩
    by_cases hji : j = i
    · subst hji; exact hy.qOp hi H
    · have h1 := (H.2 j (ready_mono hj hji)).2
      obtain ⟨hjun, oj, hoj, hall⟩ := mem_ready.1 hj
      have hnot : ∀ e ∈ oj.after, Region.binds md e = true → e.on ≠ i := fun e he hb heq => by
        have h5 := hall e he hb
        rw [heq, getD_both hun] at h5
        cases h5
      have h2 := qOp_put hoj (hfree j oj hoj hji hjun hnot) (fun cs b => hsel i oi cs b hi) (fun cs b => hsel j oj cs b hoj) hy h1
      refine qOp_mono (fun a' h3 => ih (listed.setIfInBounds j true) a' (inv.set hj hjn) (fun k ok hk hki hun' hno => ?_) (ready_mono hr (Ne.symm hji)) h3.1 ?_) h2
      · refine hfree k ok hk hki ?_ hno
        by_cases hjk : j = k
        · subst hjk; exact hjun
        · rwa [getD_set_ne true hjk] at hun'
      · rw [Array.setIfInBounds_comm _ _ hji]
        exact h3.2
theorem midB_ready {m g k : Nat} {listed : Array Bool} (hm : 1 ≤ m) (h : midB md ops g m k listed = true) : ∀ j ∈ Region.ready md ops listed, k ≤ j := by
  cases m with
  | zero => omega
  | succ m =>
    intro j hj
    simp only [midB, Bool.and_eq_true, decide_eq_true_eq] at h
    rw [h.1] at hj
    have : j = k := by simpa using hj
    omega
theorem headQ_lex2 {n m g : Nat} {Lq : Act → Prop} (hm : 1 ≤ m) (hsel : Region.noSelect ops = true) (hs : Region.sinkB md ops n = true) (hc : waitB md ops n = true) (hn : n < ops.size) :
    ∀ (l : List Oper) (k : Nat) (listed : Array Bool) (a : Act), (∀ j, j < l.length → l[j]? = ops[k + j]?) → k + l.length = n → HeadInv md ops n listed →
    lexHead2 md ops m g l.length k listed = true → wpQuiet P ops C Lq l a →
    headQ P md ops C n (fun listed' a' => midB md ops g m n listed' = true ∧ Lq a') l.length listed a
  | [], k, listed, a, _, hk, _, hB, h => by
    obtain rfl : k = n := by simpa using hk
    exact ⟨by simpa [lexHead2] using hB, h⟩
  | o :: l, k, listed, a, hl, hk, inv, hB, h => by
    have h0 : ops[k]? = some o := by simpa using (hl 0 (by simp)).symm
    simp only [List.length_cons, lexHead2, Bool.and_eq_true] at hB
    obtain ⟨⟨hr, hf⟩, hB'⟩ := hB
    have hkn : k < n := by simp only [List.length_cons] at hk; omega
    have hr' : k ∈ Region.ready md ops listed := by simpa using hr
    have hst : qOp P ops C k (wpQuiet P ops C Lq l) a := by unfold qOp; simp only [h0]; exact h
    obtain ⟨v, hy, hK⟩ := yieldsIn_of_qOp h0 hst
    exact headQ_first2 h0 (Region.noSelect_spec hsel) hs hc hn hkn (fun listed' a' hL => midB_ready hm hL.1) l.length listed a inv (Region.free_spec h0 hf) hr' hy
      (headQ_lex2 hm hsel hs hc hn l (k + 1) _ _ (fun j hj => by have := hl (j + 1) (by simp; omega); simpa [Nat.add_assoc, Nat.add_comm 1 j] using this) (by simp only [List.length_cons] at hk; omega) (inv.set hr' hkn) hB' hK)
theorem wpAny_of_mid {Q : Exit → Act → World → Prop} {R : Act → World → Prop} {g e : Nat} (hend : ∀ listed a w, Region.lexFrom md ops g e listed = true → R a w → wpAny P md ops Q g listed a w) :
    ∀ (l : List Oper) (k : Nat) (listed : Array Bool) (a : Act) (w : World), (∀ j, j < l.length → l[j]? = ops[k + j]?) → k + l.length = e →
    midB md ops g l.length k listed = true → wpList P ops (Exit.then R Q) l a w → wpAny P md ops Q (l.length + g) listed a w
  | [], k, listed, a, w, _, hk, hB, h => by
    obtain rfl : k = e := by simpa using hk
    rw [List.length_nil, Nat.zero_add]
    exact hend _ _ _ (by simpa [midB] using hB) h
  | o :: l, k, listed, a, w, hl, hk, hB, h => by
    have h0 : ops[k]? = some o := by simpa using (hl 0 (by simp)).symm
    simp only [List.length_cons, midB, Bool.and_eq_true, decide_eq_true_eq] at hB
    rw [List.length_cons, show l.length + 1 + g = (l.length + g) + 1 by omega]
    refine ⟨fun h1 => (by rw [hB.1] at h1; cases h1), fun i hi => ?_⟩
    rw [hB.1] at hi
    have hik : i = k := by simpa using hi
    subst hik
    have hw : wpOp P ops (Exit.then R Q) i (wpList P ops (Exit.then R Q) l) a w := by unfold wpOp; simp only [h0]; exact h
    exact wpOp_mono (fun a' w' h' => wpAny_of_mid hend l (i + 1) _ a' w' (fun j hj => by have := hl (j + 1) (by simp; omega); simpa [Nat.add_assoc, Nat.add_comm 1 j] using this) (by simp only [List.length_cons] at hk; omega) hB.2 h') (wpOp_then hw)
/-- A region whose first n operations are quiet in the class C, m behind them one by one, and the others quiet again. -/
theorem wp_region_quiet_mid {id : Nat} {Q : Exit → Act → World → Prop} {a : Act} {w : World} {l : List Oper} (n m : Nat) (C : World → Prop) (hm : P.follows .mixedOrders = true) (hB : lexMidB .any l.toArray n m = true)
    (hC : C { w with drawn := w.drawn + 1 })
    (h : wpQuiet P l.toArray C (fun a' => ∀ w', C w' → wpList P l.toArray (Exit.then (fun b w'' => wpQuiet P l.toArray (fun x => x = w'') (fun b' => Q .normal b' w'') (l.drop (n + m)) b) Q) ((l.drop n).take m) a' w') (l.take n) a) : (Code.region id l.toArray true).wp P Q a w := by
  simp only [lexMidB, Bool.and_eq_true, decide_eq_true_eq] at hB
  obtain ⟨⟨⟨⟨⟨hsel, hnm⟩, hm1⟩, hs⟩, hc⟩, hlex⟩ := hB
  have hnm' : n + m ≤ l.length := by simpa using hnm
  have hn : n < l.toArray.size := by simp; omega
  have htl : (l.take n).length = n := by simp; omega
  have hml : ((l.drop n).take m).length = m := by simp; omega
  have hrl : (l.drop (n + m)).length = l.toArray.size - n - m := by simp; omega
  have inv0 : HeadInv .any l.toArray n (Array.replicate l.toArray.size false) :=
    ⟨by simp, fun j oj _ hl => (by rw [getD_replicate_false] at hl; cases hl), fun t _ ht => getD_in (by simpa using ht) (getD_replicate_false _ _)⟩
  have H := headQ_lex2 (md := .any) (C := C) (m := m) (g := l.toArray.size - n - m) hm1 hsel hs hc hn (l.take n) 0 _ a (fun j hj => by
    have hj' : j < n := by rw [htl] at hj; exact hj
    simp [hj']) (by simpa using htl) inv0 (by rw [htl]; exact hlex) h
  refine wp_region_any hm ?_
  have := wpAny_of_headQ (C := C) (Q' := Q) (g := m + (l.toArray.size - n - m)) (fun listed a' w' hw' hL => by
    have := wpAny_of_mid (md := .any) (Q := Q) (g := l.toArray.size - n - m) (e := n + m) (fun listed b w'' hlf hR => by
      refine wpAny_of_quiet (C := fun x => x = w'') (Q := fun b' => Q .normal b' w'') (fun b' x hx hq => by subst hx; exact hq) _ _ _ _ rfl ?_
      have := wpAnyQ_lex (C := fun x => x = w'') (md := .any) hsel (l.drop (n + m)) (n + m) listed b (fun j => by simp [List.getElem?_drop]) (by rw [hrl]; exact hlf) hR
      rwa [hrl] at this) ((l.drop n).take m) n listed a' w' (fun j hj => by
        have hj' : j < m := by rw [hml] at hj; exact hj
        simp [List.getElem?_drop, hj']) (by rw [hml]) (by rw [hml]; exact hL.1) (hL.2 w' hw')
    rwa [hml] at this) _ _ _ _ hC H
  rw [htl, show n + (m + (l.toArray.size - n - m)) = l.toArray.size by omega] at this
  exact this
end
end Go.Proofs.YtcmjpkfinbakkaaGreatDoor

namespace Go.Proofs.YtcmjpkfinbakkaaGreatDoor
open Go Go.RowKit

/-- One world, as a class. -/
structure One (W : World) where
  v : World
  h : v = W
instance (W : World) : Nonempty (One W) := ⟨⟨W, rfl⟩⟩
def isOne (W : World) : World → Prop := fun x => ∃ b : One W, x = b.v
theorem isOne_iff {W x : World} : isOne W x ↔ x = W := ⟨fun ⟨b, h⟩ => h.trans b.h, fun h => ⟨⟨x, h⟩, rfl⟩⟩

section
variable {P : Program} {ops : Array Oper} {md : Region.Mode} {w1 w2 : World} {i0 : Nat}

/-- Operation i in state a: the maker makes w2 of w1; the others leave either world as it was. -/
def stepY (P : Program) (ops : Array Oper) (w1 w2 : World) (i0 i : Nat) (o : Oper) (v : Value) (a : Act) : Prop :=
  (i = i0 ∧ Region.wanted o (yielded ops a.tmps) = true ∧ (execOp a.eval o).run P w1 = .ok (.value v) w2) ∨
  (i ≠ i0 ∧ YieldsIn P ops (isOne w1) o v a ∧ YieldsIn P ops (isOne w2) o v a)
theorem stepY.of_same {i : Nat} {o : Oper} {v : Value} {a a' : Act} (hy : stepY P ops w1 w2 i0 i o v a) (he : execOp a'.eval o = execOp a.eval o)
    (hw : Region.wanted o (yielded ops a'.tmps) = Region.wanted o (yielded ops a.tmps)) : stepY P ops w1 w2 i0 i o v a' := by
  rcases hy with ⟨h1, h2, h3⟩ | ⟨h1, h2, h3⟩
  · exact .inl ⟨h1, by rw [hw]; exact h2, by rw [he]; exact h3⟩
  · exact .inr ⟨h1, h2.of_same he hw, h3.of_same he hw⟩
/-- The first operations, in whatever order. -/
def headY (P : Program) (md : Region.Mode) (ops : Array Oper) (w1 w2 : World) (i0 n : Nat) (L : Array Bool → Act → Prop) : Nat → Array Bool → Act → Prop
  | 0, listed, a => L listed a
  | f + 1, listed, a =>
    Region.ready md ops listed ≠ [] ∧ ∀ i ∈ Region.ready md ops listed, i < n ∧ ∃ o v, ops[i]? = some o ∧ stepY P ops w1 w2 i0 i o v a ∧ headY P md ops w1 w2 i0 n L f (listed.setIfInBounds i true) (a.put o.dst v)
theorem wpAny_of_headY {n g : Nat} {L : Array Bool → Act → Prop} {Q' : Exit → Act → World → Prop} (hi0 : i0 < ops.size) (hL1 : ∀ listed a, L listed a → listed.getD i0 false = true) (hL : ∀ listed a, L listed a → wpAny P md ops Q' g listed a w2) :
    ∀ (f : Nat) (listed : Array Bool) (a : Act) (w : World), listed.size = ops.size → w = (if listed.getD i0 false then w2 else w1) → headY P md ops w1 w2 i0 n L f listed a → wpAny P md ops Q' (f + g) listed a w
  | 0, listed, a, w, _, hw, h => by
    rw [Nat.zero_add, hw, hL1 _ _ h, if_pos rfl]
    exact hL _ _ h
  | f + 1, listed, a, w, hsz, hw, h => by
    rw [show f + 1 + g = (f + g) + 1 by omega]
    refine ⟨fun h0 => absurd h0 h.1, fun i hi => ?_⟩
    obtain ⟨_, o, v, ho, hy, hk⟩ := h.2 i hi
    have hun := (mem_ready.1 hi).1
    have hsz' : (listed.setIfInBounds i true).size = ops.size := by rw [Array.size_setIfInBounds]; exact hsz
    rcases hy with ⟨he, hwa, hrun⟩ | ⟨hne, hy1, hy2⟩
    · rw [he] at hun ho hk ⊢
      have hw1 : w = w1 := by rw [hw, getD_both hun]; rfl
      rw [hw1]
      unfold wpOp
      simp only [ho, hwa, if_true]
      refine .inl ?_
      unfold Oper.wp
      rw [hrun]
      have hset : (listed.setIfInBounds i0 true).getD i0 false = true := by
        simp [Array.getD_eq_getD_getElem?, hsz, hi0]
      exact wpAny_of_headY hi0 hL1 hL f _ _ _ (by rw [Array.size_setIfInBounds]; exact hsz) (by rw [hset]; rfl) hk
    · have hy : YieldsIn P ops (isOne w) o v a := by
        rw [hw]
        cases listed.getD i0 false
        · exact hy1
        · exact hy2
      have hq := hy.qOp ho (K := fun a' => headY P md ops w1 w2 i0 n L f (listed.setIfInBounds i true) a') hk
      refine wpOp_of_qOp (C := isOne w) (isOne_iff.2 rfl) (fun a' w' hw' hk' => ?_) hq
      rw [isOne_iff] at hw'
      refine wpAny_of_headY hi0 hL1 hL f _ _ _ hsz' ?_ hk'
      rw [getD_set_ne false hne, hw', hw]
theorem headY_first {n i : Nat} {oi : Oper} {v : Value} {L : Array Bool → Act → Prop} (hi : ops[i]? = some oi) (hsel : ∀ (j : Nat) (o : Oper) cs b, ops[j]? = some o → o.op ≠ .select cs b)
    (hs : Region.sinkB md ops n = true) (hc : waitB md ops n = true) (hn : n < ops.size) (hin : i < n)
    (hdone : ∀ listed a, L listed a → ∀ j ∈ Region.ready md ops listed, n ≤ j) :
    ∀ (f : Nat) (listed : Array Bool) (a : Act), HeadInv md ops n listed →
      (∀ j oj, ops[j]? = some oj → j ≠ i → listed.getD j true = false → (∀ e ∈ oj.after, Region.binds md e = true → e.on ≠ i) → oi.apart ops oj = true) →
      i ∈ Region.ready md ops listed → stepY P ops w1 w2 i0 i oi v a →
      headY P md ops w1 w2 i0 n L f (listed.setIfInBounds i true) (a.put oi.dst v) → headY P md ops w1 w2 i0 n L (f + 1) listed a := by
  intro f
  induction f with
  | zero =>
    intro listed a inv _ hr hy H
    have hun := (mem_ready.1 hr).1
    refine ⟨fun h => (by rw [h] at hr; cases hr), fun j hj => ?_⟩
    have hjn : j < n := Nat.lt_of_not_le fun h => tail_waits2 hs hc hn inv _ i rfl hin hun j h hj
    refine ⟨hjn, ?_⟩
    by_cases hji : j = i
    · subst hji; exact ⟨oi, v, hi, hy, H⟩
    · have := hdone _ _ H j (ready_mono hj hji)
      omega
  | succ f ih =>
    intro listed a inv hfree hr hy H
    have hun := (mem_ready.1 hr).1
    refine ⟨fun h => (by rw [h] at hr; cases hr), fun j hj => ?_⟩
    have hjn : j < n := Nat.lt_of_not_le fun h => tail_waits2 hs hc hn inv _ i rfl hin hun j h hj
    refine ⟨hjn, ?_⟩
    by_cases hji : j = i
    · subst hji; exact ⟨oi, v, hi, hy, H⟩
    · obtain ⟨oj, u, hoj, hyj, hrest⟩ := (H.2 j (ready_mono hj hji)).2
      obtain ⟨hjun, oj', hoj', hall⟩ := mem_ready.1 hj
      obtain rfl : oj' = oj := Option.some.inj (hoj'.symm.trans hoj)
      have hnot : ∀ e ∈ oj'.after, Region.binds md e = true → e.on ≠ i := fun e he hb heq => by
        have h5 := hall e he hb
        rw [heq, getD_both hun] at h5
        cases h5
      obtain ⟨h1, h2, h3⟩ := Oper.apart_spec (hfree j oj' hoj hji hjun hnot)
      refine ⟨oj', u, hoj, hyj.of_same (execOp_put oj' (fun cs b => hsel j oj' cs b hoj) a oi.dst v h1).symm (wanted_put oj' a oi.dst v h1).symm, ?_⟩
      refine ih (listed.setIfInBounds j true) (a.put oj'.dst u) (inv.set hj hjn) (fun k ok hk hki hun' hno => ?_) (ready_mono hr (Ne.symm hji)) (hy.of_same (execOp_put oi (fun cs b => hsel i oi cs b hi) a oj'.dst u h3) (wanted_put oi a oj'.dst u h3)) ?_
      · refine hfree k ok hk hki ?_ hno
        by_cases hjk : j = k
        · subst hjk; exact hjun
        · rwa [getD_set_ne true hjk] at hun'
      · rw [Array.setIfInBounds_comm _ _ hji, ← Act.put_comm a v u h2]
        exact hrest
/-- The lexical order of the head. -/
def lexY (P : Program) (ops : Array Oper) (w1 w2 : World) (i0 : Nat) (Lq : Act → Prop) : List Oper → Nat → Act → Prop
  | [], _, a => Lq a
  | o :: l, k, a => ∃ v, stepY P ops w1 w2 i0 k o v a ∧ lexY P ops w1 w2 i0 Lq l (k + 1) (a.put o.dst v)
theorem headY_lex {n m g : Nat} {Lq : Act → Prop} (hm : 1 ≤ m) (hsel : Region.noSelect ops = true) (hs : Region.sinkB md ops n = true) (hc : waitB md ops n = true) (hn : n < ops.size) :
    ∀ (l : List Oper) (k : Nat) (listed : Array Bool) (a : Act), (∀ j, j < l.length → l[j]? = ops[k + j]?) → k + l.length = n → HeadInv md ops n listed → (∀ j, j < k → listed.getD j false = true) →
    lexHead2 md ops m g l.length k listed = true → lexY P ops w1 w2 i0 Lq l k a →
    headY P md ops w1 w2 i0 n (fun listed' a' => midB md ops g m n listed' = true ∧ (∀ j, j < n → listed'.getD j false = true) ∧ Lq a') l.length listed a
  | [], k, listed, a, _, hk, _, hlow, hB, h => by
    obtain rfl : k = n := by simpa using hk
    exact ⟨by simpa [lexHead2] using hB, hlow, h⟩
  | o :: l, k, listed, a, hl, hk, inv, hlow, hB, h => by
    have h0 : ops[k]? = some o := by simpa using (hl 0 (by simp)).symm
    simp only [List.length_cons, lexHead2, Bool.and_eq_true] at hB
    obtain ⟨⟨hr, hf⟩, hB'⟩ := hB
    have hkn : k < n := by simp only [List.length_cons] at hk; omega
    have hr' : k ∈ Region.ready md ops listed := by simpa using hr
    obtain ⟨v, hy, hK⟩ := h
    have hlow' : ∀ j, j < k + 1 → (listed.setIfInBounds k true).getD j false = true := fun j hj => by
      by_cases hjk : j = k
      · subst hjk
        have hjs : j < listed.size := by rw [inv.size]; omega
        simp [Array.getD_eq_getD_getElem?, hjs]
      · exact getD_set_true (hlow j (by omega))
    exact headY_first h0 (Region.noSelect_spec hsel) hs hc hn hkn (fun listed' a' hL => midB_ready hm hL.1) l.length listed a inv (Region.free_spec h0 hf) hr' hy
      (headY_lex hm hsel hs hc hn l (k + 1) _ _ (fun j hj => by have := hl (j + 1) (by simp; omega); simpa [Nat.add_assoc, Nat.add_comm 1 j] using this) (by simp only [List.length_cons] at hk; omega) (inv.set hr' hkn) hlow' hB' hK)
/-- Each operation has a slot of its own. -/
def dstsOk (N : Nat) : List Oper → Bool
  | [] => true
  | o :: l => (match o.dst with | some d => decide (d < N) && l.all (fun p => p.dst != some d) | none => false) && dstsOk N l
theorem put_size (a : Act) (d : Option Tmp) (v : Value) : (a.put d v).tmps.size = a.tmps.size := by
  cases d with
  | none => rfl
  | some d => simp [Act.put]
theorem quiet_keeps {C : World → Prop} {A : Act} {d : Nat} : ∀ (l : List Oper) (a : Act), wpQuiet P ops C (fun a' => a' = A) l a → (l.all fun p => p.dst != some d) = true → A.tmps[d]? = a.tmps[d]?
  | [], a, h, _ => by rw [← (show a = A from h)]
  | o :: l, a, h, hd => by
    simp only [List.all_cons, Bool.and_eq_true, bne_iff_ne] at hd
    have hput : ∀ v, (a.put o.dst v).tmps[d]? = a.tmps[d]? := fun v => by
      cases hdd : o.dst with
      | none => rfl
      | some e =>
        have hne : e ≠ d := fun he => hd.1 (by rw [hdd, he])
        simp [Act.put, Array.getElem?_setIfInBounds_ne hne]
    unfold wpQuiet at h
    split at h
    · obtain ⟨v, _, h2⟩ := h
      rw [quiet_keeps l _ h2 hd.2, hput]
    · rw [quiet_keeps l _ h hd.2, hput]
theorem lexY_of {A : Act} {N : Nat} : ∀ (l : List Oper) (k : Nat) (a : Act), dstsOk N l = true → N ≤ a.tmps.size → k + l.length ≤ i0 →
    wpQuiet P ops (isOne w1) (fun a' => a' = A) l a → wpQuiet P ops (isOne w2) (fun a' => a' = A) l a → ∀ (o0 : Oper) (Lq : Act → Prop), (∃ v, stepY P ops w1 w2 i0 (k + l.length) o0 v A ∧ Lq (A.put o0.dst v)) → lexY P ops w1 w2 i0 Lq (l ++ [o0]) k a
  | [], k, a, _, _, _, h1, _, o0, Lq, h => by
    obtain ⟨v, hv, hL⟩ := h
    rw [← (show a = A from h1)] at hv hL
    exact ⟨v, hv, hL⟩
  | o :: l, k, a, hD, hsz, hk, h1, h2, o0, Lq, h => by
    simp only [dstsOk, Bool.and_eq_true] at hD
    obtain ⟨hd, hD'⟩ := hD
    rw [List.length_cons] at hk h
    cases hdd : o.dst with
    | none => rw [hdd] at hd; cases hd
    | some d =>
      rw [hdd] at hd
      simp only [Bool.and_eq_true, decide_eq_true_eq] at hd
      have hval : ∀ v, (a.put o.dst v).tmps[d]? = some v := fun v => by
        have hdl : d < a.tmps.size := Nat.lt_of_lt_of_le (by simpa using hd.1) hsz
        rw [hdd]; simp [Act.put, hdl]
      unfold wpQuiet at h1 h2
      show lexY P ops w1 w2 i0 Lq (o :: (l ++ [o0])) k a
      by_cases hw : Region.wanted o (yielded ops a.tmps) = true
      · simp only [hw, if_true] at h1 h2
        obtain ⟨v1, q1, r1⟩ := h1
        obtain ⟨v2, q2, r2⟩ := h2
        have e1 := quiet_keeps l _ r1 hd.2
        have e2 := quiet_keeps l _ r2 hd.2
        rw [hval] at e1 e2
        obtain rfl : v1 = v2 := Option.some.inj (e1.symm.trans e2)
        exact ⟨v1, .inr ⟨by omega, .inl ⟨hw, q1⟩, .inl ⟨hw, q2⟩⟩, lexY_of l (k + 1) _ hD' (by rw [put_size]; exact hsz) (by omega) r1 r2 o0 Lq (by rw [show k + 1 + l.length = k + (l.length + 1) by omega]; exact h)⟩
      · simp only [hw] at h1 h2
        have hw' : Region.wanted o (yielded ops a.tmps) = false := by simpa using hw
        exact ⟨undef, .inr ⟨by omega, .inr ⟨hw', rfl⟩, .inr ⟨hw', rfl⟩⟩, lexY_of l (k + 1) _ hD' (by rw [put_size]; exact hsz) (by omega) h1 h2 o0 Lq (by rw [show k + 1 + l.length = k + (l.length + 1) by omega]; exact h)⟩
theorem wpQuiet_at {C : World → Prop} {R : Act → Prop} : ∀ (l : List Oper) (a : Act), wpQuiet P ops C R l a → ∃ A, R A ∧ wpQuiet P ops C (fun a' => a' = A) l a
  | [], a, h => ⟨a, h, rfl⟩
  | o :: l, a, h => by
    unfold wpQuiet at h
    by_cases hw : Region.wanted o (yielded ops a.tmps) = true
    · simp only [hw, if_true] at h
      obtain ⟨v, h1, h2⟩ := h
      obtain ⟨A, hR, hA⟩ := wpQuiet_at l _ h2
      refine ⟨A, hR, ?_⟩
      unfold wpQuiet
      simp only [hw, if_true]
      exact ⟨v, h1, hA⟩
    · simp only [hw] at h
      obtain ⟨A, hR, hA⟩ := wpQuiet_at l _ h
      refine ⟨A, hR, ?_⟩
      unfold wpQuiet
      simp only [hw]
      exact hA
/-- A region whose first n operations are quiet, whose next one makes memory beside them, m behind all of these one by one, and the others quiet again. -/
theorem wp_region_made {id : Nat} {Q : Exit → Act → World → Prop} {a : Act} {w : World} {l : List Oper} (n m N : Nat) (o0 : Oper) (hm : P.follows .mixedOrders = true) (hB : lexMidB .any l.toArray (n + 1) m = true)
    (hD : dstsOk N (l.take n) = true) (hN : N ≤ a.tmps.size) (h0 : l[n]? = some o0)
    (h : wpQuiet P l.toArray (isOne w.drew) (fun A => Region.wanted o0 (yielded l.toArray A.tmps) = true ∧ ∃ v w2, (execOp A.eval o0).run P w.drew = .ok (.value v) w2 ∧ wpQuiet P l.toArray (isOne w2) (fun a' => a' = A) (l.take n) a ∧
      wpList P l.toArray (Exit.then (fun b w'' => wpQuiet P l.toArray (fun x => x = w'') (fun b' => Q .normal b' w'') (l.drop (n + 1 + m)) b) Q) ((l.drop (n + 1)).take m) (A.put o0.dst v) w2) (l.take n) a) : (Code.region id l.toArray true).wp P Q a w := by
  obtain ⟨A, ⟨hwa, v, w2, hrun, hq2, hrest⟩, hq1⟩ := wpQuiet_at _ _ h
  simp only [lexMidB, Bool.and_eq_true, decide_eq_true_eq] at hB
  obtain ⟨⟨⟨⟨⟨hsel, hnm⟩, hm1⟩, hs⟩, hc⟩, hlex⟩ := hB
  have hnm' : n + 1 + m ≤ l.length := by simpa using hnm
  have hn : n + 1 < l.toArray.size := by simp; omega
  have htk : l.take (n + 1) = l.take n ++ [o0] := by rw [List.take_add_one, h0]; rfl
  have htn : (l.take n).length = n := by simp; omega
  have htl : (l.take (n + 1)).length = n + 1 := by simp; omega
  have hml : ((l.drop (n + 1)).take m).length = m := by simp; omega
  have hrl : (l.drop (n + 1 + m)).length = l.toArray.size - (n + 1) - m := by simp; omega
  have inv0 : HeadInv .any l.toArray (n + 1) (Array.replicate l.toArray.size false) :=
    ⟨by simp, fun j oj _ hl => (by rw [getD_replicate_false] at hl; cases hl), fun t _ ht => getD_in (by simpa using ht) (getD_replicate_false _ _)⟩
  have hly := lexY_of (w1 := w.drew) (w2 := w2) (i0 := n) (A := A) (N := N) (l.take n) 0 a hD hN (by rw [htn]; omega) hq1 hq2 o0 (fun b => wpList P l.toArray (Exit.then (fun b w'' => wpQuiet P l.toArray (fun x => x = w'') (fun b' => Q .normal b' w'') (l.drop (n + 1 + m)) b) Q) ((l.drop (n + 1)).take m) b w2) ⟨v, .inl ⟨by rw [htn]; omega, hwa, hrun⟩, hrest⟩
  rw [← htk] at hly
  have H := headY_lex (md := .any) (m := m) (g := l.toArray.size - (n + 1) - m) hm1 hsel hs hc hn (l.take (n + 1)) 0 _ a (fun j hj => by
    have hj' : j < n + 1 := by rw [htl] at hj; exact hj
    rw [List.getElem?_take, if_pos hj', Nat.zero_add]; simp) (by simpa using htl) inv0 (fun j hj => by omega) (by rw [htl]; exact hlex) hly
  refine wp_region_any hm ?_
  have := wpAny_of_headY (Q' := Q) (g := m + (l.toArray.size - (n + 1) - m)) (by omega) (fun listed a' hL => hL.2.1 n (by omega)) (fun listed a' hL => by
    have := wpAny_of_mid (md := .any) (Q := Q) (g := l.toArray.size - (n + 1) - m) (e := n + 1 + m) (fun listed b w'' hlf hR => by
      refine wpAny_of_quiet (C := fun x => x = w'') (Q := fun b' => Q .normal b' w'') (fun b' x hx hq => by subst hx; exact hq) _ _ _ _ rfl ?_
      have := wpAnyQ_lex (C := fun x => x = w'') (md := .any) hsel (l.drop (n + 1 + m)) (n + 1 + m) listed b (fun j => by simp [List.getElem?_drop]) (by rw [hrl]; exact hlf) hR
      rwa [hrl] at this) ((l.drop (n + 1)).take m) (n + 1) listed a' w2 (fun j hj => by
        have hj' : j < m := by rw [hml] at hj; exact hj
        rw [List.getElem?_take, if_pos hj', List.getElem?_drop]; simp) (congrArg (n + 1 + ·) hml) (by rw [hml]; exact hL.1) hL.2.2
    rwa [hml] at this) _ _ _ _ (by simp) (by rw [getD_replicate_false]) H
  rw [htl, show n + 1 + (m + (l.toArray.size - (n + 1) - m)) = l.toArray.size by omega] at this
  exact this
end
end Go.Proofs.YtcmjpkfinbakkaaGreatDoor

namespace Go.Proofs.YtcmjpkfinbakkaaGreatDoor
open Go.RowKit Go.ChangeShapes Go.WideShapes
set_option linter.unusedVariables false
set_option maxRecDepth 100000

/-- The cells of a utility at work. -/
def tlC (f : Value) (cwd name : ByteArray) (inn : Value) (st : Int) (o l : Value) : List Value := [f, .string cwd, .string name, inn, .int .i64 st, o, l]
/-- A utility at work: its box at t; what it wrote is s, what it complained of is m, both in rows of the call's own. -/
structure Tool (w : World) (B t : Nat) (f : Value) (cwd name : ByteArray) (inn : Value) (st : Int) (o : Value) (s : Bz) (l : Value) (m : Bz) : Prop where
  blk : w.heap[t]? = some (.cells (tlC f cwd name inn st o l).toArray 98 (0, 0))
  base : B ≤ t
  out : w.ownsRow B 5 1 o s.length (u8s s)
  log : w.ownsRow B 5 1 l m.length (u8s m)
  no : o.ownBlock ≠ some t
  nl : l.ownBlock ≠ some t
  ap : ∀ k, o.ownBlock = some k → l.ownBlock ≠ some k
theorem own_slice {w : World} {B e sz n : Nat} {v : Value} {xs : List Value} (h : w.ownsRow B e sz v n xs) : ∃ a c, v = .slice a n c ∧ n ≤ c := by
  rcases h.2 with ⟨h1, h0⟩ | ⟨b, cap, cur, rfl, h2, h3, h4, _⟩
  · exact ⟨none, 0, by rw [h0]; exact h1, by omega⟩
  · exact ⟨_, cap, rfl, h4⟩
theorem own_lt {w : World} {B e sz n : Nat} {v : Value} {xs : List Value} (h : w.ownsRow B e sz v n xs) {g : Nat} (hg : v.ownBlock = some g) : B ≤ g ∧ g < w.heap.size := h.lt g hg
/-- The bytes that lie behind a. -/
def BytesAt (w : World) (a : Addr) (bs : Bz) : Prop := ∀ j u, (u8s bs)[j]? = some u → w.cell? (a.add j) = some u
/-- append of bytes to an own row. -/
theorem app_u8 {w : World} {B : Nat} {o : Value} {s bs : Bz} (h : w.ownsRow B 5 1 o s.length (u8s s)) {a : Addr} {c : Nat} (hb : BytesAt w a bs) (hs : s.length + bs.length ≤ 1000000) (hB : B ≤ w.heap.size) :
    ∃ o' w', (Builtin.append_ #[41, 41] 41 #[o, .slice (some a) bs.length c]).run Tryz.prog w = .ok o' w' ∧ w'.ownsRow B 5 1 o' (s ++ bs).length (u8s (s ++ bs)) ∧ w.grownBy w' o.ownBlock ∧ (o'.ownBlock = o.ownBlock ∨ o'.ownBlock = some w.heap.size ∨ o'.ownBlock = none) := by
  obtain ⟨i0, hi, hz0, hz1, hz2⟩ := info_parts info5
  obtain ⟨v', w', hrun, r1, r2, r4⟩ := run_append_own (P := Tryz.prog) w B 41 41 5 i0 (.int .u8 0) 1 1 Tryz.underlying41 hi hz0 hz1 hz2 rfl (by decide) o s.length (u8s s) h a bs.length c (u8s bs) (by rw [u8s_len]; omega) hb (u8s_one bs) (by unfold maxLen; omega) (by omega) hB
  refine ⟨v', w', hrun, by rw [u8s_app, List.length_append]; exact r1, r2, ?_⟩
  rcases h.2 with ⟨rfl, h0⟩ | ⟨g, cap, cur, rfl, hbg, hg, hnc, hcm, hcs, htake⟩
  · by_cases hm : bs.length = 0
    · rcases r1.2 with ⟨e, _⟩ | ⟨g', cap', cur', e, _⟩
      · right; right; rw [e]; rfl
      · have hbs : bs = [] := List.eq_nil_of_length_eq_zero hm
        exfalso
        have := r4.2 ⟨rfl, hm⟩
        rw [this] at e; cases e
    · have hr := run_append_nil (P := Tryz.prog) w 41 41 5 i0 (.int .u8 0) Tryz.underlying41 hi hz0 a bs.length c (u8s bs) (by rw [hz1, u8s_len]; omega) hb (by omega) (by omega) (by rw [hz2]; omega)
      rw [hr] at hrun
      injection hrun with e _
      right; left
      rw [← e]; rfl
  · by_cases hroom : s.length + bs.length ≤ cap
    · have hr := run_append_room (P := Tryz.prog) w 41 41 5 i0 Tryz.underlying41 hi g s.length cap cur hg a bs.length c (u8s bs) (by rw [hz1, u8s_len]; omega) hb (u8s_one bs) hroom (by rw [hz1, hcs, u8s_len]; omega)
      rw [hr] at hrun
      injection hrun with e _
      left
      rw [← e]; rfl
    · have holds : ∀ j x, (u8s s)[j]? = some x → w.cell? ((⟨g, 0, none⟩ : Addr).add j) = some x := h.cells (g := g) rfl
      have hr := run_append_grow (P := Tryz.prog) w 41 41 5 i0 (.int .u8 0) Tryz.underlying41 hi hz0 ⟨g, 0, none⟩ s.length cap (u8s s) (by rw [hz1]; exact h.1) holds a bs.length c (u8s bs) (by rw [hz1, u8s_len]; omega) hb (by omega) (by omega) (growslice_fits (by omega) (by rw [hz2]; omega))
      rw [hr] at hrun
      injection hrun with e _
      right; left
      rw [← e]; rfl
def WriteP (B t : Nat) (f : Value) (cwd name : ByteArray) (inn : Value) (st : Int) (o : Value) (s : Bz) (l : Value) (m bs : Bz) (w : World) (e : Ending) (w' : World) : Prop :=
  e = .returned (.tuple #[]) ∧ ∃ o', Tool w' B t f cwd name inn st o' (s ++ bs) l m ∧ Only (fun k => k = t ∨ o.ownBlock = some k) w w'
/-- What lies behind an append and the store of what it gave. -/
theorem Tool.wrote {w W w' : World} {B t : Nat} {f : Value} {cwd name : ByteArray} {inn : Value} {st : Int} {o o' : Value} {s : Bz} {l : Value} {m bs : Bz} (h : Tool w B t f cwd name inn st o s l m) (hW : W.heap = w.heap)
    (r1 : w'.ownsRow B 5 1 o' (s ++ bs).length (u8s (s ++ bs))) (r2 : W.grownBy w' o.ownBlock) (r3 : o'.ownBlock = o.ownBlock ∨ o'.ownBlock = some W.heap.size ∨ o'.ownBlock = none) (hos : W.os = w.os) (htp : W.tape = w.tape) (hou : W.output = w.output) :
    w'.heap[t]? = some (.cells (tlC f cwd name inn st o l).toArray 98 (0, 0)) ∧ Tool (w'.setCell ⟨t, 5, none⟩ o') B t f cwd name inn st o' (s ++ bs) l m ∧ Only (fun k => k = t ∨ o.ownBlock = some k) w (w'.setCell ⟨t, 5, none⟩ o') := by
  have ht : t < w.heap.size := blk_lt h.blk
  have h1 : w'.heap[t]? = some (.cells (tlC f cwd name inn st o l).toArray 98 (0, 0)) := by
    rw [r2.block t (by rw [hW]; exact ht) (fun e => h.no e.symm), hW]; exact h.blk
  have hot : o'.ownBlock ≠ some t := by
    rcases r3 with e | e | e
    · rw [e]; exact h.no
    · rw [e, hW]; intro e; injection e with e; omega
    · rw [e]; intro e; cases e
  refine ⟨h1, ⟨set_of h1 5 o', h.base, row_only r1 fun g hg _ => ?_, row_only h.log fun g hg hl => ?_, hot, h.nl, fun k hk hl => ?_⟩, ?_⟩
  · exact Below.heap_setCell _ _ _ _ (fun e => hot (by rw [hg]; exact congrArg some e))
  · rw [Below.heap_setCell _ _ _ _ (fun e => h.nl (by rw [hg]; exact congrArg some e)), r2.block g (by rw [hW]; exact hl) (fun e => h.ap g e.symm hg), hW]
  · have hkl := (own_lt h.log hl).2
    rcases r3 with e | e | e
    · exact h.ap k (e ▸ hk) hl
    · rw [e, hW] at hk; injection hk with hk; omega
    · rw [e] at hk; cases hk
  · have hO : Only (fun k => k = t ∨ o.ownBlock = some k) w w' := ⟨r2.os.trans hos, r2.tape.trans htp, r2.output.trans hou, by rw [← hW]; exact r2.size, fun i hi hn => by
      rw [r2.block i (by rw [hW]; exact hi) (fun e => hn (.inr e.symm)), hW]⟩
    exact hO.set (.inl (.inl rfl)) 5 o'
set_option maxHeartbeats 8000000 in
theorem write_any (B t : Nat) (f : Value) (cwd name : ByteArray) (inn : Value) (st : Int) (o : Value) (s : Bz) (l : Value) (m bs : Bz) (a : Addr) (c : Nat) (w : World) (h : Tool w B t f cwd name inn st o s l m) (hb : BytesAt w a bs) (hc : bs.length ≤ c) (hs : s.length + bs.length ≤ 65536) (hB : B ≤ w.heap.size) :
    Calls Tryz.prog 102 #[.pointer (some ⟨t, 0, none⟩), .slice (some a) bs.length c] w (WriteP B t f cwd name inn st o s l m bs w) := by
  obtain ⟨Q', hQ⟩ : ∃ Q', WriteP B t f cwd name inn st o s l m bs w = Q' := ⟨_, rfl⟩
  rw [hQ]
  obtain ⟨o', w', hrun, r1, r2, r3⟩ := app_u8 (w := w.drew) (c := c) (own_below h.out ((Below.refl _ _).drew)) (bs := bs) (a := a) (fun j u hj => hb j u hj) (by omega) hB
  obtain ⟨h1, h2, h3⟩ := h.wrote (W := w.drew) rfl r1 r2 r3 rfl rfl rfl
  obtain ⟨oa, oc, rfl, hoc⟩ := own_slice h.out
  obtain ⟨ob, od, rfl, _⟩ := own_slice r1
  have p5 : w.cell? ⟨t, 5, none⟩ = some (.slice oa s.length oc) := cell_of h.blk 5
  have q5 : w'.cell? ⟨t, 5, none⟩ = some (.slice oa s.length oc) := cell_of h1 5
  have e5 := free_of h1 5
  have hmin : min (bs.length : Int) (65536 - (s.length : Int)) = (bs.length : Int) := by omega
  have hsub : IntKind.i64.wrap (65536 - (s.length : Int)) = 65536 - (s.length : Int) := IntWalk.i64_in _ (by omega)
  have HRUN := Lib.hid hrun
  have H2 : Hid (Q' (.returned (.tuple #[])) (w'.setCell ⟨t, 5, none⟩ (.slice ob (s ++ bs).length od))) := by rw [← hQ]; exact ⟨rfl, _, h2, h3⟩
  have hcI : (bs.length : Int) ≤ (c : Int) := by omega
  have hb0 : (0 : Int) ≤ (bs.length : Int) := by omega
  clear hrun r1 r2 r3 h1 h2 h3 h hb hs hQ hoc
  generalize (s ++ bs).length = cn at *
  generalize bs.length = bn at *
  generalize s.length = sn at *
  go_enter Tryz.func102, Tryz.ntmps102
  go_wp2_with fail
  refine wp_region_made 12 4 28 _ (by kernel_rfl) (by kernel_rfl) (by kernel_rfl) (Nat.le_refl 28) rfl ?_
  have p5d : w.drew.cell? ⟨t, 5, none⟩ = some (.slice oa sn oc) := p5
  generalize w.drew = wz at p5d HRUN ⊢
  have r5 : ∀ b : One wz, b.v.cell? ⟨t, 5, none⟩ = some (.slice oa sn oc) := fun b => by rw [b.h]; exact p5d
  clear p5 p5d
  unfold isOne
  simp only [List.take_succ_cons, List.take_zero, List.drop_succ_cons, List.drop_zero]
  repeat (go_big_quiet_step (fail))
  refine wpQuiet_nil ?_
  refine ⟨by kernel_rfl, .slice ob cn od, w', ?_, ?_, ?_⟩
  · have hR := HRUN.out
    simp [execOp, resolve, invoke, builtin, Act.eval, hR, Result.andThen]
  · clear r5
    have r5 : ∀ b : One w', b.v.cell? ⟨t, 5, none⟩ = some (.slice oa sn oc) := fun b => by rw [b.h]; exact q5
    repeat (go_big_quiet_step (fail))
    exact wpQuiet_nil rfl
  · clear r5
    go_wp2_with fail
    refine wpQuiet_nil ?_
    go_end0
    exact H2.out
end Go.Proofs.YtcmjpkfinbakkaaGreatDoor

namespace Go.Proofs
open Go.Shelf
def Tryz.laysSlK4_ren : Go.Shelf.Ren := ⟨fun | 4 => 65 | n => n, fun | 22 => 41 | 4 => 4 | 5 => 5 | n => n, fun | n => n⟩
theorem Tryz.laysSlK4 : Go.Proofs.SlLaysK.n4 Tryz.prog Tryz.laysSlK4_ren := {
  mixed := by kernel_rfl
  f4 := Tryz.func65.trans (congrArg some (by kernel_rfl))
  t4 := Tryz.underlying4
  a4 := Tryz.isAgg4
  z4 := Tryz.sizeOf4
  v4 := Tryz.zeroValue4
  t22 := Tryz.underlying41
  a22 := Tryz.isAgg41
  z22 := Tryz.sizeOf41
  v22 := Tryz.zeroValue41
  t5 := Tryz.underlying5
  i5 := by kernel_rfl }
open Go.RowKit Go.Lib in
theorem Tryz.bytes_Clone_at (a : Addr) (n c : Nat) (xs : List Int) (w : World) (hx : xs.length = n) (hbig : n ≤ 140737488355328) (hc : ∀ i, i < n → w.cell? (a.add i) = some (.int .u8 (xs.getD i 0))) :
    Calls Tryz.prog 65 #[.slice (some a) n c] w fun e w' => ∃ v', e = .returned v' ∧ w'.ownsRow w.heap.size 5 1 v' n (xs.map (Value.int .u8)) ∧ v' ≠ .slice none 0 0 ∧ Below w.heap.size w w' := Any.bytes_Clone_at Tryz.laysSlK4 a n c xs w hx hbig hc
open Go.RowKit Go.Lib in
theorem Tryz.bytes_Clone_nil (n c : Nat) (w : World) :
    Calls Tryz.prog 65 #[.slice none n c] w fun e w' => e = .returned (.slice none 0 0) ∧ w' = w := Any.bytes_Clone_nil Tryz.laysSlK4 n c w
end Go.Proofs
