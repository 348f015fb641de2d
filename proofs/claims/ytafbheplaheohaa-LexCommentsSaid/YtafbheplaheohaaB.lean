import Derived.Test.YtafbheplaheohaaRows
import Derived.Test.YtafbheplaheohaaMB
import Derived.WalkKit
import Derived.WalkSpells
import Derived.WalkLawsBesides
import Derived.RegionTactic
import Derived.Lib.Hide
import Derived.Lib.ConvBytes
import Derived.Lib.AppendStr
import Derived.Deep.QuietTactic
import Derived.Deep.LoopGhost
import Derived.BigQuiet
import Derived.WalkMore
import Derived.Handy
import Derived.Laws.OwnMore
import Derived.Laws.AppendOwn
import Derived.Laws.AppendOwnNone
import Derived.Deep.AppendLies
import Derived.Deep.AppendSrc
import Derived.Deep.Onto
import Derived.BigFrame
import Derived.ChangeArms
import Derived.Carry
import Derived.StillTail
import Derived.Deep.Quiet
namespace Go.Proofs.Ytafbheplaheohaa
open Go.RowKit
set_option linter.unusedVariables false

/-- Of what was there nothing but the blocks of S has turned. -/
structure Only (S : Nat → Prop) (w w' : World) : Prop where
  os : w'.os = w.os
  tape : w'.tape = w.tape
  output : w'.output = w.output
  size : w.heap.size ≤ w'.heap.size
  block : ∀ k, k < w.heap.size → ¬ S k → w'.heap[k]? = w.heap[k]?
theorem Only.refl (S : Nat → Prop) (w : World) : Only S w w := ⟨rfl, rfl, rfl, Nat.le_refl _, fun _ _ _ => rfl⟩
theorem Only.trans {S S' T : Nat → Prop} {a b c : World} (h : Only S a b) (k : Only S' b c) (hS : ∀ i, S i → T i) (hS' : ∀ i, i < a.heap.size → S' i → T i) : Only T a c :=
  ⟨k.os.trans h.os, k.tape.trans h.tape, k.output.trans h.output, Nat.le_trans h.size k.size, fun i hi hn =>
    (k.block i (Nat.lt_of_lt_of_le hi h.size) (fun e => hn (hS' i hi e))).trans (h.block i hi (fun e => hn (hS i e)))⟩
theorem Only.mono {S T : Nat → Prop} {a b : World} (h : Only S a b) (hS : ∀ i, S i → T i) : Only T a b := ⟨h.os, h.tape, h.output, h.size, fun i hi hn => h.block i hi (fun e => hn (hS i e))⟩
theorem Only.of_below {S : Nat → Prop} {a b : World} (h : Below a.heap.size a b) : Only S a b := ⟨h.os, h.tape, h.output, h.size, fun i hi _ => h.block i hi⟩
theorem Only.of_grown {S : Nat → Prop} {a b : World} {row : Option Nat} (h : a.grownBy b row) (hr : ∀ k, row = some k → S k) : Only S a b :=
  ⟨h.os, h.tape, h.output, h.size, fun i hi hn => h.block i hi (fun e => hn (hr i e.symm))⟩
theorem Only.below {S : Nat → Prop} {a b : World} {B : Nat} (h : Only S a b) (hS : ∀ k, S k → B ≤ k) (hB : B ≤ a.heap.size) : Below B a b :=
  ⟨h.os, h.tape, h.output, h.size, fun i hi => h.block i (by omega) (fun e => by have := hS i e; omega)⟩
theorem Only.set {S : Nat → Prop} {a w : World} (h : Only S a w) {g : Nat} (hg : S g ∨ a.heap.size ≤ g) (i : Nat) (u : Value) : Only S a (w.setCell ⟨g, i, none⟩ u) :=
  ⟨h.os, h.tape, h.output, by simpa using h.size, fun k hk hn => (Below.heap_setCell _ _ _ _ (by intro e; have e : k = g := e; subst e; rcases hg with e | e; exact hn e; omega)).trans (h.block k hk hn)⟩
theorem below_drewN {a w : World} (h : Below a.heap.size a w) (n : Nat) : Below a.heap.size a (w.drewN n) := ⟨h.os, h.tape, h.output, h.size, h.block⟩
theorem drew_below (w : World) (n : Nat) : Below w.heap.size w (w.drewN n) := below_drewN (Below.refl _ w) n
theorem addn (b off k : Nat) : (⟨b, off, none⟩ : Addr).add k = ⟨b, off + k, none⟩ := by unfold Addr.add; split <;> simp_all
theorem wpList_run_append {P : Program} (w : World) {ops : Array Oper} {rest : List Oper} {o : Oper} {a : Act} {Q : Exit → Act → World → Prop} (hgd : o.guard = none) (d s : Operand) (t t' : TypeId)
    (ho : o.op = .call { callee := .builtin .append, args := #[d, s], argTypes := #[t, t'] }) (v u : Value) (hd : a.eval d = v) (hs : a.eval s = u) {v' : Value} {w' : World}
    (hr : (Builtin.append_ #[t, t'] o.type #[v, u]).run P w = .ok v' w') (h : wpList P ops Q rest (a.put o.dst v') w') : wpList P ops Q (o :: rest) a w := by
  refine wpList_plain hgd fun K hK => ?_
  unfold Oper.wp
  simp [execOp, ho, resolve, invoke, builtin, hd, hs, hr, Result.andThen]
  exact hK _ _ h
section
variable {w : World} {a : Nat} {cs : List Value} {ty : TypeId}
theorem cell_of (hb : w.heap[a]? = some (.cells cs.toArray ty (0, 0))) (i : Nat) : w.cell? ⟨a, i, none⟩ = cs[i]? := by
  simp only [World.cell?, hb]; simp
theorem free_of (hb : w.heap[a]? = some (.cells cs.toArray ty (0, 0))) (i : Nat) : w.frozen? ⟨a, i, none⟩ = false := by
  simp [World.frozen?, hb]
theorem set_of (hb : w.heap[a]? = some (.cells cs.toArray ty (0, 0))) (i : Nat) (v : Value) : (w.setCell ⟨a, i, none⟩ v).heap[a]? = some (.cells (cs.set i v).toArray ty (0, 0)) := by
  have h1 : (w.heap.modify a fun | .cells c elem frozen => Obj.cells (if (none : Option Nat).isSome then c else c.setIfInBounds i v) elem frozen | o => o)[a]? = some (.cells (cs.set i v).toArray ty (0, 0)) := by
    rw [Array.getElem?_modify, if_pos rfl, hb]; simp
  exact h1
theorem blk_lt (hb : w.heap[a]? = some (.cells cs.toArray ty (0, 0))) : a < w.heap.size := (Array.getElem?_eq_some_iff.1 hb).1
end
theorem cell_lt {w : World} {p : Addr} {v : Value} (h : w.cell? p = some v) : p.block < w.heap.size := World.block_lt_of_cell? w _ h
theorem dl (s : ByteArray) : s.data.toList.length = s.size := Array.length_toList
theorem isE_of {t : ByteArray} (h : t.data.toList = []) : t.toList.isEmpty = true := by rw [Lib.toList_data, h]; rfl
theorem isE_ne {t : ByteArray} (h : t.data.toList ≠ []) : t.toList.isEmpty = false := by
  rw [Lib.toList_data]
  cases h' : t.data.toList with
  | nil => exact absurd h' h
  | cons a t => rfl
theorem ba_ext {a b : ByteArray} (h : a.data.toList = b.data.toList) : a = b := ByteArray.ext (Array.toList_inj.1 h)
theorem mk_data (s : ByteArray) : (⟨s.data.toList.toArray⟩ : ByteArray) = s := ba_ext rfl
theorem sz_mk (l : Bz) : (⟨l.toArray⟩ : ByteArray).size = l.length := by simp [ByteArray.size]
theorem drop_one {t : ByteArray} {k : Nat} (h : k < t.size) : t.data.toList.drop k = (t[k]'h) :: t.data.toList.drop (k + 1) := by
  rw [List.drop_eq_getElem_cons (by rw [dl]; exact h)]; rfl
theorem byte_eq (c d : UInt8) : ((c.toNat : Int) == (d.toNat : Int)) = (c == d) := by
  rw [Bool.eq_iff_iff]
  simp only [beq_iff_eq]
  constructor
  · intro h; exact UInt8.toNat_inj.1 (by omega)
  · intro h; rw [h]
theorem ext_dt {t : ByteArray} {a b : Nat} (h : a ≤ b) (hb : b ≤ t.size) : (t.extract a b).data.toList = (t.data.toList.take b).drop a ∧ (t.extract a b).size = b - a := by
  refine ⟨?_, by simp; omega⟩
  simp [ByteArray.data_extract, List.drop_take]
theorem ext_end {t : ByteArray} {a : Nat} (h : a ≤ t.size) : (t.extract a t.size).data.toList = t.data.toList.drop a ∧ (t.extract a t.size).size = t.size - a := by
  have := ext_dt (t := t) (a := a) (b := t.size) h (Nat.le_refl _)
  rw [List.take_of_length_le (by rw [dl]; exact Nat.le_refl _)] at this
  exact this
theorem str_eq (a b : ByteArray) : (a.toList == b.toList) = (a.data.toList == b.data.toList) := by rw [Lib.toList_data, Lib.toList_data]
def intOf : Value → Int | .int _ n => n | _ => 0

/-- A part, as it lies. -/
structure Pt where
  k : Int
  t : ByteArray
  n : ByteArray
  o : ByteArray
  wv : Value
  q : Bool
def Pt.cs (p : Pt) : List Value := [.int .i64 p.k, .string p.t, .string p.n, .string p.o, p.wv, .bool p.q]
def Pt.is (p : Pt) (x : Prt) : Prop := p.k = (x.kind : Int) ∧ p.t.data.toList = x.text ∧ p.n.data.toList = x.name ∧ p.o.data.toList = x.op ∧ p.q = x.quoted
def pcs (L : List Pt) : List Value := L.flatMap Pt.cs
theorem pcs_len : ∀ L : List Pt, (pcs L).length = L.length * 6
  | [] => rfl
  | p :: L => by
    show (p.cs ++ pcs L).length = _
    rw [List.length_append, pcs_len L]; simp [Pt.cs]; omega
theorem pcs_at : ∀ (L : List Pt) (i q : Nat) (h : i < L.length), q < 6 → (pcs L)[i * 6 + q]? = L[i].cs[q]?
  | [], _, _, h, _ => absurd h (by simp)
  | p :: L, 0, q, _, hq => by
    show (p.cs ++ pcs L)[0 * 6 + q]? = _
    rw [Nat.zero_mul, Nat.zero_add, List.getElem?_append_left (by simpa [Pt.cs] using hq)]; rfl
  | p :: L, i + 1, q, h, hq => by
    show (p.cs ++ pcs L)[(i + 1) * 6 + q]? = _
    have hl : p.cs.length = 6 := rfl
    rw [List.getElem?_append_right (by rw [hl]; omega), hl, show (i + 1) * 6 + q - 6 = i * 6 + q by omega]
    exact pcs_at L i q (by simpa using h) hq
theorem pcs_app (L M : List Pt) : pcs (L ++ M) = pcs L ++ pcs M := by simp [pcs]
/-- The parts l, to be read behind v, in blocks of F. -/
inductive Wd (w : World) (F : Nat → Prop) : Value → List Prt → Prop
  | nil (c : Nat) : Wd w F (.slice none 0 c) []
  | row (g off c : Nat) (cur : Array Value) (L : List Pt) (l : List Prt) (hF : F g) (hb : w.heap[g]? = some (.cells cur 39 (0, 0))) (hl : L.length = l.length)
      (hc : ∀ i (h : i < L.length) (q : Nat), q < 6 → cur[off + i * 6 + q]? = L[i].cs[q]?) (hs : ∀ i (h : i < L.length) (h' : i < l.length), L[i].is l[i])
      (hw : ∀ i (h : i < L.length) (h' : i < l.length), Wd w F L[i].wv l[i].word) : Wd w F (.slice (some ⟨g, off, none⟩) l.length c) l
theorem Wd.keep {w w' : World} {F F' : Nat → Prop} (hk : ∀ g cur, F g → w.heap[g]? = some (.cells cur 39 (0, 0)) → F' g ∧ w'.heap[g]? = some (.cells cur 39 (0, 0))) : ∀ {v : Value} {l : List Prt}, Wd w F v l → Wd w' F' v l := by
  intro v l h
  induction h with
  | nil c => exact .nil c
  | row g off c cur L l hF hb hl hc hs hw ih => exact .row g off c cur L l (hk g cur hF hb).1 (hk g cur hF hb).2 hl hc hs ih
theorem Wd.form {w : World} {F : Nat → Prop} {v : Value} {l : List Prt} (h : Wd w F v l) : ∃ a c, v = .slice a l.length c := by
  cases h with
  | nil c => exact ⟨none, c, rfl⟩
  | row g off c cur L l hF hb hl hc hs hw => exact ⟨_, c, rfl⟩
theorem Wd.mono {w : World} {F F' : Nat → Prop} {v : Value} {l : List Prt} (h : Wd w F v l) (hF : ∀ g, F g → F' g) : Wd w F' v l := h.keep fun g cur h1 h2 => ⟨hF g h1, h2⟩
theorem Wd.under {w w' : World} {F : Nat → Prop} {v : Value} {l : List Prt} (h : Wd w F v l) (hb : Below w.heap.size w w') : Wd w' F v l :=
  h.keep fun g cur h1 h2 => ⟨h1, (hb.block g (Array.getElem?_eq_some_iff.1 h2).1).trans h2⟩
theorem Wd.only {S : Nat → Prop} {w w' : World} {F : Nat → Prop} {v : Value} {l : List Prt} (h : Wd w F v l) (hO : Only S w w') (hn : ∀ g cur, F g → w.heap[g]? = some (.cells cur 39 (0, 0)) → ¬ S g) : Wd w' F v l :=
  h.keep fun g cur h1 h2 => ⟨h1, (hO.block g (Array.getElem?_eq_some_iff.1 h2).1 (hn g cur h1 h2)).trans h2⟩
/-- The parts l, in a row of the call's own. -/
structure PRow (w : World) (B : Nat) (v : Value) (l : List Prt) (L : List Pt) : Prop where
  own : w.ownsRow B 39 6 v L.length (pcs L)
  len : L.length = l.length
  is : ∀ i (h : i < L.length) (h' : i < l.length), L[i].is l[i]
  word : ∀ i (h : i < L.length) (h' : i < l.length), Wd w (fun k => B ≤ k ∧ v.ownBlock ≠ some k) L[i].wv l[i].word
theorem PRow.nil (w : World) (B : Nat) : PRow w B (.slice none 0 0) [] [] := ⟨World.ownsRow_nil _ _ _ _, rfl, fun i h => absurd h (by simp), fun i h => absurd h (by simp)⟩
theorem own_keep {w w' : World} {B e sz n : Nat} {v : Value} {xs : List Value} (h : w.ownsRow B e sz v n xs) (hk : ∀ (g : Nat) (c : Array Value), v.ownBlock = some g → w.heap[g]? = some (Obj.cells c e) → w'.heap[g]? = some (Obj.cells c e)) : w'.ownsRow B e sz v n xs := by
  refine ⟨h.1, ?_⟩
  rcases h.2 with h1 | ⟨b, cap, cur, rfl, h2, h3, h4⟩
  · exact .inl h1
  · exact .inr ⟨b, cap, cur, rfl, h2, hk _ _ rfl h3, h4⟩
theorem PRow.keep {w w' : World} {B : Nat} {v : Value} {l : List Prt} {L : List Pt} (h : PRow w B v l L) (hk : ∀ (g : Nat) (c : Array Value), B ≤ g → w.heap[g]? = some (Obj.cells c 39 (0, 0)) → w'.heap[g]? = some (Obj.cells c 39 (0, 0))) : PRow w' B v l L :=
  ⟨own_keep h.own fun g c hg h1 => hk g c (h.own.lt g hg).1 h1, h.len, h.is, fun i h1 h2 => (h.word i h1 h2).keep fun g cur h3 h4 => ⟨h3, hk g cur h3.1 h4⟩⟩
theorem PRow.wd {w : World} {B : Nat} {v : Value} {l : List Prt} {L : List Pt} (h : PRow w B v l L) : Wd w (fun k => B ≤ k) v l := by
  rcases h.own.2 with ⟨rfl, h0⟩ | ⟨g, cap, cur, e, h2, h3, h4, h5, h6, h7⟩
  · have : l = [] := List.eq_nil_of_length_eq_zero (by rw [← h.len]; exact h0)
    rw [this]
    exact .nil 0
  · have e2 : v = .slice (some ⟨g, 0, none⟩) l.length cap := by rw [e, h.len]
    rw [e2]
    refine .row g 0 cap cur L l h2 h3 h.len (fun i hi q hq => ?_) h.is (fun i h1 h2 => (h.word i h1 h2).mono fun g hg => hg.1)
    rw [Nat.zero_add, ← pcs_at L i q hi hq, ← h7]
    rw [List.getElem?_take, if_pos (by omega)]
    simp
end Go.Proofs.Ytafbheplaheohaa

namespace Go.Proofs.Ytafbheplaheohaa
open Go
set_option linter.unusedVariables false

section
variable {P : Program} {ops : Array Oper} {md : Region.Mode} {F : Array Bool → World}
/-- What stands listed has all that it waits for. -/
structure Clo (md : Region.Mode) (ops : Array Oper) (listed : Array Bool) : Prop where
  size : listed.size = ops.size
  closed : ∀ j oj, ops[j]? = some oj → listed.getD j false = true → ∀ e ∈ oj.after, Region.binds md e = true → listed.getD e.on false = true
theorem Clo.set {i : Nat} {listed : Array Bool} (inv : Clo md ops listed) (hi : i ∈ Region.ready md ops listed) : Clo md ops (listed.setIfInBounds i true) := by
  obtain ⟨_, oi, hoi, hall⟩ := mem_ready.1 hi
  refine ⟨by simp [inv.size], fun j oj hj hl e he hb => ?_⟩
  by_cases hij : i = j
  · subst hij
    have : oj = oi := Option.some.inj (hj.symm.trans hoi)
    subst this
    exact getD_set_true (hall e he hb)
  · rw [getD_set_ne false hij] at hl
    exact getD_set_true (inv.closed j oj hj hl e he hb)
/-- What waits for an operation that may come next has not come. -/
theorem Clo.waits {i j : Nat} {listed : Array Bool} (inv : Clo md ops listed) (hi : i ∈ Region.ready md ops listed) (hw : Region.waitsFor md ops j i = true) : listed.getD j false = false := by
  obtain ⟨oj, hoj, e, he, hb, hon⟩ := Region.waitsFor_spec hw
  cases hl : listed.getD j false with
  | false => rfl
  | true =>
    have h2 := inv.closed j oj hoj hl e he hb
    have h3 := (mem_ready.1 hi).1
    rw [hon, getD_both h3] at h2
    cases h2
theorem Clo.waits2 {i k j : Nat} {listed : Array Bool} (inv : Clo md ops listed) (hi : i ∈ Region.ready md ops listed) (h1 : Region.waitsFor md ops k i = true) (h2 : Region.waitsFor md ops j k = true) : listed.getD j false = false := by
  have h3 := inv.waits hi h1
  obtain ⟨oj, hoj, e, he, hb, hon⟩ := Region.waitsFor_spec h2
  cases hl : listed.getD j false with
  | false => rfl
  | true =>
    have h4 := inv.closed j oj hoj hl e he hb
    rw [hon, h3] at h4
    cases h4
theorem Clo.self {i : Nat} {listed : Array Bool} (hi : i ∈ Region.ready md ops listed) : listed.getD i false = false := getD_both (mem_ready.1 hi).1
/-- What it waits for has come. -/
theorem Clo.came {i j : Nat} {listed : Array Bool} (hi : i ∈ Region.ready md ops listed) (hw : Region.waitsFor md ops i j = true) : listed.getD j false = true := by
  obtain ⟨oi, hoi, e, he, hb, hon⟩ := Region.waitsFor_spec hw
  obtain ⟨_, o, ho, hall⟩ := mem_ready.1 hi
  have : o = oi := Option.some.inj (ho.symm.trans hoi)
  subst this
  rw [← hon]; exact hall e he hb
def GoesR (P : Program) (v : Value) (w' : World) : Result Next → Prop
  | .ok (.value u) x => u = v ∧ x = w'
  | .ok .skip x => v = undef ∧ x = w'
  | .ok (.enter f args) x => Calls P f args x fun e y => e = .returned v ∧ y = w'
  | _ => False
def Goes (P : Program) (o : Oper) (a : Act) (v : Value) (w w' : World) : Prop := GoesR P v w' ((execOp a.eval o).run P w)
/-- Operation i in state a: in whatever world it comes. -/
def stepF (P : Program) (md : Region.Mode) (ops : Array Oper) (F : Array Bool → World) (i : Nat) (o : Oper) (v : Value) (a : Act) : Prop :=
  Region.wanted o (yielded ops a.tmps) = true ∧ ∀ listed, Clo md ops listed → i ∈ Region.ready md ops listed → Goes P o a v (F listed) (F (listed.setIfInBounds i true))
theorem stepF.of_same {i : Nat} {o : Oper} {v : Value} {a a' : Act} (hy : stepF P md ops F i o v a) (he : execOp a'.eval o = execOp a.eval o)
    (hw : Region.wanted o (yielded ops a'.tmps) = Region.wanted o (yielded ops a.tmps)) : stepF P md ops F i o v a' := by
  obtain ⟨h1, h2⟩ := hy
  refine ⟨by rw [hw]; exact h1, fun listed h3 h4 => ?_⟩
  unfold Goes
  rw [he]
  exact h2 listed h3 h4
def runF (P : Program) (md : Region.Mode) (ops : Array Oper) (F : Array Bool → World) (Lq : Act → Prop) : Nat → Array Bool → Act → Prop
  | 0, listed, a => Region.ready md ops listed = [] ∧ Lq a
  | f + 1, listed, a =>
    Region.ready md ops listed ≠ [] ∧ ∀ i ∈ Region.ready md ops listed, ∃ o v, ops[i]? = some o ∧ stepF P md ops F i o v a ∧ runF P md ops F Lq f (listed.setIfInBounds i true) (a.put o.dst v)
theorem wpAny_of_runF {Lq : Act → Prop} {Q : Exit → Act → World → Prop} (hL : ∀ listed a, Clo md ops listed → Region.ready md ops listed = [] → Lq a → Q .normal a (F listed)) :
    ∀ (f : Nat) (listed : Array Bool) (a : Act), Clo md ops listed → runF P md ops F Lq f listed a → wpAny P md ops Q f listed a (F listed)
  | 0, listed, a, inv, h => ⟨h.1, hL listed a inv h.1 h.2⟩
  | f + 1, listed, a, inv, h => by
    refine ⟨fun h0 => absurd h0 h.1, fun i hi => ?_⟩
    obtain ⟨o, v, ho, hy, hk⟩ := h.2 i hi
    have ih := wpAny_of_runF hL f (listed.setIfInBounds i true) (a.put o.dst v) (inv.set hi) hk
    unfold wpOp
    simp only [ho, hy.1, if_true]
    refine .inl ?_
    unfold Oper.wp
    have h1 := hy.2 listed inv hi
    unfold Goes at h1
    generalize (execOp a.eval o).run P (F listed) = r at h1 ⊢
    cases r with
    | ok n w' =>
      cases n <;> simp only [GoesR] at h1 <;> simp only [Oper.upon]
      case value u => obtain ⟨rfl, rfl⟩ := h1; exact ih
      case skip => obtain ⟨rfl, rfl⟩ := h1; exact ih
      case enter f' args => exact h1.mono fun e w'' ⟨he, hw⟩ => by subst he; subst hw; exact ih
    | halt x w' => cases h1
theorem runF_first {i : Nat} {oi : Oper} {v : Value} {Lq : Act → Prop} (hi : ops[i]? = some oi) (hsel : ∀ (j : Nat) (o : Oper) cs b, ops[j]? = some o → o.op ≠ .select cs b) :
    ∀ (f : Nat) (listed : Array Bool) (a : Act), Clo md ops listed →
      (∀ j oj, ops[j]? = some oj → j ≠ i → listed.getD j true = false → (∀ e ∈ oj.after, Region.binds md e = true → e.on ≠ i) → oi.apart ops oj = true) →
      i ∈ Region.ready md ops listed → stepF P md ops F i oi v a →
      runF P md ops F Lq f (listed.setIfInBounds i true) (a.put oi.dst v) → runF P md ops F Lq (f + 1) listed a := by
  intro f
  induction f with
  | zero =>
    intro listed a inv _ hr hy H
    refine ⟨fun h => (by rw [h] at hr; cases hr), fun j hj => ?_⟩
    by_cases hji : j = i
    · subst hji; exact ⟨oi, v, hi, hy, H⟩
    · have h1 := ready_mono hj hji
      rw [H.1] at h1
      cases h1
  | succ f ih =>
    intro listed a inv hfree hr hy H
    refine ⟨fun h => (by rw [h] at hr; cases hr), fun j hj => ?_⟩
    by_cases hji : j = i
    · subst hji; exact ⟨oi, v, hi, hy, H⟩
    · obtain ⟨oj, u, hoj, hyj, hrest⟩ := H.2 j (ready_mono hj hji)
      obtain ⟨hjun, oj', hoj', hall⟩ := mem_ready.1 hj
      obtain rfl : oj' = oj := Option.some.inj (hoj'.symm.trans hoj)
      have hun := (mem_ready.1 hr).1
      have hnot : ∀ e ∈ oj'.after, Region.binds md e = true → e.on ≠ i := fun e he hb heq => by
        have h5 := hall e he hb
        rw [heq, getD_both hun] at h5
        cases h5
      obtain ⟨h1, h2, h3⟩ := Oper.apart_spec (hfree j oj' hoj hji hjun hnot)
      refine ⟨oj', u, hoj, hyj.of_same (execOp_put oj' (fun cs b => hsel j oj' cs b hoj) a oi.dst v h1).symm (wanted_put oj' a oi.dst v h1).symm, ?_⟩
      refine ih (listed.setIfInBounds j true) (a.put oj'.dst u) (inv.set hj) (fun k ok hk hki hun' hno => ?_) (ready_mono hr (Ne.symm hji)) (hy.of_same (execOp_put oi (fun cs b => hsel i oi cs b hi) a oj'.dst u h3) (wanted_put oi a oj'.dst u h3)) ?_
      · refine hfree k ok hk hki ?_ hno
        by_cases hjk : j = k
        · subst hjk; exact hjun
        · rwa [getD_set_ne true hjk] at hun'
      · rw [Array.setIfInBounds_comm _ _ hji, ← Act.put_comm a v u h2]
        exact hrest
/-- The lexical order. -/
def lexF (P : Program) (md : Region.Mode) (ops : Array Oper) (F : Array Bool → World) (Lq : Act → Prop) : List Oper → Nat → Act → Prop
  | [], _, a => Lq a
  | o :: l, k, a => ∃ v, stepF P md ops F k o v a ∧ lexF P md ops F Lq l (k + 1) (a.put o.dst v)
def flowB (md : Region.Mode) (ops : Array Oper) : Nat → Nat → Array Bool → Bool
  | 0, _, listed => (Region.ready md ops listed).isEmpty
  | f + 1, k, listed => (Region.ready md ops listed).contains k && Region.free md ops listed k && flowB md ops f (k + 1) (listed.setIfInBounds k true)
theorem runF_lex {Lq : Act → Prop} (hsel : Region.noSelect ops = true) : ∀ (l : List Oper) (k : Nat) (listed : Array Bool) (a : Act), (∀ j, j < l.length → l[j]? = ops[k + j]?) → Clo md ops listed →
    flowB md ops l.length k listed = true → lexF P md ops F Lq l k a → runF P md ops F Lq l.length listed a
  | [], k, listed, a, _, inv, hB, h => ⟨by simpa [flowB] using hB, h⟩
  | o :: l, k, listed, a, hl, inv, hB, h => by
    have h0 : ops[k]? = some o := by simpa using (hl 0 (by simp)).symm
    simp only [List.length_cons, flowB, Bool.and_eq_true] at hB
    obtain ⟨⟨hr, hf⟩, hB'⟩ := hB
    have hr' : k ∈ Region.ready md ops listed := by simpa using hr
    obtain ⟨v, hy, hK⟩ := h
    exact runF_first h0 (Region.noSelect_spec hsel) l.length listed a inv (Region.free_spec h0 hf) hr' hy
      (runF_lex hsel l (k + 1) _ _ (fun j hj => by have := hl (j + 1) (by simp; omega); simpa [Nat.add_assoc, Nat.add_comm 1 j] using this) (inv.set hr') hB' hK)
/-- A region in any order, if every operation does the same wherever it comes: the world is told by what has come. -/
theorem wp_region_flow {id : Nat} {Q : Exit → Act → World → Prop} {a : Act} {w : World} {l : List Oper} (F : Array Bool → World) (W' : World) (hm : P.follows .mixedOrders = true)
    (hB : (Region.noSelect l.toArray && flowB .any l.toArray l.length 0 (Array.replicate l.toArray.size false)) = true) (h0 : F (Array.replicate l.toArray.size false) = { w with drawn := w.drawn + 1 })
    (hE : ∀ listed, Clo .any l.toArray listed → Region.ready .any l.toArray listed = [] → F listed = W')
    (h : lexF P .any l.toArray F (fun a' => Q .normal a' W') l 0 a) : (Code.region id l.toArray true).wp P Q a w := by
  simp only [Bool.and_eq_true] at hB
  have inv0 : Clo .any l.toArray (Array.replicate l.toArray.size false) := ⟨by simp, fun j oj _ hl => (by rw [getD_replicate_false] at hl; cases hl)⟩
  refine wp_region_any hm ?_
  have := wpAny_of_runF (P := P) (F := F) (Q := Q) (Lq := fun a' => Q .normal a' W') (fun listed a' hc hr hq => by rw [hE listed hc hr]; exact hq) l.length _ a inv0 (runF_lex hB.1 l 0 _ a (fun j hj => by simp) inv0 hB.2 h)
  rw [h0] at this
  simpa using this
/-- At the end all has come. -/
theorem Clo.all {listed : Array Bool} (inv : Clo md ops listed) (hr : Region.ready md ops listed = []) (hacyc : ∀ j oj, ops[j]? = some oj → ∀ e ∈ oj.after, Region.binds md e = true → e.on < j) : ∀ (j : Nat), j < ops.size → listed.getD j false = true := by
  intro j
  induction j using Nat.strongRecOn with
  | _ j ih =>
    intro hj
    cases hl : listed.getD j false with
    | true => rfl
    | false =>
      exfalso
      have : j ∈ Region.ready md ops listed := mem_ready.2 ⟨getD_in (by rw [inv.size]; exact hj) hl, ops[j], by simp [hj], fun e he hb => ih _ (hacyc j _ (by simp [hj]) e he hb) (Nat.lt_trans (hacyc j _ (by simp [hj]) e he hb) hj)⟩
      rw [hr] at this
      cases this
/-- Each operation has a slot of its own. -/
def slotsOk (N : Nat) : List Oper → Bool
  | [] => true
  | o :: l => (match o.dst with | some d => decide (d < N) && l.all (fun p => p.dst != some d) | none => false) && o.guard.isNone && slotsOk N l
theorem putSize (a : Act) (d : Option Tmp) (v : Value) : (a.put d v).tmps.size = a.tmps.size := by
  cases d with
  | none => rfl
  | some d => simp [Act.put]
theorem quietKeeps {C : World → Prop} {A : Act} {d : Nat} : ∀ (l : List Oper) (a : Act), wpQuiet P ops C (fun a' => a' = A) l a → (l.all fun p => p.dst != some d) = true → A.tmps[d]? = a.tmps[d]?
  | [], a, h, _ => by rw [← (show a = A from h)]
  | o :: l, a, h, hd => by
    simp only [List.all_cons, Bool.and_eq_true, bne_iff_ne] at hd
    have hput : ∀ v, (a.put o.dst v).tmps[d]? = a.tmps[d]? := fun v => by
      cases hdd : o.dst with
      | none => rfl
      | some e =>
        have hne : e ≠ d := fun he => hd.1 (by rw [hdd, he])
        simp [Act.put, Array.getElem?_setIfInBounds_ne hne]
    unfold wpQuiet at h
    split at h
    · obtain ⟨v, _, h2⟩ := h
      rw [quietKeeps l _ h2 hd.2, hput]
    · rw [quietKeeps l _ h hd.2, hput]
theorem quiet_size {C : World → Prop} {A : Act} : ∀ (l : List Oper) (a : Act), wpQuiet P ops C (fun a' => a' = A) l a → A.tmps.size = a.tmps.size
  | [], a, h => by rw [← (show a = A from h)]
  | o :: l, a, h => by
    unfold wpQuiet at h
    split at h
    · obtain ⟨v, _, h2⟩ := h
      rw [quiet_size l _ h2, putSize]
    · rw [quiet_size l _ h, putSize]
theorem goes_of_quiet {o : Oper} {a : Act} {v : Value} {w : World} (h : o.quietAt P a (fun x => x = w) w v) : Goes P o a v w w := by
  unfold Oper.quietAt at h
  unfold Goes
  generalize (execOp a.eval o).run P w = r at h ⊢
  cases r with
  | ok n w' =>
    cases n <;> simp only [Oper.quietUpon] at h <;> simp only [GoesR]
    case value u => exact ⟨h.2, h.1⟩
    case skip => exact ⟨h.2, h.1⟩
    case enter f args => rw [h.1]; exact h.2
  | halt x w' => cases x <;> simp only [Oper.quietUpon] at h
/-- The head: quiet in both worlds that it may meet. -/
theorem lexF_head {A : Act} {N n : Nat} {w1 w2 : World} {Lq : Act → Prop} {tl : List Oper} (hF : ∀ k listed, k < n → Clo md ops listed → k ∈ Region.ready md ops listed → (F listed = w1 ∨ F listed = w2) ∧ F (listed.setIfInBounds k true) = F listed) :
    ∀ (l : List Oper) (k : Nat) (a : Act), slotsOk N l = true → N ≤ a.tmps.size → k + l.length = n →
    wpQuiet P ops (fun x => x = w1) (fun a' => a' = A) l a → wpQuiet P ops (fun x => x = w2) (fun a' => a' = A) l a → lexF P md ops F Lq tl n A → lexF P md ops F Lq (l ++ tl) k a
  | [], k, a, _, _, hk, h1, _, h => by
    obtain rfl : k = n := by simpa using hk
    rw [← (show a = A from h1)] at h
    exact h
  | o :: l, k, a, hD, hsz, hk, h1, h2, h => by
    simp only [slotsOk, Bool.and_eq_true] at hD
    obtain ⟨⟨hd, hg⟩, hD'⟩ := hD
    rw [List.length_cons] at hk
    have hw : Region.wanted o (yielded ops a.tmps) = true := by
      unfold Region.wanted
      rw [Option.isNone_iff_eq_none] at hg
      rw [hg]
    cases hdd : o.dst with
    | none => rw [hdd] at hd; cases hd
    | some d =>
      rw [hdd] at hd
      simp only [Bool.and_eq_true, decide_eq_true_eq] at hd
      have hval : ∀ v, (a.put o.dst v).tmps[d]? = some v := fun v => by
        have hdl : d < a.tmps.size := Nat.lt_of_lt_of_le (by simpa using hd.1) hsz
        rw [hdd]; simp [Act.put, hdl]
      unfold wpQuiet at h1 h2
      simp only [hw, if_true] at h1 h2
      obtain ⟨v1, q1, r1⟩ := h1
      obtain ⟨v2, q2, r2⟩ := h2
      have e1 := quietKeeps l _ r1 hd.2
      have e2 := quietKeeps l _ r2 hd.2
      rw [hval] at e1 e2
      obtain rfl : v1 = v2 := Option.some.inj (e1.symm.trans e2)
      refine ⟨v1, ⟨hw, fun listed hc hr => ?_⟩, lexF_head hF l (k + 1) _ hD' (by rw [putSize]; exact hsz) (by omega) r1 r2 h⟩
      obtain ⟨h3, h4⟩ := hF k listed (by omega) hc hr
      rw [h4]
      rcases h3 with e | e
      · rw [e]; exact goes_of_quiet (q1 w1 rfl)
      · rw [e]; exact goes_of_quiet (q2 w2 rfl)
theorem quiet_at {C : World → Prop} {R : Act → Prop} : ∀ (l : List Oper) (a : Act), wpQuiet P ops C R l a → ∃ A, R A ∧ wpQuiet P ops C (fun a' => a' = A) l a
  | [], a, h => ⟨a, h, rfl⟩
  | o :: l, a, h => by
    unfold wpQuiet at h
    by_cases hw : Region.wanted o (yielded ops a.tmps) = true
    · simp only [hw, if_true] at h
      obtain ⟨v, h1, h2⟩ := h
      obtain ⟨A, hR, hA⟩ := quiet_at l _ h2
      refine ⟨A, hR, ?_⟩
      unfold wpQuiet
      simp only [hw, if_true]
      exact ⟨v, h1, hA⟩
    · simp only [hw] at h
      obtain ⟨A, hR, hA⟩ := quiet_at l _ h
      refine ⟨A, hR, ?_⟩
      unfold wpQuiet
      simp only [hw]
      exact hA
end
/-! append in place: n quiet operations, a new block, the append, then the element's store beside the row's. -/
section
variable {P : Program}
def FA (n : Nat) (wA wB wC wD wE wDE : World) (listed : Array Bool) : World :=
  if listed.getD (n + 6) false = true then (if listed.getD (n + 3) false = true then wDE else wE)
  else if listed.getD (n + 3) false = true then wD else if listed.getD (n + 1) false = true then wC else if listed.getD n false = true then wB else wA
def placeB (ops : Array Oper) (n : Nat) : Bool :=
  (List.range n).all (fun i => Region.waitsFor .any ops (n + 1) i && Region.waitsFor .any ops (n + 3) i && Region.waitsFor .any ops (n + 6) i) &&
  Region.waitsFor .any ops (n + 1) n && Region.waitsFor .any ops (n + 3) n && Region.waitsFor .any ops (n + 6) n &&
  Region.waitsFor .any ops (n + 2) (n + 1) && Region.waitsFor .any ops (n + 3) (n + 1) && Region.waitsFor .any ops (n + 6) (n + 1) &&
  Region.waitsFor .any ops (n + 3) (n + 2) &&
  Region.waitsFor .any ops (n + 5) (n + 4) && Region.waitsFor .any ops (n + 6) (n + 5) &&
  (List.range ops.size).all (fun j => match ops[j]? with | some o => o.after.all (fun e => !Region.binds .any e || decide (e.on < j)) | none => true) && decide (ops.size = n + 7)
theorem put_none (A : Act) (v : Value) : A.put none v = A := rfl
theorem eval_put {A : Act} {d : Option Tmp} {t : Tmp} (h : d ≠ some t) (v : Value) : (A.put d v).eval (.tmp t) = A.eval (.tmp t) := by
  cases d with
  | none => rfl
  | some e =>
    have hne : e ≠ t := fun x => h (by rw [x])
    show (A.tmps.setIfInBounds e v).getD t undef = A.tmps.getD t undef
    simp only [Array.getD_eq_getD_getElem?]
    rw [Array.getElem?_setIfInBounds_ne hne]
theorem eval_same {A : Act} {d : Option Tmp} {t : Tmp} (h : d = some t) (hl : t < A.tmps.size) (v : Value) : (A.put d v).eval (.tmp t) = v := by
  subst h
  show (A.tmps.setIfInBounds t v).getD t undef = v
  simp [Array.getD_eq_getD_getElem?, hl]
theorem wp_region_place {id : Nat} {Q : Exit → Act → World → Prop} {a : Act} {w : World} {l : List Oper} (n N : Nat) (ts ta ti t4 t5 tx tp tL tn : Nat) (o0 o1 o2 o3 o4 o5 o6 : Oper)
    (wB wC wD wE wDE : World) (v0 v1 v2 v3 v4 v5 v6 lv xv pv nv : Value)
    (hm : P.follows .mixedOrders = true) (hB : (Region.noSelect l.toArray && flowB .any l.toArray l.length 0 (Array.replicate l.toArray.size false)) = true) (hP : placeB l.toArray n = true)
    (hS : slotsOk N (l.take n) = true) (hN : N ≤ a.tmps.size) (hl : l = l.take n ++ [o0, o1, o2, o3, o4, o5, o6]) (hg : ([o0, o1, o2, o3, o4, o5, o6].all fun o => o.guard.isNone) = true)
    (hd : (o0.dst == some ts && o1.dst == some ta && o2.dst == some ti && o3.dst == none && o4.dst == some t4 && o5.dst == some t5 && o6.dst == none) = true)
    (hne : (decide (ts < N) && decide (ta < N) && decide (ti < N) && decide (t4 < N) && decide (t5 < N) && [ts, ta, ti, t4, t5].all (fun d => [tx, tp, tL, tn].all fun t => d != t) && ts != ta && ts != ti && ts != t4 && ts != t5 && ta != ti && ta != t4 && ta != t5 && ti != t4 && ti != t5 && t4 != t5) = true)
    (g0 : ∀ b : Act, Goes P o0 b v0 w.drew wB) (g1 : ∀ b : Act, b.eval (.tmp tL) = lv → b.eval (.tmp ts) = v0 → Goes P o1 b v1 wB wC)
    (g2 : ∀ (b : Act) (x : World), b.eval (.tmp ta) = v1 → b.eval (.tmp tn) = nv → Goes P o2 b v2 x x)
    (g3 : ∀ b : Act, b.eval (.tmp ti) = v2 → b.eval (.tmp tx) = xv → Goes P o3 b v3 wC wD ∧ Goes P o3 b v3 wE wDE)
    (g4 : ∀ (b : Act) (x : World), b.eval (.tmp tp) = pv → Goes P o4 b v4 x x)
    (g5 : ∀ (b : Act) (x : World), b.eval (.tmp t4) = v4 → Goes P o5 b v5 x x)
    (g6 : ∀ b : Act, b.eval (.tmp t5) = v5 → b.eval (.tmp ta) = v1 → Goes P o6 b v6 wC wE ∧ Goes P o6 b v6 wD wDE)
    (h : wpQuiet P l.toArray (fun x => x = w.drew) (fun A => A.eval (.tmp tL) = lv ∧ A.eval (.tmp tx) = xv ∧ A.eval (.tmp tp) = pv ∧ A.eval (.tmp tn) = nv ∧
      wpQuiet P l.toArray (fun x => x = wB) (fun a' => a' = A) (l.take n) a ∧
      Q .normal (((((A.put (some ts) v0).put (some ta) v1).put (some ti) v2).put (some t4) v4).put (some t5) v5) wDE) (l.take n) a) :
    (Code.region id l.toArray true).wp P Q a w := by
  obtain ⟨A, ⟨eL, eX, eP, eN, hq2, gQ'⟩, hq1⟩ := quiet_at _ _ h
  have hNA : N ≤ A.tmps.size := Nat.le_trans hN (Nat.le_of_eq (quiet_size _ _ hq1).symm)
  simp only [Bool.and_eq_true, beq_iff_eq] at hd
  obtain ⟨⟨⟨⟨⟨⟨d0, d1⟩, d2⟩, d3⟩, d4⟩, d5⟩, d6⟩ := hd
  simp only [Bool.and_eq_true, decide_eq_true_eq, bne_iff_ne, List.all_cons, List.all_nil, Bool.and_true] at hne
  obtain ⟨⟨⟨⟨⟨⟨⟨⟨⟨⟨⟨⟨⟨⟨⟨l0, l1⟩, l2⟩, l4⟩, l5⟩, ⟨⟨a1, a2, a3, a4⟩, ⟨b1, b2, b3, b4⟩, ⟨c1, c2, c3, c4⟩, ⟨e1, e2, e3, e4⟩, ⟨f1, f2, f3, f4⟩⟩⟩, n1⟩, n2⟩, n3⟩, n4⟩, n5⟩, n6⟩, n7⟩, n8⟩, n9⟩, n10⟩ := hne
  have ne : ∀ {x y : Nat}, x ≠ y → (some x : Option Tmp) ≠ some y := fun h e => h (by injection e)
  have nn : ∀ {y : Nat}, (none : Option Tmp) ≠ some y := fun e => by cases e
  have g0 := g0 A
  have g1 := g1 (A.put o0.dst v0) (by rw [d0, eval_put (ne a3)]; exact eL) (eval_same d0 (Nat.lt_of_lt_of_le l0 hNA) v0)
  have g2 := fun x => g2 ((A.put o0.dst v0).put o1.dst v1) x (eval_same d1 (by simp only [putSize]; exact Nat.lt_of_lt_of_le l1 hNA) v1) (by rw [d1, eval_put (ne b4), d0, eval_put (ne a4)]; exact eN)
  have g3 := g3 (((A.put o0.dst v0).put o1.dst v1).put o2.dst v2) (eval_same d2 (by simp only [putSize]; exact Nat.lt_of_lt_of_le l2 hNA) v2) (by rw [d2, eval_put (ne c1), d1, eval_put (ne b1), d0, eval_put (ne a1)]; exact eX)
  have g4 := fun x => g4 ((((A.put o0.dst v0).put o1.dst v1).put o2.dst v2).put o3.dst v3) x (by rw [d3, eval_put nn, d2, eval_put (ne c2), d1, eval_put (ne b2), d0, eval_put (ne a2)]; exact eP)
  have g5 := fun x => g5 (((((A.put o0.dst v0).put o1.dst v1).put o2.dst v2).put o3.dst v3).put o4.dst v4) x (eval_same d4 (by simp only [putSize]; exact Nat.lt_of_lt_of_le l4 hNA) v4)
  have g6 := g6 ((((((A.put o0.dst v0).put o1.dst v1).put o2.dst v2).put o3.dst v3).put o4.dst v4).put o5.dst v5) (eval_same d5 (by simp only [putSize]; exact Nat.lt_of_lt_of_le l5 hNA) v5)
    (by rw [d5, eval_put (ne (Ne.symm n7)), d4, eval_put (ne (Ne.symm n6)), d3, eval_put nn, d2, eval_put (ne (Ne.symm n5))]; exact eval_same d1 (by simp only [putSize]; exact Nat.lt_of_lt_of_le l1 hNA) v1)
  obtain ⟨g3, g3'⟩ := g3
  obtain ⟨g6, g6'⟩ := g6
  have gQ : Q .normal (((((((A.put o0.dst v0).put o1.dst v1).put o2.dst v2).put o3.dst v3).put o4.dst v4).put o5.dst v5).put o6.dst v6) wDE := by
    rw [d0, d1, d2, d3, d4, d5, d6, put_none, put_none]
    exact gQ'
  simp only [placeB, Bool.and_eq_true, decide_eq_true_eq] at hP
  obtain ⟨⟨⟨⟨⟨⟨⟨⟨⟨⟨⟨hd, p1⟩, p2⟩, p3⟩, p4⟩, p5⟩, p6⟩, p7⟩, p8⟩, p9⟩, hac⟩, hsz⟩ := hP
  have hsel : Region.noSelect l.toArray = true := by simp only [Bool.and_eq_true] at hB; exact hB.1
  have hlen : l.length = n + 7 := by simpa using hsz
  have htn : (l.take n).length = n := by simp; omega
  have hacyc : ∀ j oj, l.toArray[j]? = some oj → ∀ e ∈ oj.after, Region.binds .any e = true → e.on < j := fun j oj hj e he hb => by
    have hjl : j < l.toArray.size := (Array.getElem?_eq_some_iff.1 hj).1
    have h1 := List.all_eq_true.1 hac j (List.mem_range.2 hjl)
    rw [hj] at h1
    have h2 := (Array.all_eq_true'.1 h1) e he
    simpa [hb] using h2
  have sF : ∀ (listed : Array Bool) (i j : Nat), j ≠ i → (listed.setIfInBounds i true).getD j false = listed.getD j false := fun listed i j hne => getD_set_ne false (Ne.symm hne)
  have sT : ∀ (listed : Array Bool) (i : Nat), Clo .any l.toArray listed → i < n + 7 → (listed.setIfInBounds i true).getD i false = true := fun listed i hc hi => by
    have : i < listed.size := by rw [hc.size, hsz]; exact hi
    simp [Array.getD_eq_getD_getElem?, Array.getElem?_setIfInBounds, this]
  have wanted : ∀ (o : Oper) (b : Act), o.guard.isNone = true → Region.wanted o (yielded l.toArray b.tmps) = true := fun o b hgo => by
    rw [Option.isNone_iff_eq_none] at hgo
    unfold Region.wanted; rw [hgo]
  simp only [List.all_cons, List.all_nil, Bool.and_true, Bool.and_eq_true] at hg
  obtain ⟨k0, k1, k2, k3, k4, k5, k6⟩ := hg
  have hgt : ∀ i j, i < n → j = n + 1 ∨ j = n + 3 ∨ j = n + 6 → Region.waitsFor .any l.toArray j i = true := fun i j hi hj => by
    have h1 := List.all_eq_true.1 hd i (List.mem_range.2 hi)
    simp only [Bool.and_eq_true] at h1
    rcases hj with rfl | rfl | rfl
    · exact h1.1.1
    · exact h1.1.2
    · exact h1.2
  refine wp_region_flow (FA n w.drew wB wC wD wE wDE) wDE hm hB (by unfold FA; simp only [getD_replicate_false]; rfl) (fun listed hc hr => ?_) ?_
  · have := hc.all hr hacyc
    unfold FA
    rw [this (n + 6) (by omega), this (n + 3) (by omega)]; rfl
  · rw [hl]
    have hl' : (l.take n ++ [o0, o1, o2, o3, o4, o5, o6]).toArray = l.toArray := by rw [← hl]
    rw [hl']
    refine lexF_head (n := n) (w1 := w.drew) (w2 := wB) (fun k listed hk hc hr => ?_) (l.take n) 0 a hS hN (by rw [Nat.zero_add]; exact htn) hq1 hq2 ?_
    · have f1 := hc.waits hr (hgt k (n + 1) hk (.inl rfl))
      have f3 := hc.waits hr (hgt k (n + 3) hk (.inr (.inl rfl)))
      have f6 := hc.waits hr (hgt k (n + 6) hk (.inr (.inr rfl)))
      unfold FA
      rw [sF _ _ _ (by omega), sF _ _ _ (by omega), sF _ _ _ (by omega), sF _ _ _ (by omega), f1, f3, f6]
      refine ⟨?_, rfl⟩
      cases listed.getD n false
      · exact .inl rfl
      · exact .inr rfl
    refine ⟨v0, ⟨wanted _ _ k0, fun listed hc hr => ?_⟩, v1, ⟨wanted _ _ k1, fun listed hc hr => ?_⟩, v2, ⟨wanted _ _ k2, fun listed hc hr => ?_⟩, v3, ⟨wanted _ _ k3, fun listed hc hr => ?_⟩, v4, ⟨wanted _ _ k4, fun listed hc hr => ?_⟩, v5, ⟨wanted _ _ k5, fun listed hc hr => ?_⟩, v6, ⟨wanted _ _ k6, fun listed hc hr => ?_⟩, gQ⟩
    · have f1 := hc.waits hr p1
      have f3 := hc.waits hr p2
      have f6 := hc.waits hr p3
      have f0 := Clo.self hr
      have e1 : FA n w.drew wB wC wD wE wDE listed = w.drew := by unfold FA; rw [f1, f3, f6, f0]; rfl
      have e2 : FA n w.drew wB wC wD wE wDE (listed.setIfInBounds n true) = wB := by
        unfold FA; rw [sF _ _ _ (by omega), sF _ _ _ (by omega), sF _ _ _ (by omega), sT _ _ hc (by omega), f1, f3, f6]; rfl
      rw [e1, e2]; exact g0
    · have f3 := hc.waits hr p5
      have f6 := hc.waits hr p6
      have f1 := Clo.self hr
      have f0 := Clo.came hr p1
      have e1 : FA n w.drew wB wC wD wE wDE listed = wB := by unfold FA; rw [f1, f3, f6, f0]; rfl
      have e2 : FA n w.drew wB wC wD wE wDE (listed.setIfInBounds (n + 1) true) = wC := by
        unfold FA; rw [sF _ _ _ (by omega), sF _ _ _ (by omega), sT _ _ hc (by omega), f3, f6]; rfl
      rw [e1, e2]; exact g1
    · have f3 := hc.waits hr p7
      have f1 := Clo.came hr p4
      have e2 : FA n w.drew wB wC wD wE wDE (listed.setIfInBounds (n + 2) true) = FA n w.drew wB wC wD wE wDE listed := by
        unfold FA; rw [sF _ _ _ (by omega), sF _ _ _ (by omega), sF _ _ _ (by omega), sF _ _ _ (by omega)]
      rw [e2]
      exact g2 _
    · have f1 := Clo.came hr p5
      have f3 := Clo.self hr
      cases hf6 : listed.getD (n + 6) false with
      | false =>
        have e1 : FA n w.drew wB wC wD wE wDE listed = wC := by unfold FA; rw [f1, f3, hf6]; rfl
        have e2 : FA n w.drew wB wC wD wE wDE (listed.setIfInBounds (n + 3) true) = wD := by
          unfold FA; rw [sF _ _ _ (by omega), sT _ _ hc (by omega), hf6]; rfl
        rw [e1, e2]; exact g3
      | true =>
        have e1 : FA n w.drew wB wC wD wE wDE listed = wE := by unfold FA; rw [f3, hf6]; rfl
        have e2 : FA n w.drew wB wC wD wE wDE (listed.setIfInBounds (n + 3) true) = wDE := by
          unfold FA; rw [sF _ _ _ (by omega), sT _ _ hc (by omega), hf6]; rfl
        rw [e1, e2]; exact g3'
    · have f6 := hc.waits2 hr p8 p9
      have e2 : FA n w.drew wB wC wD wE wDE (listed.setIfInBounds (n + 4) true) = FA n w.drew wB wC wD wE wDE listed := by
        unfold FA; rw [sF _ _ _ (by omega), sF _ _ _ (by omega), sF _ _ _ (by omega), sF _ _ _ (by omega)]
      rw [e2]
      exact g4 _
    · have f6 := hc.waits hr p9
      have e2 : FA n w.drew wB wC wD wE wDE (listed.setIfInBounds (n + 5) true) = FA n w.drew wB wC wD wE wDE listed := by
        unfold FA; rw [sF _ _ _ (by omega), sF _ _ _ (by omega), sF _ _ _ (by omega), sF _ _ _ (by omega)]
      rw [e2]
      exact g5 _
    · have f1 := Clo.came hr p6
      have f6 := Clo.self hr
      cases hf3 : listed.getD (n + 3) false with
      | false =>
        have e1 : FA n w.drew wB wC wD wE wDE listed = wC := by unfold FA; rw [f1, f6, hf3]; rfl
        have e2 : FA n w.drew wB wC wD wE wDE (listed.setIfInBounds (n + 6) true) = wE := by
          unfold FA; rw [sT _ _ hc (by omega), sF _ _ _ (by omega), hf3]; rfl
        rw [e1, e2]; exact g6
      | true =>
        have e1 : FA n w.drew wB wC wD wE wDE listed = wD := by unfold FA; rw [f6, hf3]; rfl
        have e2 : FA n w.drew wB wC wD wE wDE (listed.setIfInBounds (n + 6) true) = wDE := by
          unfold FA; rw [sT _ _ hc (by omega), sF _ _ _ (by omega), hf3]; rfl
        rw [e1, e2]; exact g6'
end
end Go.Proofs.Ytafbheplaheohaa
