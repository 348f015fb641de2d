import Derived.Test.YtafbheplaheohaaRows
import Derived.Test.YtafbheplaheohaaMB
import Derived.WalkKit
import Derived.WalkSpells
import Derived.WalkLawsBesides
import Derived.RegionTactic
import Derived.Lib.Hide
import Derived.Lib.ConvBytes
import Derived.Lib.AppendStr
import Derived.Deep.QuietTactic
import Derived.Deep.LoopGhost
import Derived.BigQuiet
import Derived.WalkMore
import Derived.Handy
import Derived.Laws.OwnMore
import Derived.Laws.AppendOwn
import Derived.Laws.AppendOwnNone
import Derived.Deep.AppendLies
import Derived.Deep.AppendSrc
import Derived.Deep.Onto
import Derived.BigFrame
import Derived.ChangeArms
import Derived.Carry
namespace Go.Proofs.Ytafbheplaheohaa
open Go.RowKit
set_option linter.unusedVariables false

/-- Of what was there nothing but the blocks of S has turned. -/
structure Only (S : Nat → Prop) (w w' : World) : Prop where
  os : w'.os = w.os
  tape : w'.tape = w.tape
  output : w'.output = w.output
  size : w.heap.size ≤ w'.heap.size
  block : ∀ k, k < w.heap.size → ¬ S k → w'.heap[k]? = w.heap[k]?
theorem Only.refl (S : Nat → Prop) (w : World) : Only S w w := ⟨rfl, rfl, rfl, Nat.le_refl _, fun _ _ _ => rfl⟩
theorem Only.trans {S S' T : Nat → Prop} {a b c : World} (h : Only S a b) (k : Only S' b c) (hS : ∀ i, S i → T i) (hS' : ∀ i, i < a.heap.size → S' i → T i) : Only T a c :=
  ⟨k.os.trans h.os, k.tape.trans h.tape, k.output.trans h.output, Nat.le_trans h.size k.size, fun i hi hn =>
    (k.block i (Nat.lt_of_lt_of_le hi h.size) (fun e => hn (hS' i hi e))).trans (h.block i hi (fun e => hn (hS i e)))⟩
theorem Only.mono {S T : Nat → Prop} {a b : World} (h : Only S a b) (hS : ∀ i, S i → T i) : Only T a b := ⟨h.os, h.tape, h.output, h.size, fun i hi hn => h.block i hi (fun e => hn (hS i e))⟩
theorem Only.of_below {S : Nat → Prop} {a b : World} (h : Below a.heap.size a b) : Only S a b := ⟨h.os, h.tape, h.output, h.size, fun i hi _ => h.block i hi⟩
theorem Only.of_grown {S : Nat → Prop} {a b : World} {row : Option Nat} (h : a.grownBy b row) (hr : ∀ k, row = some k → S k) : Only S a b :=
  ⟨h.os, h.tape, h.output, h.size, fun i hi hn => h.block i hi (fun e => hn (hr i e.symm))⟩
theorem Only.below {S : Nat → Prop} {a b : World} {B : Nat} (h : Only S a b) (hS : ∀ k, S k → B ≤ k) (hB : B ≤ a.heap.size) : Below B a b :=
  ⟨h.os, h.tape, h.output, h.size, fun i hi => h.block i (by omega) (fun e => by have := hS i e; omega)⟩
theorem Only.set {S : Nat → Prop} {a w : World} (h : Only S a w) {g : Nat} (hg : S g ∨ a.heap.size ≤ g) (i : Nat) (u : Value) : Only S a (w.setCell ⟨g, i, none⟩ u) :=
  ⟨h.os, h.tape, h.output, by simpa using h.size, fun k hk hn => (Below.heap_setCell _ _ _ _ (by intro e; have e : k = g := e; subst e; rcases hg with e | e; exact hn e; omega)).trans (h.block k hk hn)⟩
theorem below_drewN {a w : World} (h : Below a.heap.size a w) (n : Nat) : Below a.heap.size a (w.drewN n) := ⟨h.os, h.tape, h.output, h.size, h.block⟩
theorem drew_below (w : World) (n : Nat) : Below w.heap.size w (w.drewN n) := below_drewN (Below.refl _ w) n
theorem addn (b off k : Nat) : (⟨b, off, none⟩ : Addr).add k = ⟨b, off + k, none⟩ := by unfold Addr.add; split <;> simp_all
theorem wpList_run_append {P : Program} (w : World) {ops : Array Oper} {rest : List Oper} {o : Oper} {a : Act} {Q : Exit → Act → World → Prop} (hgd : o.guard = none) (d s : Operand) (t t' : TypeId)
    (ho : o.op = .call { callee := .builtin .append, args := #[d, s], argTypes := #[t, t'] }) (v u : Value) (hd : a.eval d = v) (hs : a.eval s = u) {v' : Value} {w' : World}
    (hr : (Builtin.append_ #[t, t'] o.type #[v, u]).run P w = .ok v' w') (h : wpList P ops Q rest (a.put o.dst v') w') : wpList P ops Q (o :: rest) a w := by
  refine wpList_plain hgd fun K hK => ?_
  unfold Oper.wp
  simp [execOp, ho, resolve, invoke, builtin, hd, hs, hr, Result.andThen]
  exact hK _ _ h
section
variable {w : World} {a : Nat} {cs : List Value} {ty : TypeId}
theorem cell_of (hb : w.heap[a]? = some (.cells cs.toArray ty (0, 0))) (i : Nat) : w.cell? ⟨a, i, none⟩ = cs[i]? := by
  simp only [World.cell?, hb]; simp
theorem free_of (hb : w.heap[a]? = some (.cells cs.toArray ty (0, 0))) (i : Nat) : w.frozen? ⟨a, i, none⟩ = false := by
  simp [World.frozen?, hb]
theorem set_of (hb : w.heap[a]? = some (.cells cs.toArray ty (0, 0))) (i : Nat) (v : Value) : (w.setCell ⟨a, i, none⟩ v).heap[a]? = some (.cells (cs.set i v).toArray ty (0, 0)) := by
  have h1 : (w.heap.modify a fun | .cells c elem frozen => Obj.cells (if (none : Option Nat).isSome then c else c.setIfInBounds i v) elem frozen | o => o)[a]? = some (.cells (cs.set i v).toArray ty (0, 0)) := by
    rw [Array.getElem?_modify, if_pos rfl, hb]; simp
  exact h1
theorem blk_lt (hb : w.heap[a]? = some (.cells cs.toArray ty (0, 0))) : a < w.heap.size := (Array.getElem?_eq_some_iff.1 hb).1
end
theorem cell_lt {w : World} {p : Addr} {v : Value} (h : w.cell? p = some v) : p.block < w.heap.size := World.block_lt_of_cell? w _ h
theorem dl (s : ByteArray) : s.data.toList.length = s.size := Array.length_toList
theorem isE_of {t : ByteArray} (h : t.data.toList = []) : t.toList.isEmpty = true := by rw [Lib.toList_data, h]; rfl
theorem isE_ne {t : ByteArray} (h : t.data.toList ≠ []) : t.toList.isEmpty = false := by
  rw [Lib.toList_data]
  cases h' : t.data.toList with
  | nil => exact absurd h' h
  | cons a t => rfl
theorem ba_ext {a b : ByteArray} (h : a.data.toList = b.data.toList) : a = b := ByteArray.ext (Array.toList_inj.1 h)
theorem mk_data (s : ByteArray) : (⟨s.data.toList.toArray⟩ : ByteArray) = s := ba_ext rfl
theorem sz_mk (l : Bz) : (⟨l.toArray⟩ : ByteArray).size = l.length := by simp [ByteArray.size]
theorem drop_one {t : ByteArray} {k : Nat} (h : k < t.size) : t.data.toList.drop k = (t[k]'h) :: t.data.toList.drop (k + 1) := by
  rw [List.drop_eq_getElem_cons (by rw [dl]; exact h)]; rfl
theorem byte_eq (c d : UInt8) : ((c.toNat : Int) == (d.toNat : Int)) = (c == d) := by
  rw [Bool.eq_iff_iff]
  simp only [beq_iff_eq]
  constructor
  · intro h; exact UInt8.toNat_inj.1 (by omega)
  · intro h; rw [h]
theorem ext_dt {t : ByteArray} {a b : Nat} (h : a ≤ b) (hb : b ≤ t.size) : (t.extract a b).data.toList = (t.data.toList.take b).drop a ∧ (t.extract a b).size = b - a := by
  refine ⟨?_, by simp; omega⟩
  simp [ByteArray.data_extract, List.drop_take]
theorem ext_end {t : ByteArray} {a : Nat} (h : a ≤ t.size) : (t.extract a t.size).data.toList = t.data.toList.drop a ∧ (t.extract a t.size).size = t.size - a := by
  have := ext_dt (t := t) (a := a) (b := t.size) h (Nat.le_refl _)
  rw [List.take_of_length_le (by rw [dl]; exact Nat.le_refl _)] at this
  exact this
theorem str_eq (a b : ByteArray) : (a.toList == b.toList) = (a.data.toList == b.data.toList) := by rw [Lib.toList_data, Lib.toList_data]
def intOf : Value → Int | .int _ n => n | _ => 0

/-- A part, as it lies. -/
structure Pt where
  k : Int
  t : ByteArray
  n : ByteArray
  o : ByteArray
  wv : Value
  q : Bool
def Pt.cs (p : Pt) : List Value := [.int .i64 p.k, .string p.t, .string p.n, .string p.o, p.wv, .bool p.q]
def Pt.is (p : Pt) (x : Prt) : Prop := p.k = (x.kind : Int) ∧ p.t.data.toList = x.text ∧ p.n.data.toList = x.name ∧ p.o.data.toList = x.op ∧ p.q = x.quoted
def pcs (L : List Pt) : List Value := L.flatMap Pt.cs
theorem pcs_len : ∀ L : List Pt, (pcs L).length = L.length * 6
  | [] => rfl
  | p :: L => by
    show (p.cs ++ pcs L).length = _
    rw [List.length_append, pcs_len L]; simp [Pt.cs]; omega
theorem pcs_at : ∀ (L : List Pt) (i q : Nat) (h : i < L.length), q < 6 → (pcs L)[i * 6 + q]? = L[i].cs[q]?
  | [], _, _, h, _ => absurd h (by simp)
  | p :: L, 0, q, _, hq => by
    show (p.cs ++ pcs L)[0 * 6 + q]? = _
    rw [Nat.zero_mul, Nat.zero_add, List.getElem?_append_left (by simpa [Pt.cs] using hq)]; rfl
  | p :: L, i + 1, q, h, hq => by
    show (p.cs ++ pcs L)[(i + 1) * 6 + q]? = _
    have hl : p.cs.length = 6 := rfl
    rw [List.getElem?_append_right (by rw [hl]; omega), hl, show (i + 1) * 6 + q - 6 = i * 6 + q by omega]
    exact pcs_at L i q (by simpa using h) hq
theorem pcs_app (L M : List Pt) : pcs (L ++ M) = pcs L ++ pcs M := by simp [pcs]
/-- The parts l, to be read behind v, in blocks of F. -/
inductive Wd (w : World) (F : Nat → Prop) : Value → List Prt → Prop
  | nil (c : Nat) : Wd w F (.slice none 0 c) []
  | row (g off c : Nat) (cur : Array Value) (L : List Pt) (l : List Prt) (hF : F g) (hb : w.heap[g]? = some (.cells cur 39 (0, 0))) (hl : L.length = l.length)
      (hc : ∀ i (h : i < L.length) (q : Nat), q < 6 → cur[off + i * 6 + q]? = L[i].cs[q]?) (hs : ∀ i (h : i < L.length) (h' : i < l.length), L[i].is l[i])
      (hw : ∀ i (h : i < L.length) (h' : i < l.length), Wd w F L[i].wv l[i].word) : Wd w F (.slice (some ⟨g, off, none⟩) l.length c) l
theorem Wd.keep {w w' : World} {F F' : Nat → Prop} (hk : ∀ g cur, F g → w.heap[g]? = some (.cells cur 39 (0, 0)) → F' g ∧ w'.heap[g]? = some (.cells cur 39 (0, 0))) : ∀ {v : Value} {l : List Prt}, Wd w F v l → Wd w' F' v l := by
  intro v l h
  induction h with
  | nil c => exact .nil c
  | row g off c cur L l hF hb hl hc hs hw ih => exact .row g off c cur L l (hk g cur hF hb).1 (hk g cur hF hb).2 hl hc hs ih
theorem Wd.form {w : World} {F : Nat → Prop} {v : Value} {l : List Prt} (h : Wd w F v l) : ∃ a c, v = .slice a l.length c := by
  cases h with
  | nil c => exact ⟨none, c, rfl⟩
  | row g off c cur L l hF hb hl hc hs hw => exact ⟨_, c, rfl⟩
theorem Wd.mono {w : World} {F F' : Nat → Prop} {v : Value} {l : List Prt} (h : Wd w F v l) (hF : ∀ g, F g → F' g) : Wd w F' v l := h.keep fun g cur h1 h2 => ⟨hF g h1, h2⟩
theorem Wd.under {w w' : World} {F : Nat → Prop} {v : Value} {l : List Prt} (h : Wd w F v l) (hb : Below w.heap.size w w') : Wd w' F v l :=
  h.keep fun g cur h1 h2 => ⟨h1, (hb.block g (Array.getElem?_eq_some_iff.1 h2).1).trans h2⟩
theorem Wd.only {S : Nat → Prop} {w w' : World} {F : Nat → Prop} {v : Value} {l : List Prt} (h : Wd w F v l) (hO : Only S w w') (hn : ∀ g cur, F g → w.heap[g]? = some (.cells cur 39 (0, 0)) → ¬ S g) : Wd w' F v l :=
  h.keep fun g cur h1 h2 => ⟨h1, (hO.block g (Array.getElem?_eq_some_iff.1 h2).1 (hn g cur h1 h2)).trans h2⟩
/-- The parts l, in a row of the call's own. -/
structure PRow (w : World) (B : Nat) (v : Value) (l : List Prt) (L : List Pt) : Prop where
  own : w.ownsRow B 39 6 v L.length (pcs L)
  len : L.length = l.length
  is : ∀ i (h : i < L.length) (h' : i < l.length), L[i].is l[i]
  word : ∀ i (h : i < L.length) (h' : i < l.length), Wd w (fun k => B ≤ k ∧ v.ownBlock ≠ some k) L[i].wv l[i].word
theorem PRow.nil (w : World) (B : Nat) : PRow w B (.slice none 0 0) [] [] := ⟨World.ownsRow_nil _ _ _ _, rfl, fun i h => absurd h (by simp), fun i h => absurd h (by simp)⟩
theorem own_keep {w w' : World} {B e sz n : Nat} {v : Value} {xs : List Value} (h : w.ownsRow B e sz v n xs) (hk : ∀ (g : Nat) (c : Array Value), v.ownBlock = some g → w.heap[g]? = some (Obj.cells c e) → w'.heap[g]? = some (Obj.cells c e)) : w'.ownsRow B e sz v n xs := by
  refine ⟨h.1, ?_⟩
  rcases h.2 with h1 | ⟨b, cap, cur, rfl, h2, h3, h4⟩
  · exact .inl h1
  · exact .inr ⟨b, cap, cur, rfl, h2, hk _ _ rfl h3, h4⟩
theorem PRow.keep {w w' : World} {B : Nat} {v : Value} {l : List Prt} {L : List Pt} (h : PRow w B v l L) (hk : ∀ (g : Nat) (c : Array Value), B ≤ g → w.heap[g]? = some (Obj.cells c 39 (0, 0)) → w'.heap[g]? = some (Obj.cells c 39 (0, 0))) : PRow w' B v l L :=
  ⟨own_keep h.own fun g c hg h1 => hk g c (h.own.lt g hg).1 h1, h.len, h.is, fun i h1 h2 => (h.word i h1 h2).keep fun g cur h3 h4 => ⟨h3, hk g cur h3.1 h4⟩⟩
theorem PRow.wd {w : World} {B : Nat} {v : Value} {l : List Prt} {L : List Pt} (h : PRow w B v l L) : Wd w (fun k => B ≤ k) v l := by
  rcases h.own.2 with ⟨rfl, h0⟩ | ⟨g, cap, cur, e, h2, h3, h4, h5, h6, h7⟩
  · have : l = [] := List.eq_nil_of_length_eq_zero (by rw [← h.len]; exact h0)
    rw [this]
    exact .nil 0
  · have e2 : v = .slice (some ⟨g, 0, none⟩) l.length cap := by rw [e, h.len]
    rw [e2]
    refine .row g 0 cap cur L l h2 h3 h.len (fun i hi q hq => ?_) h.is (fun i h1 h2 => (h.word i h1 h2).mono fun g hg => hg.1)
    rw [Nat.zero_add, ← pcs_at L i q hi hq, ← h7]
    rw [List.getElem?_take, if_pos (by omega)]
    simp
end Go.Proofs.Ytafbheplaheohaa
