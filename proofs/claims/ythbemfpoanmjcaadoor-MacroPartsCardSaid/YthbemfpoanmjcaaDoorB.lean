import Derived.Test.YthbemfpoanmjcaaDoorRows
import Derived.Test.YthbemfpoanmjcaaDoorA
import Derived.Test.YthbemfpoanmjcaaDoorZ
import Derived.WalkKit
import Derived.WalkSpells
import Derived.WalkLawsBesides
import Derived.RegionTactic
import Derived.Lib.Hide
import Derived.Lib.ConvBytes
import Derived.Deep.QuietTactic
import Derived.Deep.LoopGhost
import Derived.BigQuiet
import Derived.Laws.RangeString
import Derived.Laws.RangeAny
import Derived.WalkMore
import Derived.Handy
import Derived.Laws.OwnMore
import Derived.Laws.AppendOwn
import Derived.Deep.AppendLies
import Derived.Deep.AppendSrc
import Derived.Deep.Onto
import Derived.Deep.SlicePairs
import Derived.Laws.AppendOwnNone
import Derived.BigFrame
import Derived.Test.YthbemfpoanmjcaaDoorY
import Derived.ChangeArms
namespace Go.Proofs.YthbemfpoanmjcaaDoor
open Go.RowKit Go.ChangeShapes Go.WideShapes
set_option linter.unusedVariables false

/-- Of what was there nothing but the blocks of S has turned. -/
structure Only (S : Nat → Prop) (w w' : World) : Prop where
  os : w'.os = w.os
  tape : w'.tape = w.tape
  output : w'.output = w.output
  size : w.heap.size ≤ w'.heap.size
  block : ∀ k, k < w.heap.size → ¬ S k → w'.heap[k]? = w.heap[k]?
theorem Only.refl (S : Nat → Prop) (w : World) : Only S w w := ⟨rfl, rfl, rfl, Nat.le_refl _, fun _ _ _ => rfl⟩
theorem Only.trans {S S' T : Nat → Prop} {a b c : World} (h : Only S a b) (k : Only S' b c) (hS : ∀ i, S i → T i) (hS' : ∀ i, i < a.heap.size → S' i → T i) : Only T a c :=
  ⟨k.os.trans h.os, k.tape.trans h.tape, k.output.trans h.output, Nat.le_trans h.size k.size, fun i hi hn =>
    (k.block i (Nat.lt_of_lt_of_le hi h.size) (fun e => hn (hS' i hi e))).trans (h.block i hi (fun e => hn (hS i e)))⟩
theorem Only.mono {S T : Nat → Prop} {a b : World} (h : Only S a b) (hS : ∀ i, S i → T i) : Only T a b := ⟨h.os, h.tape, h.output, h.size, fun i hi hn => h.block i hi (fun e => hn (hS i e))⟩
theorem Only.of_below {S : Nat → Prop} {a b : World} (h : Below a.heap.size a b) : Only S a b := ⟨h.os, h.tape, h.output, h.size, fun i hi _ => h.block i hi⟩
theorem Only.of_grown {S : Nat → Prop} {a b : World} {row : Option Nat} (h : a.grownBy b row) (hr : ∀ k, row = some k → S k) : Only S a b :=
  ⟨h.os, h.tape, h.output, h.size, fun i hi hn => h.block i hi (fun e => hn (hr i e.symm))⟩
theorem Only.below {S : Nat → Prop} {a b : World} {B : Nat} (h : Only S a b) (hS : ∀ k, S k → B ≤ k) (hB : B ≤ a.heap.size) : Below B a b :=
  ⟨h.os, h.tape, h.output, h.size, fun i hi => h.block i (by omega) (fun e => by have := hS i e; omega)⟩

theorem below_drewN {a w : World} (h : Below a.heap.size a w) (n : Nat) : Below a.heap.size a (w.drewN n) := ⟨h.os, h.tape, h.output, h.size, h.block⟩
theorem drew_below (w : World) (n : Nat) : Below w.heap.size w (w.drewN n) := below_drewN (Below.refl _ w) n
theorem addn (b off k : Nat) : (⟨b, off, none⟩ : Addr).add k = ⟨b, off + k, none⟩ := by unfold Addr.add; split <;> simp_all
theorem wpList_run_append {P : Program} (w : World) {ops : Array Oper} {rest : List Oper} {o : Oper} {a : Act} {Q : Exit → Act → World → Prop} (hgd : o.guard = none) (d s : Operand) (t t' : TypeId)
    (ho : o.op = .call { callee := .builtin .append, args := #[d, s], argTypes := #[t, t'] }) (v u : Value) (hd : a.eval d = v) (hs : a.eval s = u) {v' : Value} {w' : World}
    (hr : (Builtin.append_ #[t, t'] o.type #[v, u]).run P w = .ok v' w') (h : wpList P ops Q rest (a.put o.dst v') w') : wpList P ops Q (o :: rest) a w := by
  refine wpList_plain hgd fun K hK => ?_
  unfold Oper.wp
  simp [execOp, ho, resolve, invoke, builtin, hd, hs, hr, Result.andThen]
  exact hK _ _ h
/-- Strings, to be read behind v. -/
structure Txt (w : World) (v : Value) (l : List ByteArray) : Prop where
  form : ∃ a c, v = .slice a l.length c ∧ ∀ i (h : i < l.length), ∃ b off, a = some ⟨b, off, none⟩ ∧ b < w.heap.size ∧ w.cell? ⟨b, off + i, none⟩ = some (.string l[i])
theorem Txt.below {w w' : World} {v : Value} {l : List ByteArray} (h : Txt w v l) (hb : Below w.heap.size w w') : Txt w' v l := by
  obtain ⟨a, c, h1, h2⟩ := h.form
  refine ⟨a, c, h1, fun i hi => ?_⟩
  obtain ⟨b, off, e1, e2, e3⟩ := h2 i hi
  exact ⟨b, off, e1, Nat.lt_of_lt_of_le e2 hb.size, (hb.cell (p := ⟨b, _, none⟩) e2).trans e3⟩
theorem open_strs {H : Type} {enc : TypeId × Value → H} {base : Nat} {W : World} {v : Value} {d : DataW H} {p : List MemPlace}
    (hv : Value.okWide Tryd.prog W .any base 38 v) (h : DataW.Trod enc Tryd.prog W 0 (fun _ => true) true 38 v d p) : ∃ l, Txt W v l ∧ l.length ≤ maxLen ∧ ∀ x ∈ l, x.size ≤ maxLen := by
  obtain ⟨a0, len, cap, rfl⟩ := okWide_slice Tryd.underlying38 hv
  obtain ⟨fuel, hf⟩ := h
  have hf2 : DataW.trod enc Tryd.prog W 0 (fun _ => true) true fuel 38 [.slice a0 len cap] = some (d, p) := hf
  have c9 : Tryd.prog.cellsOf 9 = 1 := by kernel_rfl
  have u9 : Tryd.prog.underlying 9 = some .string := by kernel_rfl
  rcases Go.Deep.open_slice Tryd.underlying38 hf2 with ⟨h0, _⟩ | ⟨a, len', cap', m, n, D, Pl, h0, hb, hl, hm, hmm, _, hx⟩
  · simp at h0
    obtain ⟨rfl, rfl, rfl⟩ := h0
    exact ⟨[], ⟨none, 0, rfl, fun i hi => absurd hi (by simp)⟩, by simp, by simp⟩
  · simp at h0
    obtain ⟨rfl, rfl, rfl⟩ := h0
    have each : ∀ i, i < len → ∃ q : ByteArray, W.cell? (a.add i) = some (.string q) ∧ q.size ≤ maxLen := by
      intro i hi
      have him : i < m := by rw [hmm]; split <;> omega
      obtain ⟨cs', h1, h2⟩ := hx i him
      rw [c9, Nat.mul_one] at h1
      obtain ⟨_, hlen, hcell⟩ := World.cells?_some h1
      match cs', hlen with
      | [u], _ =>
        obtain ⟨s1, e1, _, z1⟩ := DataW.trod_string u9 h2
        have := hcell 0 (by omega)
        simp at e1
        subst e1
        exact ⟨s1, by simpa [Addr.add] using this, z1⟩
    obtain ⟨q, hq⟩ := Go.Deep.choose_lt each
    have hlen : ((List.range len).map q).length = len := by simp
    refine ⟨(List.range len).map q, ⟨some a, cap, by rw [hlen], fun k hk => ?_⟩, by rw [hlen]; omega, fun x hx => ?_⟩
    · rw [hlen] at hk
      obtain ⟨h1, h2⟩ := hq k hk
      have hb : a.block < W.heap.size := by
        have := World.block_lt_of_cell? W _ h1
        revert this
        unfold Addr.add
        split <;> exact id
      have hs : a.spot = none := World.cell?_spot (a := a) (by simpa [Addr.add] using (hq 0 (by omega)).1)
      obtain ⟨b, off, sp⟩ := a
      simp only at hs
      subst hs
      rw [addn] at h1
      have e : ((List.range len).map q)[k]'(by rw [hlen]; exact hk) = q k := by simp
      rw [e]
      exact ⟨b, off, rfl, hb, h1⟩
    · obtain ⟨i, hi, rfl⟩ := List.mem_map.1 hx
      exact (hq i (List.mem_range.1 hi)).2
/-- Strings in a row of the call's own. -/
structure Wn (w0 w : World) (v : Value) (l : List ByteArray) : Prop where
  own : w.ownsRow w0.heap.size 9 1 v l.length (l.map .string)
  old : Below w0.heap.size w0 w
theorem info9 : (Tryd.prog.info? 9).map (fun i => (i.zero, i.size, i.bytes)) = some (some (.string ⟨#[]⟩), 1, 16) := by kernel_rfl
theorem Wn.push {w0 w : World} {v : Value} {l : List ByteArray} (h : Wn w0 w v l) (hl : l.length ≤ 90000) (x : ByteArray) :
    ∃ v' w', (Builtin.append_ #[38, 38] 38 #[v, .slice (some ⟨w.heap.size, 0, none⟩) 1 1]).run Tryd.prog (w.alloc (.cells #[.string x] 9)) = .ok v' w' ∧ Wn w0 w' v' (l ++ [x]) := by
  obtain ⟨i0, hi, hz0, hz1, hz2⟩ := info_parts info9
  have hw0 : Below w.heap.size w (w.alloc (.cells #[.string x] 9)) := (Below.refl _ _).alloc (Nat.le_refl _) _
  have hown : (w.alloc (.cells #[.string x] 9)).ownsRow w0.heap.size 9 1 v l.length (l.map .string) := h.own.alloc _
  obtain ⟨v', w', h2, h3, h4, h5⟩ := run_append_own (P := Tryd.prog) (w.alloc (.cells #[.string x] 9)) w0.heap.size 38 38 9 i0 _ 1 16 Tryd.underlying38 hi hz0 hz1 hz2 rfl (by decide) v l.length _ hown ⟨w.heap.size, 0, none⟩ 1 1 [.string x] rfl
    (fun j u hj => by
      match j, hj with
      | 0, hj => simp at hj; subst hj; rw [addn]; simp only [World.cell?, heap_alloc_new w]; rfl) (by
      intro u hu
      simp at hu; subst hu
      rfl) (by unfold maxLen; omega) (by omega) (by have := h.old.size; have := hw0.size; omega)
  refine ⟨v', w', h2, by rw [List.map_append, List.length_append]; exact h3, ?_⟩
  exact h.old.trans ((hw0.mono h.old.size).trans ((Only.of_grown (S := fun i => v.ownBlock = some i) h4 (fun k hk => hk)).below (fun k hk => (hown.lt k hk).1) (by have := h.old.size; have := hw0.size; omega)))
theorem Wn.below {w0 w w' : World} {v : Value} {l : List ByteArray} (h : Wn w0 w v l) (hb : Below w.heap.size w w') : Wn w0 w' v l := by
  refine ⟨⟨h.own.1, ?_⟩, h.old.trans (hb.mono h.old.size)⟩
  rcases h.own.2 with h1 | ⟨b, cap, cur, rfl, h2, h3, h4⟩
  · exact .inl h1
  · exact .inr ⟨b, cap, cur, rfl, h2, (hb.block b (Array.getElem?_eq_some_iff.1 h3).1).trans h3, h4⟩
theorem Wn.nil (w0 : World) : Wn w0 w0 (.slice none 0 0) [] := ⟨World.ownsRow_nil _ _ _ _, Below.refl _ _⟩
theorem Wn.txt {w0 w : World} {v : Value} {l : List ByteArray} (h : Wn w0 w v l) : Txt w v l := by
  rcases h.own.2 with ⟨h1, h0⟩ | ⟨b, cap, cur, rfl, h2, h3, h4⟩
  · exact ⟨none, 0, by rw [h0]; exact h1, fun i hi => by omega⟩
  · refine ⟨_, cap, rfl, fun i hi => ⟨b, 0, rfl, (Array.getElem?_eq_some_iff.1 h3).1, ?_⟩⟩
    rw [Nat.zero_add, World.ownsRow.cellAt h.own i (by omega), List.getElem?_map, List.getElem?_eq_getElem hi]; rfl
theorem one_txt (w : World) (x : ByteArray) : Txt (w.alloc (.cells #[.string x] 9)) (.slice (some ⟨w.heap.size, 0, none⟩) 1 1) [x] :=
  ⟨_, 1, rfl, fun i hi => by
    obtain rfl : i = 0 := by simpa using hi
    exact ⟨w.heap.size, 0, rfl, by simp, by simp only [World.cell?, heap_alloc_new w]; rfl⟩⟩

theorem wpList_run_append_g {P : Program} (w : World) {ops : Array Oper} {rest : List Oper} {o : Oper} {a : Act} {Q : Exit → Act → World → Prop} (hw : Region.wanted o (yielded ops a.tmps) = true) (d s : Operand) (t t' : TypeId)
    (ho : o.op = .call { callee := .builtin .append, args := #[d, s], argTypes := #[t, t'] }) (v u : Value) (hd : a.eval d = v) (hs : a.eval s = u) {v' : Value} {w' : World}
    (hr : (Builtin.append_ #[t, t'] o.type #[v, u]).run P w = .ok v' w') (h : wpList P ops Q rest (a.put o.dst v') w') : wpList P ops Q (o :: rest) a w := by
  refine BigFrame.wpList_want hw fun K hK => ?_
  unfold Oper.wp
  simp [execOp, ho, resolve, invoke, builtin, hd, hs, hr, Result.andThen]
  exact hK _ _ h
abbrev Prs := List (ByteArray × ByteArray)
/-- Pairs, to be read behind pv, in a block below B. -/
structure PV (B : Nat) (w : World) (pv : Value) (l : Prs) : Prop where
  len : l.length ≤ 9223372036854775807
  sz : ∀ p ∈ l, p.2.size ≤ 9223372036854775807
  at' : (∃ o c, pv = .slice o 0 c ∧ l = []) ∨ ∃ b off cap, pv = .slice (some ⟨b, off, none⟩) l.length cap ∧ b < w.heap.size ∧ b < B ∧ ∀ k (hk : k < l.length), w.cell? ⟨b, off + k * 2, none⟩ = some (.string l[k].1) ∧ w.cell? ⟨b, off + k * 2 + 1, none⟩ = some (.string l[k].2)
theorem PV.mono {B B' : Nat} {w w' : World} {pv : Value} {l : Prs} (h : PV B w pv l) (hb : Below B w w') (hB : B ≤ B') : PV B' w' pv l := by
  refine ⟨h.len, h.sz, ?_⟩
  rcases h.at' with h1 | ⟨b, off, cap, h1, h2, h3, h4⟩
  · exact .inl h1
  · refine .inr ⟨b, off, cap, h1, Nat.lt_of_lt_of_le h2 hb.size, by omega, fun k hk => ?_⟩
    rw [hb.cell (p := ⟨b, off + k * 2, none⟩) h3, hb.cell (p := ⟨b, off + k * 2 + 1, none⟩) h3]
    exact h4 k hk
theorem PV.nil (B : Nat) (w : World) : PV B w (.slice none 0 0) [] := ⟨by simp, by simp, .inl ⟨none, 0, rfl, rfl⟩⟩
theorem PV.form {B : Nat} {w : World} {pv : Value} {l : Prs} (h : PV B w pv l) : ∃ o c, pv = .slice o l.length c := by
  rcases h.at' with ⟨o, c, h1, h2⟩ | ⟨b, off, cap, h1, _⟩
  · exact ⟨o, c, by rw [h1, h2]; rfl⟩
  · exact ⟨_, _, h1⟩
theorem cell_lt {w : World} {p : Addr} {v : Value} (h : w.cell? p = some v) : p.block < w.heap.size := World.block_lt_of_cell? w _ h
theorem dl (s : ByteArray) : s.data.toList.length = s.size := Array.length_toList
theorem isE_of {t : ByteArray} (h : t.data.toList = []) : t.toList.isEmpty = true := by rw [Lib.toList_data, h]; rfl
theorem isE_ne {t : ByteArray} (h : t.data.toList ≠ []) : t.toList.isEmpty = false := by
  rw [Lib.toList_data]
  cases h' : t.data.toList with
  | nil => exact absurd h' h
  | cons a t => rfl
theorem ba_ext {a b : ByteArray} (h : a.data.toList = b.data.toList) : a = b := ByteArray.ext (Array.toList_inj.1 h)
theorem mk_data (s : ByteArray) : (⟨s.data.toList.toArray⟩ : ByteArray) = s := ba_ext rfl
theorem sz_mk (l : Bs) : (⟨l.toArray⟩ : ByteArray).size = l.length := by simp [ByteArray.size]
theorem drop_one {t : ByteArray} {k : Nat} (h : k < t.size) : t.data.toList.drop k = (t[k]'h) :: t.data.toList.drop (k + 1) := by
  rw [List.drop_eq_getElem_cons (by rw [dl]; exact h)]; rfl
theorem byte_eq (c d : UInt8) : ((c.toNat : Int) == (d.toNat : Int)) = (c == d) := by
  rw [Bool.eq_iff_iff]
  simp only [beq_iff_eq]
  constructor
  · intro h; exact UInt8.toNat_inj.1 (by omega)
  · intro h; rw [h]
theorem ext_dt {t : ByteArray} {a b : Nat} (h : a ≤ b) (hb : b ≤ t.size) : (t.extract a b).data.toList = (t.data.toList.take b).drop a ∧ (t.extract a b).size = b - a := by
  refine ⟨?_, by simp; omega⟩
  simp [ByteArray.data_extract, List.drop_take]
theorem str_eq (a b : ByteArray) : (a.toList == b.toList) = (a.data.toList == b.data.toList) := by rw [Lib.toList_data, Lib.toList_data]
theorem size_max {s : ByteArray} (h : s.size ≤ maxLen) : s.size ≤ 9223372036854775807 := by unfold maxLen at h; omega
theorem u24 : Tryd.prog.underlying 24 = some (.slice 36) := by kernel_rfl
theorem u9 : Tryd.prog.underlying 9 = some .string := by kernel_rfl
theorem trod_str {H : Type} {enc : TypeId × Value → H} {P : Program} {w : World} {base : Nat} {spare : Nat → Bool} {held : Bool} {fuel t : Nat} {v : Value} {x : DataW H × List MemPlace} (ht : P.underlying t = some .string) (h : DataW.trod enc P w base spare held fuel t [v] = some x) :
    ∃ s : ByteArray, v = .string s ∧ s.size ≤ maxLen := by
  obtain ⟨s, h1, h2, h3⟩ := DataW.trod_string ht h
  refine ⟨s, ?_, h3⟩
  injection h1
theorem pair_form : ∃ f0 f1 : Field, Tryd.prog.underlying 36 = some (.struct #[f0, f1]) ∧ f0.offset = 0 ∧ f1.offset = 1 ∧ f0.type = 9 ∧ f1.type = 9 := by
  have h : (Tryd.prog.underlying 36).map (fun t => match t with | .struct fs => some (fs.toList.map fun f => (f.type, f.offset)) | _ => none) = some (some [(9, 0), (9, 1)]) := by kernel_rfl
  obtain ⟨t, ht, h2⟩ := Option.map_eq_some_iff.1 h
  rw [ht]
  cases t <;> simp at h2
  rename_i fs
  obtain ⟨l⟩ := fs
  match l, h2 with
  | [f0, f1], h2 =>
    simp at h2
    exact ⟨f0, f1, rfl, h2.1.2, h2.2.2, h2.1.1, h2.2.1⟩
/-- A slice of pairs, opened for the walk. -/
theorem open_prs {H : Type} {enc : TypeId × Value → H} {base : Nat} {W : World} {v : Value} {d : DataW H} {p : List MemPlace}
    (hv : Value.okWide Tryd.prog W .any base 24 v) (h : DataW.Trod enc Tryd.prog W 0 (fun _ => true) true 24 v d p) :
    ∃ l : Prs, PV W.heap.size W v l := by
  obtain ⟨a0, len, cap, rfl⟩ := okWide_slice u24 hv
  obtain ⟨fuel, hf⟩ := h
  obtain ⟨f0, f1, hu, o0, o1, t0, t1⟩ := pair_form
  have hc : Tryd.prog.cellsOf 36 = 2 := by kernel_rfl
  have c9 : Tryd.prog.cellsOf 9 = 1 := by kernel_rfl
  have c0 : Tryd.prog.cellsOf f0.type = 1 := by rw [t0]; exact c9
  have c1 : Tryd.prog.cellsOf f1.type = 1 := by rw [t1]; exact c9
  rcases Go.Deep.open_slice_pairs u24 hu hc o0 o1 c0 c1 hf with ⟨hcs, hx⟩ | ⟨a, len', cap', m, n, V0, V1, D0, D1, P0, P1, hcs, _, hl, hm, hmm, hx, hcell⟩
  · simp [Value.cells] at hcs
    obtain ⟨rfl, rfl, rfl⟩ := hcs
    exact ⟨[], by simp, by simp, .inl ⟨none, 0, rfl, rfl⟩⟩
  · simp [Value.cells] at hcs
    obtain ⟨rfl, rfl, rfl⟩ := hcs
    rw [if_pos rfl] at hmm
    have each : ∀ i, i < len → ∃ q : ByteArray × ByteArray, W.cell? (a.add (i * 2)) = some (.string q.1) ∧ W.cell? (a.add (i * 2 + 1)) = some (.string q.2) ∧ q.2.size ≤ maxLen := by
      intro i hi
      obtain ⟨h1, h2, h3, h4⟩ := hcell i (by omega)
      rw [t0] at h3
      rw [t1] at h4
      obtain ⟨s0, e0, _⟩ := trod_str u9 h3
      obtain ⟨s1, e1, z1⟩ := trod_str u9 h4
      exact ⟨(s0, s1), by rw [h1, e0], by rw [h2, e1], z1⟩
    obtain ⟨q, hq⟩ := Go.Deep.choose_lt each
    have hlen : ((List.range len).map q).length = len := by simp
    by_cases h0 : len = 0
    · subst h0
      exact ⟨[], by simp, by simp, .inl ⟨some a, cap, rfl, rfl⟩⟩
    · obtain ⟨h1, h2, h3⟩ := hq 0 (by omega)
      have hb : a.block < W.heap.size := cell_lt (p := a.add (0 * 2)) h1
      have hs : a.spot = none := World.cell?_spot (a := a) (by simpa [Addr.add] using h1)
      obtain ⟨b, off, sp⟩ := a
      simp only at hs
      subst hs
      have had : ∀ k, (⟨b, off, none⟩ : Addr).add k = ⟨b, off + k, none⟩ := by
        intro k
        unfold Addr.add
        split <;> simp_all
      refine ⟨(List.range len).map q, by rw [hlen]; unfold maxLen at hm; omega, ?_, .inr ⟨b, off, cap, by rw [hlen], hb, by simp only at hb; omega, ?_⟩⟩
      · intro p hp
        obtain ⟨i, hi, rfl⟩ := List.mem_map.1 hp
        exact size_max (hq i (List.mem_range.1 hi)).2.2
      · intro k hk
        rw [hlen] at hk
        obtain ⟨g1, g2, _⟩ := hq k hk
        rw [had] at g1 g2
        have e : ((List.range len).map q)[k]'(by rw [hlen]; exact hk) = q k := by simp
        rw [e, Nat.add_assoc]
        exact ⟨g1, g2⟩
end Go.Proofs.YthbemfpoanmjcaaDoor
