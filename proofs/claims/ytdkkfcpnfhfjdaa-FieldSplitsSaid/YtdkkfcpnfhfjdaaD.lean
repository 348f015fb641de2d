import Derived.Test.YtdkkfcpnfhfjdaaC
import Derived.Laws.OwnMore
import Derived.Laws.AppendOwn
import Derived.Deep.RegionLaw
import Derived.Deep.AppendLies
import Derived.Deep.AppendSrc
import Derived.Deep.Onto
namespace Go.Proofs.Ytdkkfcpnfhfjdaa
open Go.RowKit
set_option linter.unusedVariables false

/-- Of what was there nothing but the blocks of S has turned. -/
structure Only (S : Nat → Prop) (w w' : World) : Prop where
  os : w'.os = w.os
  tape : w'.tape = w.tape
  output : w'.output = w.output
  size : w.heap.size ≤ w'.heap.size
  block : ∀ k, k < w.heap.size → ¬ S k → w'.heap[k]? = w.heap[k]?
theorem Only.refl (S : Nat → Prop) (w : World) : Only S w w := ⟨rfl, rfl, rfl, Nat.le_refl _, fun _ _ _ => rfl⟩
theorem Only.trans {S S' T : Nat → Prop} {a b c : World} (h : Only S a b) (k : Only S' b c) (hS : ∀ i, S i → T i) (hS' : ∀ i, i < a.heap.size → S' i → T i) : Only T a c :=
  ⟨k.os.trans h.os, k.tape.trans h.tape, k.output.trans h.output, Nat.le_trans h.size k.size, fun i hi hn =>
    (k.block i (Nat.lt_of_lt_of_le hi h.size) (fun e => hn (hS' i hi e))).trans (h.block i hi (fun e => hn (hS i e)))⟩
theorem Only.mono {S T : Nat → Prop} {a b : World} (h : Only S a b) (hS : ∀ i, S i → T i) : Only T a b := ⟨h.os, h.tape, h.output, h.size, fun i hi hn => h.block i hi (fun e => hn (hS i e))⟩
theorem Only.of_below {S : Nat → Prop} {a b : World} (h : Below a.heap.size a b) : Only S a b := ⟨h.os, h.tape, h.output, h.size, fun i hi _ => h.block i hi⟩
theorem Only.of_grown {S : Nat → Prop} {a b : World} {row : Option Nat} (h : a.grownBy b row) (hr : ∀ k, row = some k → S k) : Only S a b :=
  ⟨h.os, h.tape, h.output, h.size, fun i hi hn => h.block i hi (fun e => hn (hr i e.symm))⟩
theorem Only.below {S : Nat → Prop} {a b : World} {B : Nat} (h : Only S a b) (hS : ∀ k, S k → B ≤ k) (hB : B ≤ a.heap.size) : Below B a b :=
  ⟨h.os, h.tape, h.output, h.size, fun i hi => h.block i (by omega) (fun e => by have := hS i e; omega)⟩

/-- A part of a word, as it lies: its kind, its text, the header of its own word. -/
structure Pt where
  k : Int
  t : ByteArray
  wv : Value
def Pt.cs (p : Pt) : List Value := [.int .i64 p.k, .string p.t, .string ⟨#[]⟩, .string ⟨#[]⟩, p.wv, .bool false]
def Pt.ok (p : Pt) : Prop := ∃ a c, p.wv = .slice a 0 c
def Pt.p2 (p : Pt) : P2 := (p.k, p.t.data.toList)
def lit (k : Int) (t : ByteArray) : Pt := ⟨k, t, .slice none 0 0⟩
theorem lit_ok (k : Int) (t : ByteArray) : (lit k t).ok := ⟨none, 0, rfl⟩
def pcs (L : List Pt) : List Value := L.flatMap Pt.cs
theorem pcs_len : ∀ L : List Pt, (pcs L).length = L.length * 6
  | [] => rfl
  | p :: L => by
    show (p.cs ++ pcs L).length = _
    rw [List.length_append, pcs_len L]; simp [Pt.cs]; omega
theorem pcs_at : ∀ (L : List Pt) (i q : Nat) (h : i < L.length), q < 6 → (pcs L)[i * 6 + q]? = L[i].cs[q]?
  | [], _, _, h, _ => absurd h (by simp)
  | p :: L, 0, q, _, hq => by
    show (p.cs ++ pcs L)[0 * 6 + q]? = _
    rw [Nat.zero_mul, Nat.zero_add, List.getElem?_append_left (by simpa [Pt.cs] using hq)]; rfl
  | p :: L, i + 1, q, h, hq => by
    show (p.cs ++ pcs L)[(i + 1) * 6 + q]? = _
    have hl : p.cs.length = 6 := rfl
    rw [List.getElem?_append_right (by rw [hl]; omega), hl, show (i + 1) * 6 + q - 6 = i * 6 + q by omega]
    exact pcs_at L i q (by simpa using h) hq
theorem pcs_one {L : List Pt} (h : ∀ p ∈ L, p.ok) : ∀ u ∈ pcs L, u.oneCell' = true := by
  intro u hu
  obtain ⟨p, hp, h2⟩ := List.mem_flatMap.1 hu
  obtain ⟨a, c, e⟩ := h p hp
  simp only [Pt.cs, e, List.mem_cons, List.not_mem_nil, or_false] at h2
  rcases h2 with rfl | rfl | rfl | rfl | rfl | rfl <;> rfl
theorem pcs_app (L M : List Pt) : pcs (L ++ M) = pcs L ++ pcs M := by simp [pcs]
/-- The parts L, in a row of the call's own. -/
structure Row (w : World) (B : Nat) (v : Value) (L : List Pt) : Prop where
  own : w.ownsRow B 31 6 v L.length (pcs L)
  ok : ∀ p ∈ L, p.ok
theorem Row.nil (w : World) (B : Nat) : Row w B (.slice none 0 0) [] := ⟨World.ownsRow_nil _ _ _ _, fun p hp => by cases hp⟩
theorem Row.only {S : Nat → Prop} {w w' : World} {B : Nat} {v : Value} {L : List Pt} (h : Row w B v L) (hO : Only S w w') (hn : ∀ k, v.ownBlock = some k → ¬ S k) : Row w' B v L := by
  refine ⟨⟨h.own.1, ?_⟩, h.ok⟩
  rcases h.own.2 with h1 | ⟨b, cap, cur, rfl, h2, h3, h4⟩
  · exact .inl h1
  · exact .inr ⟨b, cap, cur, rfl, h2, (hO.block b (Array.getElem?_eq_some_iff.1 h3).1 (hn b rfl)).trans h3, h4⟩
theorem Row.below {w w' : World} {B : Nat} {v : Value} {L : List Pt} (h : Row w B v L) (hb : Below w.heap.size w w') : Row w' B v L :=
  h.only (S := fun _ => False) (Only.of_below hb) (fun _ _ e => e)
theorem Row.mono {w : World} {B B' : Nat} {v : Value} {L : List Pt} (h : Row w B v L) (hb : B' ≤ B) : Row w B' v L := ⟨World.ownsRow.mono h.own hb, h.ok⟩
theorem add6 (b off k : Nat) : (⟨b, off, none⟩ : Addr).add (k * 6) = ⟨b, off + k * 6, none⟩ := by unfold Addr.add; split <;> simp_all
theorem addn (b off k : Nat) : (⟨b, off, none⟩ : Addr).add k = ⟨b, off + k, none⟩ := by unfold Addr.add; split <;> simp_all
/-- The parts L, to be read behind v. -/
structure Sl (w : World) (v : Value) (L : List Pt) : Prop where
  form : ∃ a c, v = .slice a L.length c ∧ ∀ i (h : i < L.length), ∃ b off, a = some ⟨b, off, none⟩ ∧ b < w.heap.size ∧ ∀ q u, L[i].cs[q]? = some u → w.cell? ⟨b, off + i * 6 + q, none⟩ = some u
  ok : ∀ p ∈ L, p.ok
theorem Sl.below {w w' : World} {v : Value} {L : List Pt} (h : Sl w v L) (hb : Below w.heap.size w w') : Sl w' v L := by
  obtain ⟨⟨a, c, h1, h2⟩, h3⟩ := h
  refine ⟨⟨a, c, h1, fun i hi => ?_⟩, h3⟩
  obtain ⟨b, off, e1, e2, e3⟩ := h2 i hi
  exact ⟨b, off, e1, Nat.lt_of_lt_of_le e2 hb.size, fun q u hq => (hb.cell (p := ⟨b, _, none⟩) e2).trans (e3 q u hq)⟩
theorem Row.sl {w : World} {B : Nat} {v : Value} {L : List Pt} (h : Row w B v L) : Sl w v L := by
  refine ⟨?_, h.ok⟩
  rcases h.own.2 with ⟨rfl, h0⟩ | ⟨b, cap, cur, rfl, h2, h3, h4⟩
  · exact ⟨none, 0, by rw [h0], fun i hi => by omega⟩
  · refine ⟨_, cap, rfl, fun i hi => ⟨b, 0, rfl, (Array.getElem?_eq_some_iff.1 h3).1, fun q u hq => ?_⟩⟩
    have hq6 : q < 6 := by
      have := (List.getElem?_eq_some_iff.1 hq).1
      simpa [Pt.cs] using this
    rw [Nat.zero_add, World.ownsRow.cellAt h.own (i * 6 + q) (by omega), pcs_at L i q hi hq6]
    exact hq
theorem Row.form {w : World} {B : Nat} {v : Value} {L : List Pt} (h : Row w B v L) : ∃ s c, v = .slice s L.length c := by
  obtain ⟨a, c, h1, _⟩ := h.sl.form
  exact ⟨a, c, h1⟩

theorem info31 : (Try.prog.info? 31).map (fun i => (i.zero, i.size, i.bytes)) = some (some (.agg #[.int .i64 0, .string ⟨#[]⟩, .string ⟨#[]⟩, .string ⟨#[]⟩, .slice none 0 0, .bool false]), 6, 88) := by kernel_rfl
theorem info22 : (Try.prog.info? 22).map (fun i => (i.zero, i.size, i.bytes)) = some (some (.slice none 0 0), 1, 24) := by kernel_rfl
/-- append to an own row, and where the row lies behind it. -/
theorem run_append_at {P : Program} (w : World) (base : Nat) (t ty e : TypeId) (i : TypeInfo) (z : Value) (size bytes : Nat) (ht : P.underlying t = some (.slice e)) (hi : P.info? e = some i) (hz : i.zero = some z)
    (hsize : i.size = size) (hby : i.bytes = bytes) (hzs : z.cells.size = size) (hsz : 0 < size)
    (v : Value) (n : Nat) (xs : List Value) (hown : w.ownsRow base e size v n xs)
    (a : Addr) (m c : Nat) (news : List Value) (hl : news.length = m * size) (hnews : ∀ j u, news[j]? = some u → w.cell? (a.add j) = some u) (h1 : ∀ u ∈ news, u.oneCell' = true)
    (h63 : n + m ≤ maxLen) (hbytes : (n + m) * bytes ≤ 140737488355328) (hbase : base ≤ w.heap.size) (hm : 0 < m) :
    ∃ v' w', (Builtin.append_ #[t, t] ty #[v, .slice (some a) m c]).run P w = .ok v' w' ∧ w'.ownsRow base e size v' (n + m) (xs ++ news) ∧ w.grownBy w' v.ownBlock ∧
      (v'.ownBlock = v.ownBlock ∨ v'.ownBlock = some w.heap.size) := by
  obtain ⟨v', w', hr, h2, h3, h4⟩ := run_append_own (P := P) w base t ty e i z size bytes ht hi hz hsize hby hzs hsz v n xs hown a m c news hl hnews h1 h63 hbytes hbase
  refine ⟨v', w', hr, h2, h3, ?_⟩
  subst hsize
  unfold maxLen at h63
  rcases hown.2 with ⟨rfl, rfl⟩ | ⟨g, cap, cur, rfl, hbg, hg, hnc, hcm, hcs, htake⟩
  · have hr2 := run_append_nil (P := P) w t ty e i z ht hi hz a m c news hl hnews (by omega) (by omega) (by rw [hby]; rw [Nat.zero_add] at hbytes; omega)
    rw [hr2] at hr
    injection hr with e _
    right
    rw [← e]; rfl
  · by_cases hroom : n + m ≤ cap
    · have hfit : n * i.size + news.length ≤ cur.size := by
        rw [hl, hcs, ← Nat.add_mul]; exact Nat.mul_le_mul_right _ hroom
      have hr2 := run_append_room (P := P) w t ty e i ht hi g n cap cur hg a m c news hl hnews h1 hroom hfit
      rw [hr2] at hr
      injection hr with e _
      left
      rw [← e]; rfl
    · have holds : ∀ j x, xs[j]? = some x → w.cell? ((⟨g, 0, none⟩ : Addr).add j) = some x := hown.cells (g := g) rfl
      have hr2 := run_append_grow (P := P) w t ty e i z ht hi hz ⟨g, 0, none⟩ n cap xs hown.1 holds a m c news hl hnews (by omega) (by omega) (growslice_fits (by omega) (by rw [hby]; exact hbytes))
      rw [hr2] at hr
      injection hr with e _
      right
      rw [← e]; rfl
/-- append of a row of parts (new ones in block vb). -/
theorem append_part (w : World) (B : Nat) (v : Value) (L : List Pt) (hL : L.length ≤ 100000) (hR : Row w B v L) (hB : B ≤ w.heap.size) (vb c : Nat) (p : Pt) (hp : p.ok) (h1 : ∀ j u, p.cs[j]? = some u → w.cell? ⟨vb, j, none⟩ = some u) (ty : TypeId) :
    ∃ v' w', (Builtin.append_ #[22, 22] ty #[v, .slice (some ⟨vb, 0, none⟩) 1 c]).run Try.prog w = .ok v' w' ∧ Row w' B v' (L ++ [p]) ∧ w.grownBy w' v.ownBlock ∧ (v'.ownBlock = v.ownBlock ∨ v'.ownBlock = some w.heap.size) := by
  obtain ⟨i0, hi, hz0, hz1, hz2⟩ := info_parts info31
  obtain ⟨v', w', h2, h3, h4, h5⟩ := run_append_at (P := Try.prog) w B 22 ty 31 i0 _ 6 88 Try.underlying22 hi hz0 hz1 hz2 rfl (by decide) v L.length (pcs L) hR.own ⟨vb, 0, none⟩ 1 c p.cs rfl (fun j u hj => by rw [addn, Nat.zero_add]; exact h1 j u hj)
    (by obtain ⟨a, c, e⟩ := hp
        intro u hu
        simp only [Pt.cs, e, List.mem_cons, List.not_mem_nil, or_false] at hu
        rcases hu with rfl | rfl | rfl | rfl | rfl | rfl <;> rfl) (by unfold maxLen; omega) (by omega) hB (by decide)
  refine ⟨v', w', h2, ⟨?_, ?_⟩, h4, h5⟩
  · rw [pcs_app, List.length_append]; simpa [pcs] using h3
  · intro q hq
    rcases List.mem_append.1 hq with hq | hq
    · exact hR.ok q hq
    · rw [List.mem_singleton] at hq; subst hq; exact hp
theorem wpList_run_append {P : Program} (w : World) {ops : Array Oper} {rest : List Oper} {o : Oper} {a : Act} {Q : Exit → Act → World → Prop} (hgd : o.guard = none) (d s : Operand) (t t' : TypeId)
    (ho : o.op = .call { callee := .builtin .append, args := #[d, s], argTypes := #[t, t'] }) (v u : Value) (hd : a.eval d = v) (hs : a.eval s = u) {v' : Value} {w' : World}
    (hr : (Builtin.append_ #[t, t'] o.type #[v, u]).run P w = .ok v' w') (h : wpList P ops Q rest (a.put o.dst v') w') : wpList P ops Q (o :: rest) a w := by
  refine wpList_plain hgd fun K hK => ?_
  unfold Oper.wp
  simp [execOp, ho, resolve, invoke, builtin, hd, hs, hr, Result.andThen]
  exact hK _ _ h
theorem lit_new (w : World) (p : Pt) : ∀ j u, p.cs[j]? = some u → (w.alloc (.cells p.cs.toArray 31)).cell? ⟨w.heap.size, j, none⟩ = some u := by
  intro j u hj
  simp only [World.cell?, heap_alloc_new w]
  simpa using hj
end Go.Proofs.Ytdkkfcpnfhfjdaa
