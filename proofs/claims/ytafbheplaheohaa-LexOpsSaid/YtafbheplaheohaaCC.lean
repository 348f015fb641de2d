import Derived.Test.YtafbheplaheohaaBA
import Derived.Test.YtafbheplaheohaaCB
namespace Go.Proofs.Ytafbheplaheohaa
open Go.RowKit
set_option linter.unusedVariables false

/-- A token, as it lies. -/
structure Tk where
  k : Int
  t : ByteArray
  wv : Value
def Tk.cs (p : Tk) : List Value := [.int .i64 p.k, .string p.t, p.wv]
def tokK : Tok → Nat | .op _ => 2 | .word _ => 1
def tokT : Tok → Bz | .op t => t | .word _ => []
def tokW : Tok → List Prt | .op _ => [] | .word l => l
def Tk.is (p : Tk) (x : Tok) : Prop := p.k = (tokK x : Int) ∧ p.t.data.toList = tokT x
def tcs (L : List Tk) : List Value := L.flatMap Tk.cs
theorem tcs_len : ∀ L : List Tk, (tcs L).length = L.length * 3
  | [] => rfl
  | p :: L => by
    show (p.cs ++ tcs L).length = _
    rw [List.length_append, tcs_len L]; simp [Tk.cs]; omega
theorem tcs_at : ∀ (L : List Tk) (i q : Nat) (h : i < L.length), q < 3 → (tcs L)[i * 3 + q]? = L[i].cs[q]?
  | [], _, _, h, _ => absurd h (by simp)
  | p :: L, 0, q, _, hq => by
    show (p.cs ++ tcs L)[0 * 3 + q]? = _
    rw [Nat.zero_mul, Nat.zero_add, List.getElem?_append_left (by simpa [Tk.cs] using hq)]; rfl
  | p :: L, i + 1, q, h, hq => by
    show (p.cs ++ tcs L)[(i + 1) * 3 + q]? = _
    have hl : p.cs.length = 3 := rfl
    rw [List.getElem?_append_right (by rw [hl]; omega), hl, show (i + 1) * 3 + q - 3 = i * 3 + q by omega]
    exact tcs_at L i q (by simpa using h) hq
theorem tcs_app (L M : List Tk) : tcs (L ++ M) = tcs L ++ tcs M := by simp [tcs]
theorem info34 : (Try.prog.info? 34).map (fun i => (i.zero, i.size, i.bytes)) = some (some (.agg #[.int .i64 0, .string ⟨#[]⟩, .slice none 0 0]), 3, 48) := by kernel_rfl
/-- The tokens l, in a row of the call's own. -/
structure TRow (w : World) (B : Nat) (v : Value) (l : List Tok) (L : List Tk) : Prop where
  own : w.ownsRow B 34 3 v L.length (tcs L)
  len : L.length = l.length
  is : ∀ i (h : i < L.length) (h' : i < l.length), L[i].is l[i]
  word : ∀ i (h : i < L.length) (h' : i < l.length), Wd w (fun k => B ≤ k) L[i].wv (tokW l[i])
theorem TRow.nil (w : World) (B : Nat) : TRow w B (.slice none 0 0) [] [] := ⟨World.ownsRow_nil _ _ _ _, rfl, fun i h => absurd h (by simp), fun i h => absurd h (by simp)⟩
theorem TRow.keep {w w' : World} {B : Nat} {v : Value} {l : List Tok} {L : List Tk} (h : TRow w B v l L) (hk : ∀ (g : Nat) (c : Array Value) (ty : TypeId), B ≤ g → (ty = 34 ∨ ty = 39) → w.heap[g]? = some (Obj.cells c ty (0, 0)) → w'.heap[g]? = some (Obj.cells c ty (0, 0))) : TRow w' B v l L :=
  ⟨own_keep h.own fun g c hg h1 => hk g c 34 (h.own.lt g hg).1 (.inl rfl) h1, h.len, h.is, fun i h1 h2 => (h.word i h1 h2).keep fun g cur h3 h4 => ⟨h3, hk g cur 39 h3 (.inr rfl) h4⟩⟩
theorem TRow.under {w w' : World} {B : Nat} {v : Value} {l : List Tok} {L : List Tk} (h : TRow w B v l L) (hb : Below w.heap.size w w') : TRow w' B v l L :=
  h.keep fun g c ty _ _ h1 => (hb.block g (Array.getElem?_eq_some_iff.1 h1).1).trans h1
/-- What the reader alone turned leaves the tokens. -/
theorem TRow.rd {w w' : World} {B rb a : Nat} {S : ByteArray} {v : Value} {l : List Tok} {L : List Tk} (h : TRow w B v l L) (hr : Rd w rb S a) (ho : Only (fun k => k = rb) w w') : TRow w' B v l L :=
  h.keep fun g c ty _ ht h1 => (ho.block g (Array.getElem?_eq_some_iff.1 h1).1 (cells_ne h1 hr (by rcases ht with rfl | rfl <;> decide))).trans h1
theorem TRow.push {w : World} {B : Nat} {v : Value} {l : List Tok} {L : List Tk} (h : TRow w B v l L) (hB : B ≤ w.heap.size) (hl : L.length ≤ 100000) (tk : Tk) (x : Tok) (hx : tk.is x) (hw : Wd w (fun k => B ≤ k) tk.wv (tokW x)) :
    ∃ (a : Option Addr) (c : Nat) (w' : World), (Builtin.append_ #[23, 23] 23 #[v, .slice (some ⟨w.heap.size, 0, none⟩) 1 1]).run Try.prog (w.alloc (.cells tk.cs.toArray 34)) = .ok (.slice a (L.length + 1) c) w' ∧
      TRow w' B (.slice a (L.length + 1) c) (l ++ [x]) (L ++ [tk]) ∧ Below B w w' ∧ (∀ (k : Nat) (cur : Array Value) (ty : TypeId), ty ≠ 34 → w.heap[k]? = some (Obj.cells cur ty (0, 0)) → w'.heap[k]? = some (Obj.cells cur ty (0, 0))) := by
  obtain ⟨i0, hi, hz0, hz1, hz2⟩ := info_parts info34
  have hbel : Below w.heap.size w (w.alloc (.cells tk.cs.toArray 34)) := (Below.refl _ _).alloc (Nat.le_refl _) _
  have hs1 : (w.alloc (.cells tk.cs.toArray 34)).heap.size = w.heap.size + 1 := by simp
  have hown := own_keep h.own (w' := w.alloc (.cells tk.cs.toArray 34)) fun g c hg h1 => (hbel.block g (h.own.lt g hg).2).trans h1
  have u23 : Try.prog.underlying 23 = some (.slice 34) := by kernel_rfl
  obtain ⟨wa, wc, hwf⟩ := hw.form
  obtain ⟨v', wC, h2, h3, h4, h5⟩ := run_append_at (P := Try.prog) (w.alloc (.cells tk.cs.toArray 34)) B 23 23 34 i0 _ 3 48 u23 hi hz0 hz1 hz2 rfl (by decide) v L.length (tcs L) hown ⟨w.heap.size, 0, none⟩ 1 1 tk.cs rfl
    (fun j u hj => by
      rw [addn, Nat.zero_add]
      simp only [World.cell?, heap_alloc_new w]
      simpa using hj) (by intro u hu; simp only [Tk.cs, List.mem_cons, List.not_mem_nil, or_false] at hu; rcases hu with rfl | rfl | rfl <;> first | rfl | (rw [hwf]; rfl)) (by unfold maxLen; omega) (by omega) (by omega) (by decide)
  obtain ⟨a, c, hf⟩ : ∃ a c, v' = .slice a (L.length + 1) c := by
    rcases own_form h3 with ⟨_, h0⟩ | ⟨g, c, e, _⟩
    · omega
    · exact ⟨_, c, e⟩
  subst hf
  have hbC : Below B w wC := (hbel.mono hB).trans ((Only.of_grown (S := fun i => v.ownBlock = some i) h4 (fun k hk => hk)).below (fun k hk => (hown.lt k hk).1) (by omega))
  have hne : ∀ (k : Nat) (cur : Array Value) (ty : TypeId), ty ≠ 34 → w.heap[k]? = some (.cells cur ty (0, 0)) → v.ownBlock ≠ some k := fun k cur ty ht hc e => by
    rcases own_form h.own with ⟨e1, _⟩ | ⟨g, c', e1, _, _, cur', e2⟩
    · rw [e1] at e; cases e
    · rw [e1] at e; cases e
      exact cells_ne hc e2 ht rfl
  have hkC : ∀ (k : Nat) (cur : Array Value) (ty : TypeId), ty ≠ 34 → w.heap[k]? = some (Obj.cells cur ty (0, 0)) → wC.heap[k]? = some (Obj.cells cur ty (0, 0)) := fun k cur ty ht hc => by
    have hk := (Array.getElem?_eq_some_iff.1 hc).1
    exact ((h4.block k (by omega) (fun e => hne k cur ty ht hc e.symm)).trans (hbel.block k hk)).trans hc
  have hwd : ∀ {u m}, Wd w (fun k => B ≤ k) u m → Wd wC (fun k => B ≤ k) u m := fun hu => hu.keep fun k cur h1 h2 => ⟨h1, hkC k cur 39 (by decide) h2⟩
  refine ⟨a, c, wC, h2, ⟨?_, ?_, fun i h1 h2 => ?_, fun i h1 h2 => ?_⟩, hbC, hkC⟩
  · rw [List.length_append, tcs_app]; exact h3
  · rw [List.length_append, List.length_append, h.len]; rfl
  · by_cases hil : i < L.length
    · rw [List.getElem_append_left hil, List.getElem_append_left (by rw [← h.len]; exact hil)]
      exact h.is i hil _
    · have : i = L.length := by rw [List.length_append, List.length_singleton] at h1; omega
      subst this
      rw [List.getElem_append_right (Nat.le_refl _), List.getElem_append_right (by rw [h.len]; exact Nat.le_refl _)]
      simpa [h.len] using hx
  · by_cases hil : i < L.length
    · rw [List.getElem_append_left hil, List.getElem_append_left (by rw [← h.len]; exact hil)]
      exact hwd (h.word i hil _)
    · have : i = L.length := by rw [List.length_append, List.length_singleton] at h1; omega
      subst this
      rw [List.getElem_append_right (Nat.le_refl _), List.getElem_append_right (by rw [h.len]; exact Nat.le_refl _)]
      simpa [h.len] using hwd hw
/-- What lex.Tokens answers. -/
def TokP (w : World) (r : Res (List Tok)) (e : Ending) (w' : World) : Prop := match r with
  | .error x => e = .returned (.tuple #[.slice none 0 0, .int .i64 x]) ∧ x ≠ 0 ∧ Below w.heap.size w w'
  | .ok l => ∃ a c L, e = .returned (.tuple #[.slice a l.length c, .int .i64 0]) ∧ TRow w' w.heap.size (.slice a l.length c) l L ∧ Below w.heap.size w w' ∧ l.length ≤ 20000
/-- Where the tokens have come to. -/
structure TS (w wx : World) (S : ByteArray) (a : Nat) (v : Value) (l : List Tok) (L : List Tk) : Prop where
  rd : Rd wx w.heap.size S a
  le : a ≤ S.size
  row : TRow wx w.heap.size v l L
  below : Below w.heap.size w wx
  len : l.length ≤ a
  eq : tokC S.data.toList [] = tokC (S.data.toList.drop a) l
theorem tokensF_bad {s : Bz} (h : mayN s ≠ 0) : tokensF s = .error (mayN s) := by unfold tokensF; rw [if_pos h]
end Go.Proofs.Ytafbheplaheohaa
