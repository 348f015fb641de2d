import Derived.Test.YtcmjpkfinbakkaaGreatDoorFZ
import Derived.Laws.OwnMore
import Derived.Laws.AppendOwn
import Derived.Deep.RegionLaw
import Derived.Deep.AppendLies
import Derived.Deep.AppendSrc
import Derived.Deep.Onto
namespace Go.Proofs.YtcmjpkfinbakkaaGreatDoor.Fd
open Go.RowKit
set_option linter.unusedVariables false

/-! The mathematics of a word's fields. -/
def isBl (c : UInt8) : Bool := [(32 : UInt8), 9, 10].contains c
/-- A part: its kind and its bytes. -/
abbrev P2 := Int × Bs
def wt (f : List P2) (a : Bs) : List P2 := if a = [] then f else f ++ [(1, a)]
def shut (fs : List (List P2)) (f : List P2) : List (List P2) := if f = [] then fs else fs ++ [f]
/-- The text of a part that may be parted, from a state on: the fields that are whole, the one in hand, and the bytes in hand. -/
def txB (fs : List (List P2)) (f : List P2) (acc : Bs) : Bs → List (List P2) × List P2
  | [] => (fs, wt f acc)
  | c :: t => if isBl c then txB (shut fs (wt f acc)) [] [] t else txB fs f (acc ++ [c]) t
def tx (fs : List (List P2)) (f : List P2) (s : Bs) : List (List P2) × List P2 := txB fs f [] s
theorem txB_app {fs : List (List P2)} {f : List P2} : ∀ {a r acc : Bs}, (∀ x ∈ a, isBl x = false) → txB fs f acc (a ++ r) = txB fs f (acc ++ a) r
  | [], r, acc, _ => by simp
  | c :: a, r, acc, h => by
    rw [List.cons_append, txB, if_neg (by simp [h c (by simp)]), txB_app (fun x hx => h x (by simp [hx]))]
    simp
theorem tx_none {fs : List (List P2)} {f : List P2} {s : Bs} (h : ∀ c ∈ s, isBl c = false) : tx fs f s = (fs, wt f s) := by
  unfold tx
  have := txB_app (fs := fs) (f := f) (a := s) (r := []) (acc := []) h
  rw [List.append_nil, List.nil_append] at this
  rw [this, txB]
theorem tx_some {fs : List (List P2)} {f : List P2} {a r : Bs} {c : UInt8} (h : ∀ x ∈ a, isBl x = false) (hc : isBl c = true) : tx fs f (a ++ c :: r) = tx (shut fs (wt f a)) [] r := by
  unfold tx
  rw [txB_app h, List.nil_append, txB, if_pos hc]
def onePart (st : List (List P2) × List P2) (p : P2) : List (List P2) × List P2 := if p.1 = 1 then tx st.1 st.2 p.2 else (st.1, st.2 ++ [p])
def runL (l : List P2) : List (List P2) × List P2 := l.foldl onePart ([], [])
/-- The fields of a word. -/
def splitL (l : List P2) : List (List P2) := shut (runL l).1 (runL l).2
theorem runL_snoc (l : List P2) (p : P2) : runL (l ++ [p]) = onePart (runL l) p := by simp [runL]
/-- The text of a field, of fields. -/
def textL (f : List P2) : Bs := f.flatMap (·.2)
theorem textL_app (f g : List P2) : textL (f ++ g) = textL f ++ textL g := by simp [textL]
theorem textL_wt (f : List P2) (a : Bs) : textL (wt f a) = textL f ++ a := by
  unfold wt
  split
  · next h => rw [h, List.append_nil]
  · simp [textL]
def allText (fs : List (List P2)) : Bs := fs.flatMap textL
theorem allText_shut (fs : List (List P2)) (f : List P2) : allText (shut fs f) = allText fs ++ textL f := by
  unfold shut
  split
  · next h => rw [h]; simp [textL]
  · simp [allText]
theorem wt_ne {f : List P2} {a : Bs} (h : a ≠ []) : wt f a ≠ [] := by unfold wt; rw [if_neg h]; simp
/-- What is left of a text without its blanks. -/
def noBl (s : Bs) : Bs := s.filter fun c => !isBl c
theorem txB_text : ∀ (fs : List (List P2)) (f : List P2) (acc s : Bs), allText (txB fs f acc s).1 ++ textL (txB fs f acc s).2 = allText fs ++ textL f ++ acc ++ noBl s
  | fs, f, acc, [] => by simp [txB, textL_wt, noBl]
  | fs, f, acc, c :: t => by
    rw [txB]
    by_cases h : isBl c = true
    · rw [if_pos h, txB_text, allText_shut, textL_wt]
      simp [noBl, h, textL]
    · rw [if_neg h, txB_text]
      simp [noBl, h]
theorem tx_text (fs : List (List P2)) (f : List P2) (s : Bs) : allText (tx fs f s).1 ++ textL (tx fs f s).2 = allText fs ++ textL f ++ noBl s := by
  unfold tx; rw [txB_text]; simp
/-- What the law holds the fields against. -/
def wantL (l : List P2) : Bs := l.flatMap fun p => if p.1 = 1 then noBl p.2 else p.2
theorem runL_text (l : List P2) : allText (runL l).1 ++ textL (runL l).2 = wantL l := by
  have key : ∀ (l : List P2) (st : List (List P2) × List P2), allText (l.foldl onePart st).1 ++ textL (l.foldl onePart st).2 = allText st.1 ++ textL st.2 ++ wantL l := by
    intro l
    induction l with
    | nil => intro st; simp [wantL]
    | cons p l ih =>
      intro st
      rw [List.foldl_cons, ih]
      have : allText (onePart st p).1 ++ textL (onePart st p).2 = allText st.1 ++ textL st.2 ++ (if p.1 = 1 then noBl p.2 else p.2) := by
        unfold onePart
        split
        · rw [tx_text]
        · simp [textL]
      rw [this]
      simp [wantL]
  have := key l ([], [])
  unfold runL
  rw [this]
  simp [allText, textL]
theorem splitL_text (l : List P2) : allText (splitL l) = wantL l := by
  unfold splitL
  rw [allText_shut, runL_text]
/-- No field is empty. -/
def Full (fs : List (List P2)) : Prop := ∀ f ∈ fs, f ≠ []
theorem full_shut {fs : List (List P2)} {f : List P2} (h : Full fs) : Full (shut fs f) := by
  unfold shut
  split
  · exact h
  · next hf =>
    intro g hg
    rcases List.mem_append.1 hg with hg | hg
    · exact h g hg
    · rw [List.mem_singleton] at hg; subst hg; exact hf
theorem full_txB : ∀ {fs : List (List P2)} {f : List P2} {acc s : Bs}, Full fs → Full (txB fs f acc s).1
  | fs, f, acc, [], h => h
  | fs, f, acc, c :: t, h => by
    rw [txB]
    split
    · exact full_txB (full_shut h)
    · exact full_txB h
theorem full_splitL (l : List P2) : Full (splitL l) := by
  have key : ∀ (l : List P2) (st : List (List P2) × List P2), Full st.1 → Full (l.foldl onePart st).1 := by
    intro l
    induction l with
    | nil => intro st h; exact h
    | cons p l ih =>
      intro st h
      rw [List.foldl_cons]
      refine ih _ ?_
      unfold onePart
      split
      · exact full_txB h
      · exact h
  exact full_shut (key l _ (by intro f hf; cases hf))
theorem shut_nil (fs : List (List P2)) : shut fs [] = fs := by simp [shut]
theorem wt_nil (f : List P2) : wt f [] = f := by simp [wt]
theorem skip_blanks : ∀ (bl : Bs) (fs : List (List P2)) (r : Bs), (∀ c ∈ bl, isBl c = true) → txB fs [] [] (bl ++ r) = txB fs [] [] r
  | [], fs, r, _ => rfl
  | c :: bl, fs, r, h => by
    rw [List.cons_append, txB, if_pos (h c (by simp)), wt_nil, shut_nil, skip_blanks bl fs r (fun x hx => h x (by simp [hx]))]
theorem txB_blanks {bl : Bs} {fs : List (List P2)} {acc r : Bs} (h : ∀ c ∈ bl, isBl c = true) (h0 : bl ≠ []) : txB fs [] acc (bl ++ r) = txB (shut fs (wt [] acc)) [] [] r := by
  cases bl with
  | nil => exact absurd rfl h0
  | cons c bl =>
    rw [List.cons_append, txB, if_pos (h c (by simp)), skip_blanks bl _ r (fun x hx => h x (by simp [hx]))]
/-- Words parted by blanks. -/
theorem split_words : ∀ (ws : List Bs) (bl : Bs) (fs : List (List P2)) (acc : Bs), bl ≠ [] → (∀ c ∈ bl, isBl c = true) → (∀ x ∈ ws, x ≠ [] ∧ ∀ c ∈ x, isBl c = false) →
    shut (txB fs [] acc (ws.flatMap fun x => bl ++ x)).1 (txB fs [] acc (ws.flatMap fun x => bl ++ x)).2 = shut fs (wt [] acc) ++ ws.map fun x => [((1 : Int), x)]
  | [], bl, fs, acc, _, _, _ => by simp [txB]
  | x :: ws, bl, fs, acc, h1, h2, h3 => by
    have hx := h3 x (by simp)
    rw [List.flatMap_cons, List.append_assoc, txB_blanks h2 h1, txB_app hx.2, List.nil_append, split_words ws bl _ x h1 h2 (fun y hy => h3 y (by simp [hy]))]
    have e : wt [] x = [(1, x)] := by simp [wt, hx.1]
    rw [e]
    simp [shut]
theorem splitL_words (ws : List Bs) (bl : Bs) (h1 : bl ≠ []) (h2 : ∀ c ∈ bl, isBl c = true) (h3 : ∀ x ∈ ws, x ≠ [] ∧ ∀ c ∈ x, isBl c = false) : splitL [(1, ws.flatMap fun x => bl ++ x)] = ws.map fun x => [((1 : Int), x)] := by
  have := split_words ws bl [] [] h1 h2 h3
  simpa [splitL, runL, onePart, tx, wt, shut] using this
theorem splitL_quote (k : Int) (hk : k ≠ 1) (s : Bs) : splitL [(k, s)] = [[(k, s)]] := by
  simp [splitL, runL, onePart, hk, shut]
/-- Where the first blank stands. -/
theorem any_none {s : Bs} (h : Lib.indexAny s [32, 9, 10] < 0) : ∀ c ∈ s, isBl c = false := by
  induction s with
  | nil => intro c hc; cases hc
  | cons b l ih =>
    rw [Lib.indexAny] at h
    by_cases hb : [(32 : UInt8), 9, 10].contains b = true
    · rw [if_pos hb] at h; exact absurd h (by decide)
    · rw [if_neg hb] at h
      have hge := Lib.indexAny_ge [32, 9, 10] l
      have hl : Lib.indexAny l [32, 9, 10] < 0 := by
        by_cases e : Lib.indexAny l [32, 9, 10] = -1
        · omega
        · rw [if_neg (by simpa using e)] at h; omega
      intro c hc
      rcases List.mem_cons.1 hc with rfl | hc
      · simpa [isBl] using hb
      · exact ih hl c hc
theorem any_some : ∀ {s : Bs} {k : Nat}, Lib.indexAny s [32, 9, 10] = k → ∃ c, k < s.length ∧ (∀ x ∈ s.take k, isBl x = false) ∧ s.drop k = c :: s.drop (k + 1) ∧ isBl c = true
  | [], k, h => by rw [Lib.indexAny] at h; omega
  | b :: l, k, h => by
    rw [Lib.indexAny] at h
    by_cases hb : [(32 : UInt8), 9, 10].contains b = true
    · rw [if_pos hb] at h
      obtain rfl : k = 0 := by omega
      exact ⟨b, by simp, by simp, rfl, hb⟩
    · rw [if_neg hb] at h
      by_cases e : Lib.indexAny l [32, 9, 10] = -1
      · rw [if_pos (by simpa using e)] at h; omega
      · rw [if_neg (by simpa using e)] at h
        have hge := Lib.indexAny_ge [32, 9, 10] l
        obtain ⟨j, hj⟩ : ∃ j : Nat, k = j + 1 := ⟨k - 1, by omega⟩
        subst hj
        obtain ⟨c, h1, h2, h3, h4⟩ := any_some (s := l) (k := j) (by omega)
        refine ⟨c, by simpa using h1, ?_, by simpa using h3, h4⟩
        intro x hx
        rw [List.take_succ_cons] at hx
        rcases List.mem_cons.1 hx with rfl | hx
        · simpa [isBl] using hb
        · exact h2 x hx
end Go.Proofs.YtcmjpkfinbakkaaGreatDoor.Fd

namespace Go.Proofs.YtcmjpkfinbakkaaGreatDoor.Fd
open Go.RowKit
set_option linter.unusedVariables false

/-- Of what was there nothing but the blocks of S has turned. -/
structure Only (S : Nat → Prop) (w w' : World) : Prop where
  os : w'.os = w.os
  tape : w'.tape = w.tape
  output : w'.output = w.output
  size : w.heap.size ≤ w'.heap.size
  block : ∀ k, k < w.heap.size → ¬ S k → w'.heap[k]? = w.heap[k]?
theorem Only.refl (S : Nat → Prop) (w : World) : Only S w w := ⟨rfl, rfl, rfl, Nat.le_refl _, fun _ _ _ => rfl⟩
theorem Only.trans {S S' T : Nat → Prop} {a b c : World} (h : Only S a b) (k : Only S' b c) (hS : ∀ i, S i → T i) (hS' : ∀ i, i < a.heap.size → S' i → T i) : Only T a c :=
  ⟨k.os.trans h.os, k.tape.trans h.tape, k.output.trans h.output, Nat.le_trans h.size k.size, fun i hi hn =>
    (k.block i (Nat.lt_of_lt_of_le hi h.size) (fun e => hn (hS' i hi e))).trans (h.block i hi (fun e => hn (hS i e)))⟩
theorem Only.mono {S T : Nat → Prop} {a b : World} (h : Only S a b) (hS : ∀ i, S i → T i) : Only T a b := ⟨h.os, h.tape, h.output, h.size, fun i hi hn => h.block i hi (fun e => hn (hS i e))⟩
theorem Only.of_below {S : Nat → Prop} {a b : World} (h : Below a.heap.size a b) : Only S a b := ⟨h.os, h.tape, h.output, h.size, fun i hi _ => h.block i hi⟩
theorem Only.of_grown {S : Nat → Prop} {a b : World} {row : Option Nat} (h : a.grownBy b row) (hr : ∀ k, row = some k → S k) : Only S a b :=
  ⟨h.os, h.tape, h.output, h.size, fun i hi hn => h.block i hi (fun e => hn (hr i e.symm))⟩
theorem Only.below {S : Nat → Prop} {a b : World} {B : Nat} (h : Only S a b) (hS : ∀ k, S k → B ≤ k) (hB : B ≤ a.heap.size) : Below B a b :=
  ⟨h.os, h.tape, h.output, h.size, fun i hi => h.block i (by omega) (fun e => by have := hS i e; omega)⟩

/-- A part of a word, as it lies: its kind, its text, the header of its own word. -/
structure Pt where
  k : Int
  t : ByteArray
  wv : Value
def Pt.cs (p : Pt) : List Value := [.int .i64 p.k, .string p.t, .string ⟨#[]⟩, .string ⟨#[]⟩, p.wv, .bool false]
def Pt.ok (p : Pt) : Prop := ∃ a c, p.wv = .slice a 0 c
def Pt.p2 (p : Pt) : P2 := (p.k, p.t.data.toList)
def lit (k : Int) (t : ByteArray) : Pt := ⟨k, t, .slice none 0 0⟩
theorem lit_ok (k : Int) (t : ByteArray) : (lit k t).ok := ⟨none, 0, rfl⟩
def pcs (L : List Pt) : List Value := L.flatMap Pt.cs
theorem pcs_len : ∀ L : List Pt, (pcs L).length = L.length * 6
  | [] => rfl
  | p :: L => by
    show (p.cs ++ pcs L).length = _
    rw [List.length_append, pcs_len L]; simp [Pt.cs]; omega
theorem pcs_at : ∀ (L : List Pt) (i q : Nat) (h : i < L.length), q < 6 → (pcs L)[i * 6 + q]? = L[i].cs[q]?
  | [], _, _, h, _ => absurd h (by simp)
  | p :: L, 0, q, _, hq => by
    show (p.cs ++ pcs L)[0 * 6 + q]? = _
    rw [Nat.zero_mul, Nat.zero_add, List.getElem?_append_left (by simpa [Pt.cs] using hq)]; rfl
  | p :: L, i + 1, q, h, hq => by
    show (p.cs ++ pcs L)[(i + 1) * 6 + q]? = _
    have hl : p.cs.length = 6 := rfl
    rw [List.getElem?_append_right (by rw [hl]; omega), hl, show (i + 1) * 6 + q - 6 = i * 6 + q by omega]
    exact pcs_at L i q (by simpa using h) hq
theorem pcs_one {L : List Pt} (h : ∀ p ∈ L, p.ok) : ∀ u ∈ pcs L, u.oneCell' = true := by
  intro u hu
  obtain ⟨p, hp, h2⟩ := List.mem_flatMap.1 hu
  obtain ⟨a, c, e⟩ := h p hp
  simp only [Pt.cs, e, List.mem_cons, List.not_mem_nil, or_false] at h2
  rcases h2 with rfl | rfl | rfl | rfl | rfl | rfl <;> rfl
theorem pcs_app (L M : List Pt) : pcs (L ++ M) = pcs L ++ pcs M := by simp [pcs]
/-- The parts L, in a row of the call's own. -/
structure Row (w : World) (B : Nat) (v : Value) (L : List Pt) : Prop where
  own : w.ownsRow B 36 6 v L.length (pcs L)
  ok : ∀ p ∈ L, p.ok
theorem Row.nil (w : World) (B : Nat) : Row w B (.slice none 0 0) [] := ⟨World.ownsRow_nil _ _ _ _, fun p hp => by cases hp⟩
theorem Row.only {S : Nat → Prop} {w w' : World} {B : Nat} {v : Value} {L : List Pt} (h : Row w B v L) (hO : Only S w w') (hn : ∀ k, v.ownBlock = some k → ¬ S k) : Row w' B v L := by
  refine ⟨⟨h.own.1, ?_⟩, h.ok⟩
  rcases h.own.2 with h1 | ⟨b, cap, cur, rfl, h2, h3, h4⟩
  · exact .inl h1
  · exact .inr ⟨b, cap, cur, rfl, h2, (hO.block b (Array.getElem?_eq_some_iff.1 h3).1 (hn b rfl)).trans h3, h4⟩
theorem Row.below {w w' : World} {B : Nat} {v : Value} {L : List Pt} (h : Row w B v L) (hb : Below w.heap.size w w') : Row w' B v L :=
  h.only (S := fun _ => False) (Only.of_below hb) (fun _ _ e => e)
theorem Row.mono {w : World} {B B' : Nat} {v : Value} {L : List Pt} (h : Row w B v L) (hb : B' ≤ B) : Row w B' v L := ⟨World.ownsRow.mono h.own hb, h.ok⟩
theorem add6 (b off k : Nat) : (⟨b, off, none⟩ : Addr).add (k * 6) = ⟨b, off + k * 6, none⟩ := by unfold Addr.add; split <;> simp_all
theorem addn (b off k : Nat) : (⟨b, off, none⟩ : Addr).add k = ⟨b, off + k, none⟩ := by unfold Addr.add; split <;> simp_all
/-- The parts L, to be read behind v. -/
structure Sl (w : World) (v : Value) (L : List Pt) : Prop where
  form : ∃ a c, v = .slice a L.length c ∧ ∀ i (h : i < L.length), ∃ b off, a = some ⟨b, off, none⟩ ∧ b < w.heap.size ∧ ∀ q u, L[i].cs[q]? = some u → w.cell? ⟨b, off + i * 6 + q, none⟩ = some u
  ok : ∀ p ∈ L, p.ok
theorem Sl.below {w w' : World} {v : Value} {L : List Pt} (h : Sl w v L) (hb : Below w.heap.size w w') : Sl w' v L := by
  obtain ⟨⟨a, c, h1, h2⟩, h3⟩ := h
  refine ⟨⟨a, c, h1, fun i hi => ?_⟩, h3⟩
  obtain ⟨b, off, e1, e2, e3⟩ := h2 i hi
  exact ⟨b, off, e1, Nat.lt_of_lt_of_le e2 hb.size, fun q u hq => (hb.cell (p := ⟨b, _, none⟩) e2).trans (e3 q u hq)⟩
theorem Row.sl {w : World} {B : Nat} {v : Value} {L : List Pt} (h : Row w B v L) : Sl w v L := by
  refine ⟨?_, h.ok⟩
  rcases h.own.2 with ⟨rfl, h0⟩ | ⟨b, cap, cur, rfl, h2, h3, h4⟩
  · exact ⟨none, 0, by rw [h0], fun i hi => by omega⟩
  · refine ⟨_, cap, rfl, fun i hi => ⟨b, 0, rfl, (Array.getElem?_eq_some_iff.1 h3).1, fun q u hq => ?_⟩⟩
    have hq6 : q < 6 := by
      have := (List.getElem?_eq_some_iff.1 hq).1
      simpa [Pt.cs] using this
    rw [Nat.zero_add, World.ownsRow.cellAt h.own (i * 6 + q) (by omega), pcs_at L i q hi hq6]
    exact hq
theorem Row.form {w : World} {B : Nat} {v : Value} {L : List Pt} (h : Row w B v L) : ∃ s c, v = .slice s L.length c := by
  obtain ⟨a, c, h1, _⟩ := h.sl.form
  exact ⟨a, c, h1⟩

theorem info36 : (Tryz.prog.info? 36).map (fun i => (i.zero, i.size, i.bytes)) = some (some (.agg #[.int .i64 0, .string ⟨#[]⟩, .string ⟨#[]⟩, .string ⟨#[]⟩, .slice none 0 0, .bool false]), 6, 88) := by kernel_rfl
theorem info34 : (Tryz.prog.info? 34).map (fun i => (i.zero, i.size, i.bytes)) = some (some (.slice none 0 0), 1, 24) := by kernel_rfl
/-- append to an own row, and where the row lies behind it. -/
theorem run_append_at {P : Program} (w : World) (base : Nat) (t ty e : TypeId) (i : TypeInfo) (z : Value) (size bytes : Nat) (ht : P.underlying t = some (.slice e)) (hi : P.info? e = some i) (hz : i.zero = some z)
    (hsize : i.size = size) (hby : i.bytes = bytes) (hzs : z.cells.size = size) (hsz : 0 < size)
    (v : Value) (n : Nat) (xs : List Value) (hown : w.ownsRow base e size v n xs)
    (a : Addr) (m c : Nat) (news : List Value) (hl : news.length = m * size) (hnews : ∀ j u, news[j]? = some u → w.cell? (a.add j) = some u) (h1 : ∀ u ∈ news, u.oneCell' = true)
    (h63 : n + m ≤ maxLen) (hbytes : (n + m) * bytes ≤ 140737488355328) (hbase : base ≤ w.heap.size) (hm : 0 < m) :
    ∃ v' w', (Builtin.append_ #[t, t] ty #[v, .slice (some a) m c]).run P w = .ok v' w' ∧ w'.ownsRow base e size v' (n + m) (xs ++ news) ∧ w.grownBy w' v.ownBlock ∧
      (v'.ownBlock = v.ownBlock ∨ v'.ownBlock = some w.heap.size) := by
  obtain ⟨v', w', hr, h2, h3, h4⟩ := run_append_own (P := P) w base t ty e i z size bytes ht hi hz hsize hby hzs hsz v n xs hown a m c news hl hnews h1 h63 hbytes hbase
  refine ⟨v', w', hr, h2, h3, ?_⟩
  subst hsize
  unfold maxLen at h63
  rcases hown.2 with ⟨rfl, rfl⟩ | ⟨g, cap, cur, rfl, hbg, hg, hnc, hcm, hcs, htake⟩
  · have hr2 := run_append_nil (P := P) w t ty e i z ht hi hz a m c news hl hnews (by omega) (by omega) (by rw [hby]; rw [Nat.zero_add] at hbytes; omega)
    rw [hr2] at hr
    injection hr with e _
    right
    rw [← e]; rfl
  · by_cases hroom : n + m ≤ cap
    · have hfit : n * i.size + news.length ≤ cur.size := by
        rw [hl, hcs, ← Nat.add_mul]; exact Nat.mul_le_mul_right _ hroom
      have hr2 := run_append_room (P := P) w t ty e i ht hi g n cap cur hg a m c news hl hnews h1 hroom hfit
      rw [hr2] at hr
      injection hr with e _
      left
      rw [← e]; rfl
    · have holds : ∀ j x, xs[j]? = some x → w.cell? ((⟨g, 0, none⟩ : Addr).add j) = some x := hown.cells (g := g) rfl
      have hr2 := run_append_grow (P := P) w t ty e i z ht hi hz ⟨g, 0, none⟩ n cap xs hown.1 holds a m c news hl hnews (by omega) (by omega) (growslice_fits (by omega) (by rw [hby]; exact hbytes))
      rw [hr2] at hr
      injection hr with e _
      right
      rw [← e]; rfl
/-- append of a row of parts (new ones in block vb). -/
theorem append_part (w : World) (B : Nat) (v : Value) (L : List Pt) (hL : L.length ≤ 100000) (hR : Row w B v L) (hB : B ≤ w.heap.size) (vb c : Nat) (p : Pt) (hp : p.ok) (h1 : ∀ j u, p.cs[j]? = some u → w.cell? ⟨vb, j, none⟩ = some u) (ty : TypeId) :
    ∃ v' w', (Builtin.append_ #[34, 34] ty #[v, .slice (some ⟨vb, 0, none⟩) 1 c]).run Tryz.prog w = .ok v' w' ∧ Row w' B v' (L ++ [p]) ∧ w.grownBy w' v.ownBlock ∧ (v'.ownBlock = v.ownBlock ∨ v'.ownBlock = some w.heap.size) := by
  obtain ⟨i0, hi, hz0, hz1, hz2⟩ := info_parts info36
  obtain ⟨v', w', h2, h3, h4, h5⟩ := run_append_at (P := Tryz.prog) w B 34 ty 36 i0 _ 6 88 Tryz.underlying34 hi hz0 hz1 hz2 rfl (by decide) v L.length (pcs L) hR.own ⟨vb, 0, none⟩ 1 c p.cs rfl (fun j u hj => by rw [addn, Nat.zero_add]; exact h1 j u hj)
    (by obtain ⟨a, c, e⟩ := hp
        intro u hu
        simp only [Pt.cs, e, List.mem_cons, List.not_mem_nil, or_false] at hu
        rcases hu with rfl | rfl | rfl | rfl | rfl | rfl <;> rfl) (by unfold maxLen; omega) (by omega) hB (by decide)
  refine ⟨v', w', h2, ⟨?_, ?_⟩, h4, h5⟩
  · rw [pcs_app, List.length_append]; simpa [pcs] using h3
  · intro q hq
    rcases List.mem_append.1 hq with hq | hq
    · exact hR.ok q hq
    · rw [List.mem_singleton] at hq; subst hq; exact hp
theorem wpList_run_append {P : Program} (w : World) {ops : Array Oper} {rest : List Oper} {o : Oper} {a : Act} {Q : Exit → Act → World → Prop} (hgd : o.guard = none) (d s : Operand) (t t' : TypeId)
    (ho : o.op = .call { callee := .builtin .append, args := #[d, s], argTypes := #[t, t'] }) (v u : Value) (hd : a.eval d = v) (hs : a.eval s = u) {v' : Value} {w' : World}
    (hr : (Builtin.append_ #[t, t'] o.type #[v, u]).run P w = .ok v' w') (h : wpList P ops Q rest (a.put o.dst v') w') : wpList P ops Q (o :: rest) a w := by
  refine wpList_plain hgd fun K hK => ?_
  unfold Oper.wp
  simp [execOp, ho, resolve, invoke, builtin, hd, hs, hr, Result.andThen]
  exact hK _ _ h
theorem lit_new (w : World) (p : Pt) : ∀ j u, p.cs[j]? = some u → (w.alloc (.cells p.cs.toArray 36)).cell? ⟨w.heap.size, j, none⟩ = some u := by
  intro j u hj
  simp only [World.cell?, heap_alloc_new w]
  simpa using hj
end Go.Proofs.YtcmjpkfinbakkaaGreatDoor.Fd

namespace Go.Proofs.YtcmjpkfinbakkaaGreatDoor.Fd
open Go.RowKit
set_option linter.unusedVariables false

def wtP (F : List Pt) (t : ByteArray) : List Pt := if t.data.toList = [] then F else F ++ [lit 1 t]
theorem wtP_p2 (F : List Pt) (t : ByteArray) : (wtP F t).map Pt.p2 = wt (F.map Pt.p2) t.data.toList := by
  unfold wtP wt
  split <;> simp [lit, Pt.p2]
theorem wtP_len (F : List Pt) (t : ByteArray) : (wtP F t).length ≤ F.length + 1 := by
  unfold wtP; split <;> simp
/-- What an appending call leaves of a row. -/
def Grown (B : Nat) (v : Value) (L : List Pt) (w : World) (e : Ending) (w' : World) : Prop :=
  ∃ v', e = .returned v' ∧ Row w' B v' L ∧ Only (fun i => v.ownBlock = some i) w w' ∧ (v'.ownBlock = v.ownBlock ∨ ∀ j, v'.ownBlock = some j → w.heap.size ≤ j)
set_option maxRecDepth 100000 in
set_option maxHeartbeats 2000000 in
theorem withText_any (v : Value) (F : List Pt) (t : ByteArray) (B : Nat) (w : World) (hF : F.length ≤ 90000) (hR : Row w B v F) (hB : B ≤ w.heap.size) :
    Calls Tryz.prog 75 #[v, .string t] w (Grown B v (wtP F t) w) := by
  by_cases h0 : t.data.toList = []
  · have hE : Hid (Grown B v (wtP F t) w (.returned v) w) := by
      unfold wtP; rw [if_pos h0]
      exact ⟨v, rfl, hR, Only.refl _ _, .inl rfl⟩
    have h1 : t.toList = [] := by rw [Lib.toList_data]; exact h0
    have h2 : (!t.toList.isEmpty) = false := by rw [h1]; rfl
    clear h0 hR
    go_enter Tryz.func75, Tryz.ntmps75
    go_wp2_with fail
    go_ret
    exact hE.out
  · have h1 : t.toList.isEmpty = false := by
      rw [Lib.toList_data]
      cases h : t.data.toList with
      | nil => exact absurd h h0
      | cons a t => rfl
    have h2 : (!t.toList.isEmpty) = true := by rw [h1]; rfl
    have hw0 : Below w.heap.size w (w.alloc (.cells (lit 1 t).cs.toArray 36)) := (Below.refl _ _).alloc (Nat.le_refl _) _
    obtain ⟨v', w', r1, r2, r3, r4⟩ := append_part (w.alloc (.cells (lit 1 t).cs.toArray 36)) B v F (by omega) (hR.below hw0) (by have := hw0.size; omega) w.heap.size 1 (lit 1 t) (lit_ok _ _) (lit_new w _) 34
    have hE : Hid (Grown B v (wtP F t) w (.returned v') w') := by
      unfold wtP; rw [if_neg h0]
      refine ⟨v', rfl, r2, (Only.of_below (S := fun _ => False) hw0).trans (Only.of_grown (S := fun i => v.ownBlock = some i) r3 (fun k hk => hk)) (fun _ e => e.elim) (fun _ _ e => e), ?_⟩
      rcases r4 with e | e
      · exact .inl e
      · exact .inr fun j hj => by rw [e] at hj; cases hj; exact hw0.size
    have r1' : (Builtin.append_ #[34, 34] 34 #[v, .slice (some ⟨w.heap.size, 0, none⟩) 1 1]).run Tryz.prog (w.alloc (.cells #[.int .i64 1, .string t, .string ⟨#[]⟩, .string ⟨#[]⟩, .slice none 0 0, .bool false] 36)) = .ok v' w' := r1
    clear h0 hR r1 r2 r3 r4 hw0
    go_enter Tryz.func75, Tryz.ntmps75
    go_wp2_with (at_builtin; refine wpList_run_append _ rfl _ _ 34 34 rfl _ _ rfl rfl r1' ?_)
    go_ret
    exact hE.out
/-- The fields FS, in a row of the call's own. -/
structure Flds (w : World) (B : Nat) (v : Value) (vals : List Value) (FS : List (List Pt)) : Prop where
  len : vals.length = FS.length
  own : w.ownsRow B 34 1 v FS.length vals
  rows : ∀ i (h : i < FS.length), Row w B (vals[i]'(by rw [len]; exact h)) FS[i]
theorem Flds.nil (w : World) (B : Nat) : Flds w B (.slice none 0 0) [] [] := ⟨rfl, World.ownsRow_nil _ _ _ _, fun i h => absurd h (by simp)⟩
theorem Flds.only {S : Nat → Prop} {w w' : World} {B : Nat} {v : Value} {vals : List Value} {FS : List (List Pt)} (h : Flds w B v vals FS) (hO : Only S w w') (hn : ∀ k, v.ownBlock = some k → ¬ S k) (hr : ∀ u ∈ vals, ∀ k, u.ownBlock = some k → ¬ S k) : Flds w' B v vals FS := by
  refine ⟨h.len, ⟨h.own.1, ?_⟩, fun i hi => (h.rows i hi).only hO (hr _ (List.getElem_mem _))⟩
  rcases h.own.2 with h1 | ⟨b, cap, cur, rfl, h2, h3, h4⟩
  · exact .inl h1
  · exact .inr ⟨b, cap, cur, rfl, h2, (hO.block b (Array.getElem?_eq_some_iff.1 h3).1 (hn b rfl)).trans h3, h4⟩
theorem Flds.below {w w' : World} {B : Nat} {v : Value} {vals : List Value} {FS : List (List Pt)} (h : Flds w B v vals FS) (hb : Below w.heap.size w w') : Flds w' B v vals FS :=
  h.only (S := fun _ => False) (Only.of_below hb) (fun _ _ e => e) (fun _ _ _ _ e => e)
/-- A row of fields and a row of parts are never one block. -/
theorem kinds_apart {w : World} {B : Nat} {v u : Value} {n : Nat} {vals : List Value} {L : List Pt} (h : w.ownsRow B 34 1 v n vals) (k : Row w B u L) : ∀ j, v.ownBlock = some j → u.ownBlock ≠ some j := by
  intro j hj e
  rcases h.2 with ⟨rfl, _⟩ | ⟨b, cap, cur, rfl, _, h3, _⟩
  · simp [Value.ownBlock] at hj
  · simp [Value.ownBlock] at hj
    subst hj
    rcases k.own.2 with ⟨rfl, _⟩ | ⟨b', cap', cur', rfl, _, h3', _⟩
    · simp [Value.ownBlock] at e
    · simp [Value.ownBlock] at e
      subst e
      rw [h3] at h3'
      injection h3' with h3'
      injection h3' with _ e2 _
      exact absurd e2 (by decide)
/-- What stands in hand while a word is divided. -/
structure St (w0 w : World) (fsv fv : Value) (vals : List Value) (FS : List (List Pt)) (F : List Pt) : Prop where
  fs : Flds w w0.heap.size fsv vals FS
  f : Row w w0.heap.size fv F
  ap : ∀ u ∈ vals, ∀ k, u.ownBlock = some k → fv.ownBlock ≠ some k
  old : Below w0.heap.size w0 w
theorem St.grow {w0 w w' : World} {fsv fv fv' : Value} {vals : List Value} {FS : List (List Pt)} {F F' : List Pt} (h : St w0 w fsv fv vals FS F) (hR : Row w' w0.heap.size fv' F') (hO : Only (fun i => fv.ownBlock = some i) w w') (hw : fv'.ownBlock = fv.ownBlock ∨ ∀ j, fv'.ownBlock = some j → w.heap.size ≤ j) :
    St w0 w' fsv fv' vals FS F' := by
  refine ⟨h.fs.only hO (fun k hk e => kinds_apart h.fs.own h.f k hk e) (fun u hu k hk e => h.ap u hu k hk e), hR, fun u hu k hk e => ?_, h.old.trans (hO.below (fun k hk => (h.f.own.lt k hk).1) h.old.size)⟩
  rcases hw with e2 | e2
  · rw [e2] at e; exact h.ap u hu k hk e
  · have h1 := e2 k e
    obtain ⟨i, hi, rfl⟩ := List.mem_iff_getElem.1 hu
    have h2 := ((h.fs.rows i (by rw [← h.fs.len]; exact hi)).own.lt k hk).2
    omega
theorem St.below {w0 w w' : World} {fsv fv : Value} {vals : List Value} {FS : List (List Pt)} {F : List Pt} (h : St w0 w fsv fv vals FS F) (hb : Below w.heap.size w w') : St w0 w' fsv fv vals FS F :=
  ⟨h.fs.below hb, h.f.below hb, h.ap, h.old.trans (hb.mono h.old.size)⟩
/-- A field that is whole, among the others; a new one begins. -/
theorem St.push {w0 w : World} {fsv fv : Value} {vals : List Value} {FS : List (List Pt)} {F : List Pt} (h : St w0 w fsv fv vals FS F) (hl : FS.length ≤ 90000) (ty : TypeId) :
    ∃ v' w', (Builtin.append_ #[65, 65] ty #[fsv, .slice (some ⟨w.heap.size, 0, none⟩) 1 1]).run Tryz.prog (w.alloc (.cells #[fv] 34)) = .ok v' w' ∧ St w0 w' v' (.slice none 0 0) (vals ++ [fv]) (FS ++ [F]) [] := by
  obtain ⟨i0, hi, hz0, hz1, hz2⟩ := info_parts info34
  have hw0 : Below w.heap.size w (w.alloc (.cells #[fv] 34)) := (Below.refl _ _).alloc (Nat.le_refl _) _
  have hfs := h.fs.below hw0
  have hf := h.f.below hw0
  obtain ⟨v', w', h2, h3, h4, h5⟩ := run_append_own (P := Tryz.prog) (w.alloc (.cells #[fv] 34)) w0.heap.size 65 ty 34 i0 _ 1 24 Tryz.underlying65 hi hz0 hz1 hz2 rfl (by decide) fsv FS.length vals hfs.own ⟨w.heap.size, 0, none⟩ 1 1 [fv] rfl
    (fun j u hj => by
      match j, hj with
      | 0, hj => simp at hj; subst hj; rw [addn]; simp only [World.cell?, heap_alloc_new w]; rfl) (by
      intro u hu
      simp at hu; subst hu
      obtain ⟨s, c, e⟩ := h.f.form
      rw [e]; rfl) (by unfold maxLen; omega) (by omega) (by have := h.old.size; have := hw0.size; omega)
  have hO : Only (fun i => fsv.ownBlock = some i) (w.alloc (.cells #[fv] 34)) w' := Only.of_grown h4 (fun k hk => hk)
  have hrow : ∀ {u : Value} {L : List Pt}, Row (w.alloc (.cells #[fv] 34)) w0.heap.size u L → Row w' w0.heap.size u L := fun hr => hr.only hO (fun k hk e => kinds_apart hfs.own hr k e hk)
  refine ⟨v', w', h2, ⟨by rw [List.length_append, List.length_append, h.fs.len]; rfl, by rw [List.length_append]; exact h3, fun i hi => ?_⟩, Row.nil _ _, fun u _ k _ e => by simp [Value.ownBlock] at e, ?_⟩
  · by_cases hil : i < FS.length
    · have e1 : (vals ++ [fv])[i]'(by rw [List.length_append, h.fs.len]; omega) = vals[i]'(by rw [h.fs.len]; exact hil) := List.getElem_append_left _
      have e2 : (FS ++ [F])[i] = FS[i] := List.getElem_append_left _
      rw [e1, e2]
      exact hrow (hfs.rows i hil)
    · have hi2 : i = FS.length := by rw [List.length_append, List.length_singleton] at hi; omega
      subst hi2
      have e1 : (vals ++ [fv])[FS.length]'(by rw [List.length_append, h.fs.len]; simp) = fv := by
        rw [List.getElem_append_right (by rw [h.fs.len]; exact Nat.le_refl _)]; simp [h.fs.len]
      have e2 : (FS ++ [F])[FS.length] = F := by simp
      rw [e1, e2]
      exact hrow hf
  · exact h.old.trans ((hw0.mono h.old.size).trans (hO.below (fun k hk => (hfs.own.lt k hk).1) (by have := h.old.size; have := hw0.size; omega)))
end Go.Proofs.YtcmjpkfinbakkaaGreatDoor.Fd

namespace Go.Proofs.YtcmjpkfinbakkaaGreatDoor.Fd
open Go.RowKit
set_option linter.unusedVariables false

def p2s (L : List Pt) : List P2 := L.map Pt.p2
def p3s (FS : List (List Pt)) : List (List P2) := FS.map p2s
theorem shut_p3 (FS : List (List Pt)) (F : List Pt) : shut (p3s FS) (p2s F) = p3s (if F = [] then FS else FS ++ [F]) := by
  unfold shut p3s p2s
  cases F with
  | nil => simp
  | cons a F => simp
theorem sl_p2 {c : Nat} (s : ByteArray) (h : c ≤ s.size) : (s.extract 0 c).data.toList = s.data.toList.take c ∧ (s.extract c s.size).data.toList = s.data.toList.drop c := by
  constructor
  · simp [ByteArray.data_extract]
  · simp [ByteArray.data_extract]
    rw [List.take_of_length_le]
    simp
/-- What stands at the head of a part. -/
structure At (w0 w : World) (fsv fv : Value) (st : List (List P2) × List P2) (n : Nat) : Prop where
  ex : ∃ vals FS F, St w0 w fsv fv vals FS F ∧ (p3s FS, p2s F) = st ∧ FS.length ≤ n ∧ F.length ≤ n ∧ ∀ f ∈ FS, f.length ≤ n
theorem At.below {w0 w w' : World} {fsv fv : Value} {st : List (List P2) × List P2} {n : Nat} (h : At w0 w fsv fv st n) (hb : Below w.heap.size w w') : At w0 w' fsv fv st n := by
  obtain ⟨vals, FS, F, h1, h2⟩ := h.ex
  exact ⟨vals, FS, F, h1.below hb, h2⟩
theorem At.old {w0 w : World} {fsv fv : Value} {st : List (List P2) × List P2} {n : Nat} (h : At w0 w fsv fv st n) : Below w0.heap.size w0 w := by
  obtain ⟨vals, FS, F, h1, h2⟩ := h.ex
  exact h1.old
theorem At.mono {w0 w : World} {fsv fv : Value} {st : List (List P2) × List P2} {n m : Nat} (h : At w0 w fsv fv st n) (hm : n ≤ m) : At w0 w fsv fv st m := by
  obtain ⟨vals, FS, F, h1, h2, h3, h4, h5⟩ := h.ex
  exact ⟨vals, FS, F, h1, h2, by omega, by omega, fun f hf => Nat.le_trans (h5 f hf) hm⟩
/-- The inner loop's state: what is still to come of the text. -/
def Left (w0 w : World) (fsv fv : Value) (rest : ByteArray) (goal : List (List P2) × List P2) (n : Nat) : Prop :=
  ∃ st, At w0 w fsv fv st n ∧ tx st.1 st.2 rest.data.toList = goal
end Go.Proofs.YtcmjpkfinbakkaaGreatDoor.Fd
