import Derived.Test.YtafbheplaheohaaCD
import Derived.Test.YtafbheplaheohaaCE
namespace Go.Proofs.Ytafbheplaheohaa
open Go.RowKit
set_option linter.unusedVariables false

/-- What lex.Tokens answers, where the answer is known. -/
theorem Tokens_ok (S : ByteArray) (w : World) (hs : S.size ≤ 9000000000000000000) {l : List Tok} (h : tokensF S.data.toList = .ok l) :
    Calls Try.prog 13 #[.string S] w fun e w' => ∃ a c, e = .returned (.tuple #[.slice a l.length c, .int .i64 0]) ∧ Tl w' (.slice a l.length c) l ∧ Below w.heap.size w w' := by
  have := Tokens_any S w hs
  rw [h] at this
  refine this.mono ?_
  rintro e w' ⟨a, c, L, rfl, h1, h2, _⟩
  exact ⟨a, c, rfl, h1.tl, h2⟩
theorem Tokens_err (S : ByteArray) (w : World) (hs : S.size ≤ 9000000000000000000) {x : Nat} (h : tokensF S.data.toList = .error x) :
    Calls Try.prog 13 #[.string S] w fun e w' => e = .returned (.tuple #[.slice none 0 0, .int .i64 x]) ∧ Below w.heap.size w w' := by
  have := Tokens_any S w hs
  rw [h] at this
  refine this.mono ?_
  rintro e w' ⟨rfl, _, h2⟩
  exact ⟨rfl, h2⟩
theorem Word_ok (S : ByteArray) (w : World) (hs : S.size ≤ 9000000000000000000) {l : List Prt} (h : wordsF S.data.toList = .ok l) :
    Calls Try.prog 17 #[.string S] w fun e w' => ∃ a c, e = .returned (.tuple #[.slice a l.length c, .int .i64 0]) ∧ Wd w' (fun k => w.heap.size ≤ k) (.slice a l.length c) l ∧ Below w.heap.size w w' := by
  have := Word_any S w hs
  rw [h] at this
  refine this.mono ?_
  rintro e w' ⟨v, rfl, h1, h2⟩
  obtain ⟨a, c, rfl⟩ := h1.form
  exact ⟨a, c, rfl, h1, h2⟩
theorem Word_err (S : ByteArray) (w : World) (hs : S.size ≤ 9000000000000000000) {x : Nat} (h : wordsF S.data.toList = .error x) :
    Calls Try.prog 17 #[.string S] w fun e w' => e = .returned (.tuple #[.slice none 0 0, .int .i64 x]) ∧ Below w.heap.size w w' := by
  have := Word_any S w hs
  rw [h] at this
  refine this.mono ?_
  rintro e w' ⟨rfl, _, h2⟩
  exact ⟨rfl, h2⟩
/-- One token alone, a word. -/
theorem Tokens_word (S : ByteArray) (w : World) (hs : S.size ≤ 9000000000000000000) {m : List Prt} (h : tokensF S.data.toList = .ok [.word m]) :
    Calls Try.prog 13 #[.string S] w fun e w' => ∃ b off c wa wc F, e = .returned (.tuple #[.slice (some ⟨b, off, none⟩) 1 c, .int .i64 0]) ∧ b < w'.heap.size ∧ w'.cell? ⟨b, off + 2, none⟩ = some (.slice wa m.length wc) ∧ Wd w' F (.slice wa m.length wc) m ∧ Below w.heap.size w w' := by
  refine (Tokens_ok S w hs h).mono ?_
  rintro e w' ⟨a, c, rfl, h1, h2⟩
  obtain ⟨-, b, off, kk, t, wa, wc, F, rfl, hb, q0, q1, q2, -, -, hw⟩ := h1.cells (i := 0) (by simp)
  simp only [List.getElem_cons_zero, tokW, Nat.zero_mul, Nat.add_zero] at q2 hw
  exact ⟨b, off, c, wa, wc, F, rfl, hb, q2, hw, h2⟩
theorem cell_under {w w' : World} (hw : Below w.heap.size w w') {b o : Nat} {u : Value} (hb : b < w.heap.size) (h : w.cell? ⟨b, o, none⟩ = some u) : w'.cell? ⟨b, o, none⟩ = some u := by
  unfold World.cell? at h ⊢; rw [hw.block b hb]; exact h
/-- The comparison of a word with one that was just built. -/
theorem Same_eq {w : World} {m : List Prt} {a1 a2 : Option Addr} {c1 c2 n1 n2 : Nat} {F G : Nat → Prop} (hn : wsz m ≤ 100000) (h1 : Wd w F (.slice a1 n1 c1) m) (h2 : Wd w G (.slice a2 n2 c2) m) :
    Calls Try.prog 18 #[.slice a1 n1 c1, .slice a2 n2 c2] w fun e w' => e = .returned (.bool true) ∧ Below w.heap.size w w' := by
  have e1 : n1 = m.length := by obtain ⟨a, c, h⟩ := h1.form; injection h
  have e2 : n2 = m.length := by obtain ⟨a, c, h⟩ := h2.form; injection h
  subst e1
  subst e2
  refine (SameParts_any m m a1 c1 a2 c2 w F G hn h1 h2).mono ?_
  rintro e w' ⟨rfl, h⟩
  rw [(sames_eq m m).2 rfl]
  exact ⟨rfl, h⟩
theorem wsz_two (k l : Nat) (t u : Bz) : wsz [txt k t, txt l u] = 2 := by simp [wsz, psz, txt]
theorem wsz_txt (k : Nat) (t : Bz) : wsz [txt k t] = 1 := by simp [wsz, psz, txt]
/-- A word of one text against one that is just built. -/
theorem same_txt {w : World} {F : Nat → Prop} {wa : Option Addr} {wc : Nat} (k : Nat) (t : ByteArray) (h : Wd w F (.slice wa 1 wc) [txt k t.data.toList]) :
    Calls Try.prog 18 #[.slice wa 1 wc, .slice (some ⟨w.heap.size, 0, none⟩) 1 1] (w.alloc (.cells #[.int .i64 k, .string t, .string ⟨#[]⟩, .string ⟨#[]⟩, .slice none 0 0, .bool false] 39)) fun e w' => e = .returned (.bool true) ∧ Below w.heap.size w w' := by
  have hbe := (Below.refl w.heap.size w).alloc (Nat.le_refl _) (.cells #[.int .i64 k, .string t, .string ⟨#[]⟩, .string ⟨#[]⟩, .slice none 0 0, .bool false] 39)
  refine (Same_eq (m := [txt k t.data.toList]) (G := fun _ => True) (by rw [wsz_txt]; decide) (h.under hbe) (Wd.one (pt := ⟨k, t, ⟨#[]⟩, ⟨#[]⟩, .slice none 0 0, false⟩) trivial (heap_alloc_new w _) ⟨rfl, rfl, rfl, rfl, rfl⟩ (.nil 0))).mono ?_
  rintro e w' ⟨rfl, h⟩
  exact ⟨rfl, hbe.trans (h.mono hbe.size)⟩
set_option maxRecDepth 100000 in
set_option maxHeartbeats 8000000 in
theorem alive_any (w : World) : Calls Try.prog 12 #[] w fun e w' => e = .returned (.bool true) ∧ Below w.heap.size w w' := by
  obtain ⟨Q, hQ⟩ : ∃ Q : Ending → World → Prop, (fun e w' => e = .returned (.bool true) ∧ Below w.heap.size w w') = Q := ⟨_, rfl⟩
  rw [hQ]
  have HQ := Lib.hid hQ
  have HT := Lib.hid (Tokens_ok ⟨#[97, 32, 34, 98, 32, 99, 34]⟩ w (by decide) alive_val)
  clear hQ
  simp only [List.length_cons, List.length_nil, Nat.zero_add, Nat.reduceAdd] at HT
  go_enter Try.func12, Try.ntmps12
  go_wp2_with (first
    | (go_at_call 15; refine (num_any _ _).mono ?_; rintro e w7 ⟨rfl, h7⟩; obtain rfl := h7.symm; simp only [])
    | (go_at_call 13
       refine HT.out.mono ?_
       rintro e w5 ⟨a, c, rfl, h1, h2⟩
       have HB := Lib.hid h2
       obtain ⟨-, b, off, kk, t, wa, wc, F, rfl, hb, q0, q1, q2, -, -, hw⟩ := h1.cells (i := 1) (by decide)
       simp only [List.getElem_cons_succ, List.getElem_cons_zero, tokW, List.length_cons, List.length_nil, Nat.zero_add, Nat.reduceAdd, Nat.one_mul] at q0 q1 q2 hw
       obtain ⟨b', off', k', t', nm', o', wa', wc', q', rfl, hb', p0, p1, p2, p3, p4, p5, i1, i2, -, -, -, -⟩ := hw.cells (i := 0) (by decide)
       simp only [List.getElem_cons_zero, Nat.zero_mul, Nat.add_zero] at p0 p1 p2 p3 p4 p5 i1 i2
       have ad := addn b off 3
       have ad0 := addn b' off' 0
       rw [Nat.add_zero] at ad0
       have i2' : (t'.toList == [98, 32, 99]) = true := by rw [Lib.toList_data, i2]; rfl
       have i1' : k' = 2 := i1
       subst i1'
       clear h1 h2 hw i1 i2
       simp only []))
  rw [← HQ.out]
  exact ⟨rfl, HB.out⟩
end Go.Proofs.Ytafbheplaheohaa
