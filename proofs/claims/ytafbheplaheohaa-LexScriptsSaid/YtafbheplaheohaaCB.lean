import Derived.Test.YtafbheplaheohaaB
import Derived.Test.YtafbheplaheohaaMG
namespace Go.Proofs.Ytafbheplaheohaa
open Go.RowKit
set_option linter.unusedVariables false

theorem Wd.at {w : World} {F : Nat → Prop} {v : Value} {l : List Prt} (h : Wd w F v l) {i : Nat} (hi : i < l.length) :
    ∃ g off c cur pt, v = .slice (some ⟨g, off, none⟩) l.length c ∧ w.heap[g]? = some (.cells cur 39 (0, 0)) ∧ (∀ q, q < 6 → cur[off + i * 6 + q]? = (Pt.cs pt)[q]?) ∧ pt.is l[i] ∧ Wd w F pt.wv l[i].word := by
  cases h with
  | nil c => exact absurd hi (by simp)
  | row g off c cur L l hF hb hl hc hs hw =>
    have hi' : i < L.length := by rw [hl]; exact hi
    exact ⟨g, off, c, cur, L[i], rfl, hb, fun q hq => hc i hi' q hq, hs i hi' hi, hw i hi' hi⟩
theorem addo6 (b off k : Nat) : (⟨b, off, none⟩ : Addr).add (k * 6) = ⟨b, off + k * 6, none⟩ := addn b off _
/-- The six cells of a part. -/
theorem Wd.cells {w : World} {F : Nat → Prop} {a : Option Addr} {n c : Nat} {l : List Prt} (h : Wd w F (.slice a n c) l) {i : Nat} (hi : i < l.length) :
    ∃ b off k t nm o wa wc q, a = some ⟨b, off, none⟩ ∧ b < w.heap.size ∧ w.cell? ⟨b, off + i * 6, none⟩ = some (.int .i64 k) ∧ w.cell? ⟨b, off + i * 6 + 1, none⟩ = some (.string t) ∧ w.cell? ⟨b, off + i * 6 + 2, none⟩ = some (.string nm) ∧
      w.cell? ⟨b, off + i * 6 + 3, none⟩ = some (.string o) ∧ w.cell? ⟨b, off + i * 6 + 4, none⟩ = some (.slice wa l[i].word.length wc) ∧ w.cell? ⟨b, off + i * 6 + 5, none⟩ = some (.bool q) ∧
      k = (l[i].kind : Int) ∧ t.data.toList = l[i].text ∧ nm.data.toList = l[i].name ∧ o.data.toList = l[i].op ∧ q = l[i].quoted ∧ Wd w F (.slice wa l[i].word.length wc) l[i].word := by
  obtain ⟨g, off, c', cur, ⟨k, t, nm, o, wv, q⟩, e, hb, hc, ⟨i1, i2, i3, i4, i5⟩, hw⟩ := h.at hi
  obtain ⟨wa, wc, hf⟩ := hw.form
  simp only at i1 i2 i3 i4 i5 hw hf
  subst hf
  injection e with e1 e2 e3
  have hlt := (Array.getElem?_eq_some_iff.1 hb).1
  have hcell : ∀ j u, j < 6 → (Pt.cs ⟨k, t, nm, o, .slice wa l[i].word.length wc, q⟩)[j]? = some u → w.cell? ⟨g, off + i * 6 + j, none⟩ = some u := fun j u hj hu => by
    rw [Lib.cell_of_heap hb]
    exact (hc j hj).trans hu
  exact ⟨g, off, k, t, nm, o, wa, wc, q, e1, hlt, hcell 0 _ (by decide) rfl, hcell 1 _ (by decide) rfl, hcell 2 _ (by decide) rfl, hcell 3 _ (by decide) rfl, hcell 4 _ (by decide) rfl, hcell 5 _ (by decide) rfl, i1, i2, i3, i4, i5, hw⟩
theorem sames_len : ∀ {l m : List Prt}, l.length ≠ m.length → sames l m = false
  | [], [], h => absurd rfl h
  | [], _ :: _, _ => by rw [sames]
  | _ :: _, [], _ => by rw [sames]
  | a :: l, b :: m, h => by rw [sames, sames_len (l := l) (m := m) (by simpa using h), Bool.and_false]
theorem sames_drop {l m : List Prt} {k : Nat} (hl : k < l.length) (hm : k < m.length) : sames (l.drop k) (m.drop k) = (same l[k] m[k] && sames (l.drop (k + 1)) (m.drop (k + 1))) := by
  rw [List.drop_eq_getElem_cons hl, List.drop_eq_getElem_cons hm, sames]
theorem same_at (a b : Prt) : same a b = (a.kind == b.kind && a.text == b.text && a.name == b.name && a.op == b.op && a.quoted == b.quoted && sames a.word b.word) := by
  cases a; cases b; rw [same]; rfl
theorem int_beq (a b : Nat) : ((a : Int) == (b : Int)) = (a == b) := by
  rw [Bool.eq_iff_iff]; simp only [beq_iff_eq]; omega
theorem size_alloc (w : World) (o : Obj) : (w.alloc o).heap.size = w.heap.size + 1 := by simp
/-- The answer so far. -/
def SPq (w : World) (b : Bool) (e : Ending) (w' : World) : Prop := e = .returned (.bool b) ∧ Below w.heap.size w w'
set_option maxRecDepth 100000 in
set_option maxHeartbeats 8000000 in
theorem SameParts_step (n : Nat) (ih : ∀ l m : List Prt, ∀ a1 c1 a2 c2 (w : World) (F G : Nat → Prop), wsz m < n → Wd w F (.slice a1 l.length c1) l → Wd w G (.slice a2 m.length c2) m → Calls Try.prog 18 #[.slice a1 l.length c1, .slice a2 m.length c2] w (SPq w (sames l m)))
    (hn100 : n ≤ 100000) (l m : List Prt) (a1 : Option Addr) (c1 : Nat) (a2 : Option Addr) (c2 : Nat) (w : World) (F G : Nat → Prop) (hn : wsz m = n) (h1 : Wd w F (.slice a1 l.length c1) l) (h2 : Wd w G (.slice a2 m.length c2) m) :
    Calls Try.prog 18 #[.slice a1 l.length c1, .slice a2 m.length c2] w (SPq w (sames l m)) := by
  have hml := wsz_len m
  obtain ⟨Q, hQ⟩ : ∃ Q, SPq w (sames l m) = Q := ⟨_, rfl⟩
  rw [hQ]
  have HQ := Lib.hid hQ
  clear hQ
  have H1 := Lib.hid h1
  have H2 := Lib.hid h2
  clear h1 h2
  by_cases hlen : l.length = m.length
  · rw [← hlen] at H2 ⊢
    have HL := Lib.hid hlen
    obtain ⟨N, hN⟩ : ∃ N, l.length = N := ⟨_, rfl⟩
    have hNI : (N : Int) ≤ 100000 := by omega
    have HN := Lib.hid hN
    rw [hN] at H1 H2 ⊢
    clear hN hlen
    go_enter Try.func18, Try.ntmps18
    go_wp2_with fail
    go_loopw [5] (fun i wx => ∃ k : Nat, k ≤ N ∧ i = .int .i64 k ∧ Hid (Below w.heap.size w wx ∧ sames l m = sames (l.drop k) (m.drop k))) (fun i _ => N - (intOf i).toNat)
    case atStart => exact ⟨0, by omega, rfl, Below.refl _ _, rfl⟩
    case round =>
      obtain ⟨k, hk, rfl, HD⟩ := hrel
      by_cases hlt : k < N
      · have hltI : (k : Int) < (N : Int) := by omega
        have hltd : decide ((k : Int) < (N : Int)) = true := decide_eq_true hltI
        have hk0 : (0 : Int) ≤ (k : Int) := by omega
        have hkl : k < l.length := by rw [HN.out]; exact hlt
        have hkm : k < m.length := by rw [← HL.out, HN.out]; exact hlt
        obtain ⟨b, off, kk, t, nm, o, wa, wc, q, e1, hb, q0, q1, q2, q3, q4, q5, i1, i2, i3, i4, i5, hw1⟩ := (H1.out.under HD.out.1).cells hkl
        obtain ⟨b', off', kk', t', nm', o', wa', wc', q', e1', hb', q0', q1', q2', q3', q4', q5', j1, j2, j3, j4, j5, hw2⟩ := (H2.out.under HD.out.1).cells hkm
        obtain ⟨A, hA⟩ : ∃ A, l[k] = A := ⟨_, rfl⟩
        obtain ⟨B, hB⟩ : ∃ B, m[k] = B := ⟨_, rfl⟩
        have HSD : Hid (sames l m = (same A B && sames (l.drop (k + 1)) (m.drop (k + 1)))) := by rw [Hid, HD.out.2, sames_drop hkl hkm, hA, hB]
        have hBn : wsz B.word < n := by rw [← hB, ← hn]; exact wsz_at m k hkm
        rw [hA] at i1 i2 i3 i4 i5 hw1 q4
        rw [hB] at j1 j2 j3 j4 j5 hw2 q4'
        rw [same_at] at HSD
        have E1 : ((kk : Int) == kk') = (A.kind == B.kind) := by rw [i1, j1, int_beq]
        have E2 : (t.toList == t'.toList) = (A.text == B.text) := by rw [str_eq, i2, j2]
        have E3 : (nm.toList == nm'.toList) = (A.name == B.name) := by rw [str_eq, i3, j3]
        have E4 : (o.toList == o'.toList) = (A.op == B.op) := by rw [str_eq, i4, j4]
        have E5 : (q == q') = (A.quoted == B.quoted) := by rw [i5, j5]
        obtain ⟨b1, hb1⟩ : ∃ b, (A.kind == B.kind) = b := ⟨_, rfl⟩
        obtain ⟨b2, hb2⟩ : ∃ b, (A.text == B.text) = b := ⟨_, rfl⟩
        obtain ⟨b3, hb3⟩ : ∃ b, (A.name == B.name) = b := ⟨_, rfl⟩
        obtain ⟨b4, hb4⟩ : ∃ b, (A.op == B.op) = b := ⟨_, rfl⟩
        obtain ⟨b5, hb5⟩ : ∃ b, (A.quoted == B.quoted) = b := ⟨_, rfl⟩
        obtain ⟨b6, hb6⟩ : ∃ b, sames A.word B.word = b := ⟨_, rfl⟩
        rw [hb1] at E1 HSD
        rw [hb2] at E2 HSD
        rw [hb3] at E3 HSD
        rw [hb4] at E4 HSD
        rw [hb5] at E5 HSD
        have HIH : Hid (∀ w', Below wr.heap.size wr w' → Calls Try.prog 18 #[.slice wa A.word.length wc, .slice wa' B.word.length wc'] w' (SPq w' (sames A.word B.word))) := fun w' hw => ih _ _ _ _ _ _ w' _ _ hBn (hw1.under hw) (hw2.under hw)
        rw [hb6] at HIH HSD
        have HD1 := Lib.hid HD.out.1
        obtain ⟨an, han⟩ : ∃ an, A.word.length = an := ⟨_, rfl⟩
        obtain ⟨bn, hbn⟩ : ∃ bn, B.word.length = bn := ⟨_, rfl⟩
        rw [han] at HIH q4
        rw [hbn] at HIH q4'
        have HF : Hid (¬ (kk = kk' ∧ b2 = true ∧ b3 = true ∧ b4 = true ∧ b5 = true ∧ b6 = true) → sames l m = false) := fun h => by
          rw [HSD.out]
          cases b2 <;> cases b3 <;> cases b4 <;> cases b5 <;> cases b6 <;> first | rfl | (simp at h ⊢; intro h1; exact absurd (by rw [h1] at E1; simpa using E1) h) | (simp at h ⊢)
        have HT : Hid (kk = kk' ∧ b2 = true ∧ b3 = true ∧ b4 = true ∧ b5 = true ∧ b6 = true → sames l m = sames (l.drop (k + 1)) (m.drop (k + 1))) := by
          rintro ⟨g1, rfl, rfl, rfl, rfl, rfl⟩
          rw [HSD.out, ← E1, g1]; simp
        have ad := addo6 b off k
        have ad' := addo6 b' off' k
        subst e1
        subst e1'
        clear hA hB hb1 hb2 hb3 hb4 hb5 hb6 i1 i2 i3 i4 i5 j1 j2 j3 j4 j5 hw1 hw2 hkl hkm HD han hbn hBn
        go_wp2_with (go_at_call 18; refine (HIH.out _ (((Below.refl _ _).alloc (Nat.le_refl _) _).alloc (by rw [size_alloc]; omega) _)).mono ?_; rintro e w8 ⟨rfl, h8⟩; have H8 : Hid (Below wr.heap.size wr w8) := Below.trans (((Below.refl _ _).alloc (Nat.le_refl _) _).alloc (by rw [size_alloc]; omega) _) (h8.mono (by rw [size_alloc, size_alloc]; omega)); clear h8; simp only [])
        all_goals first
          | (have hz : b6 = true := by
               have h : (!b6) = false := by assumption
               simpa using h
             refine ⟨⟨k + 1, by omega, by go_num, HD1.out.trans (H8.out.mono HD1.out.size), HT.out ⟨by assumption, by assumption, by assumption, by assumption, by assumption, hz⟩⟩, ?_⟩
             simp [intOf]; omega)
          | (have hf := HF.out (by
              rintro ⟨g1, g2, g3, g4, g5, g6⟩
              first
                | exact (by assumption : ¬ kk = kk') g1
                | exact (by assumption : ¬ b2 = true) g2
                | exact (by assumption : ¬ b3 = true) g3
                | exact (by assumption : ¬ b4 = true) g4
                | exact (by assumption : ¬ b5 = true) g5
                | (have h : (!b6) = true := by assumption
                   rw [g6] at h; cases h))
             rw [← HQ.out, hf]
             first
               | exact ⟨rfl, HD1.out.trans (H8.out.mono HD1.out.size)⟩
               | exact ⟨rfl, HD1.out.trans ((((Below.refl _ _).alloc (Nat.le_refl _) _).alloc (by rw [size_alloc]; omega) _).mono HD1.out.size)⟩)
      · obtain rfl : k = N := by omega
        have hltd : decide ((k : Int) < (k : Int)) = false := decide_eq_false (by omega)
        have HS : Hid (sames l m = true) := by
          rw [Hid, HD.out.2, List.drop_of_length_le (by rw [HN.out]; exact Nat.le_refl _), List.drop_of_length_le (by rw [← HL.out, HN.out]; exact Nat.le_refl _)]
          rfl
        go_wp2_with fail
        rw [← HQ.out, HS.out]
        exact ⟨rfl, HD.out.1⟩
  · have hlI : ((l.length : Int) == (m.length : Int)) = false := beq_eq_false_iff_ne.2 (by omega)
    have HS : Hid (sames l m = false) := sames_len hlen
    go_enter Try.func18, Try.ntmps18
    go_wp2_with fail
    rw [← HQ.out, HS.out]
    exact ⟨rfl, Below.refl _ _⟩
end Go.Proofs.Ytafbheplaheohaa
