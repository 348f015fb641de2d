import Derived.Test.YtafbheplaheohaaEV
import Derived.Test.YtafbheplaheohaaMJ
import Derived.Deep.AppendSrc
import Derived.BigFrame
namespace Go.Proofs.Ytafbheplaheohaa
open Go.RowKit
set_option linter.unusedVariables false

theorem TRow.mono {w : World} {B B' : Nat} {v : Value} {l : List Tok} {L : List Tk} (h : TRow w B v l L) (hb : B' ≤ B) : TRow w B' v l L := by
  refine ⟨⟨h.own.1, ?_⟩, h.len, h.is, fun i h1 h2 => (h.word i h1 h2).mono fun k hk => Nat.le_trans hb hk⟩
  rcases h.own.2 with h1 | ⟨g, cap, cur, h1, h2, h3⟩
  · exact .inl h1
  · exact .inr ⟨g, cap, cur, h1, Nat.le_trans hb h2, h3⟩
theorem append_nil_nil (w : World) : (Builtin.append_ #[23, 23] 23 #[.slice none 0 0, .slice none 0 0]).run Try.prog w = .ok (.slice none 0 0) w := rfl
theorem append_nil_src (w : World) (b off n c : Nat) (h : n ≤ c) : (Builtin.append_ #[23, 23] 23 #[.slice (some ⟨b, off, none⟩) n c, .slice none 0 0]).run Try.prog w = .ok (.slice (some ⟨b, off, none⟩) n c) w := by
  obtain ⟨i0, hi, hz0, hz1, hz2⟩ := info_parts info34
  have u23 : Try.prog.underlying 23 = some (.slice 34) := by kernel_rfl
  exact run_append_room_src (P := Try.prog) (w := w) 23 23 23 34 i0 u23 hi b off n c (.slice none 0 0) 0 [] (Src.ofNil w u23 0) (by omega) (fun j hj => absurd hj (by simp)) (fun j hj => absurd hj (by simp))
/-- Tokens behind tokens. -/
theorem TRow.cat {w : World} {B : Nat} {v v2 : Value} {l m : List Tok} {L M : List Tk} {n : Nat} (hn : n = L.length + M.length) (h : TRow w B v l L) (h2 : TRow w B v2 m M) (hB : B ≤ w.heap.size) (hl : L.length ≤ 100000) (hm : M.length ≤ 100000) :
    ∃ (a : Option Addr) (c : Nat) (w' : World), (Builtin.append_ #[23, 23] 23 #[v, v2]).run Try.prog w = .ok (.slice a n c) w' ∧
      TRow w' B (.slice a n c) (l ++ m) (L ++ M) ∧ Below B w w' ∧ (∀ k, k < w.heap.size → v.ownBlock ≠ some k → w'.heap[k]? = w.heap[k]?) := by
  subst hn
  rcases h2.own.2 with ⟨h3, h4⟩ | ⟨g, cap, cur, h3, h4, h5, h6, h7, h8, h9⟩
  · have hM : M = [] := List.eq_nil_of_length_eq_zero h4
    subst hM
    have hmm : m = [] := List.eq_nil_of_length_eq_zero (by have := h2.len; simp at this; omega)
    subst hmm
    subst h3
    rcases own_form h.own with ⟨e1, e2⟩ | ⟨g, c, e1, e3, _⟩
    · subst e1
      refine ⟨none, 0, w, ?_, ?_, Below.refl _ _, fun _ _ _ => rfl⟩
      · rw [e2]; exact append_nil_nil w
      · rw [e2, List.append_nil, List.append_nil]; exact h
    · subst e1
      refine ⟨_, c, w, append_nil_src w _ _ _ _ e3, ?_, Below.refl _ _, fun _ _ _ => rfl⟩
      rw [List.append_nil, List.append_nil]; exact h
  · obtain ⟨i0, hi, hz0, hz1, hz2⟩ := info_parts info34
    have u23 : Try.prog.underlying 23 = some (.slice 34) := by kernel_rfl
    subst h3
    have hone : ∀ u ∈ tcs M, u.oneCell' = true := by
      intro u hu
      obtain ⟨tk, ht, hu⟩ := List.mem_flatMap.1 hu
      obtain ⟨i, hi, rfl⟩ := List.getElem_of_mem ht
      obtain ⟨wa, wc, hwf⟩ := (h2.word i hi (by rw [← h2.len]; exact hi)).form
      simp only [Tk.cs, List.mem_cons, List.not_mem_nil, or_false] at hu
      rcases hu with rfl | rfl | rfl
      · rfl
      · rfl
      · rw [hwf]; rfl
    obtain ⟨v', wC, r1, r2, r3, r4⟩ := run_append_own (P := Try.prog) w B 23 23 34 i0 _ 3 48 u23 hi hz0 hz1 hz2 rfl (by decide) v L.length (tcs L) h.own ⟨g, 0, none⟩ M.length cap (tcs M) (tcs_len M)
      (fun j u hj => by
        rw [addn, Nat.zero_add]
        rw [← h9] at hj
        have hjl : j < (cur.toList.take (M.length * 3)).length := (List.getElem?_eq_some_iff.1 hj).1
        rw [List.getElem?_take, if_pos (by rw [List.length_take] at hjl; omega)] at hj
        rw [Lib.cell_of_heap h5]
        simpa using hj) hone (by unfold maxLen; omega) (by omega) hB
    obtain ⟨a, c, hf⟩ : ∃ a c, v' = .slice a (L.length + M.length) c := by
      rcases own_form r2 with ⟨e, h0⟩ | ⟨g, c, e, _⟩
      · exact ⟨none, 0, by rw [e, h0]⟩
      · exact ⟨_, c, e⟩
    subst hf
    have hbC : Below B w wC := (Only.of_grown (S := fun i => v.ownBlock = some i) r3 (fun k hk => hk)).below (fun k hk => (h.own.lt k hk).1) hB
    have hne : ∀ (k : Nat) (cur : Array Value) (ty : TypeId), ty ≠ 34 → w.heap[k]? = some (.cells cur ty (0, 0)) → v.ownBlock ≠ some k := fun k cur ty ht hc e => by
      rcases own_form h.own with ⟨e1, _⟩ | ⟨g, c', e1, _, _, cur', e2⟩
      · rw [e1] at e; cases e
      · rw [e1] at e; cases e
        exact cells_ne hc e2 ht rfl
    have hkC : ∀ (k : Nat) (cur : Array Value) (ty : TypeId), ty ≠ 34 → w.heap[k]? = some (Obj.cells cur ty (0, 0)) → wC.heap[k]? = some (Obj.cells cur ty (0, 0)) := fun k cur ty ht hc => by
      have hk := (Array.getElem?_eq_some_iff.1 hc).1
      exact (r3.block k hk (fun e => hne k cur ty ht hc e.symm)).trans hc
    have hwd : ∀ {u m}, Wd w (fun k => B ≤ k) u m → Wd wC (fun k => B ≤ k) u m := fun hu => hu.keep fun k cur h1 h2 => ⟨h1, hkC k cur 39 (by decide) h2⟩
    refine ⟨a, c, wC, r1, ⟨?_, ?_, fun i h1 h3 => ?_, fun i h1 h3 => ?_⟩, hbC, fun k hk hne => r3.block k hk (fun e => hne e.symm)⟩
    · rw [List.length_append, tcs_app]; exact r2
    · rw [List.length_append, List.length_append, h.len, h2.len]
    · by_cases hil : i < L.length
      · rw [List.getElem_append_left hil, List.getElem_append_left (by rw [← h.len]; exact hil)]
        exact h.is i hil _
      · rw [List.getElem_append_right (by omega), List.getElem_append_right (by rw [← h.len]; omega)]
        have := h2.is (i - L.length) (by rw [List.length_append] at h1; omega) (by rw [List.length_append, ← h.len] at h3; omega)
        simpa [h.len] using this
    · by_cases hil : i < L.length
      · rw [List.getElem_append_left hil, List.getElem_append_left (by rw [← h.len]; exact hil)]
        exact hwd (h.word i hil _)
      · rw [List.getElem_append_right (by omega), List.getElem_append_right (by rw [← h.len]; omega)]
        have := hwd (h2.word (i - L.length) (by rw [List.length_append] at h1; omega) (by rw [List.length_append, ← h.len] at h3; omega))
        simpa [h.len] using this
/-- A row that is not the one that was appended to. -/
theorem TRow.apart {w w' : World} {B C : Nat} {v u : Value} {l : List Tok} {L : List Tk} (h : TRow w B v l L) (hk : ∀ k, k < w.heap.size → u.ownBlock ≠ some k → w'.heap[k]? = w.heap[k]?) (hu : ∀ k, u.ownBlock = some k → k < C ∧ ∃ cur, w.heap[k]? = some (.cells cur 34 (0, 0))) (hC : C ≤ B) : TRow w' B v l L := by
  refine ⟨own_keep h.own fun g c hg h1 => ?_, h.len, h.is, fun i h1 h2 => (h.word i h1 h2).keep fun g cur h3 h4 => ⟨h3, ?_⟩⟩
  · refine (hk g (Array.getElem?_eq_some_iff.1 h1).1 (fun e => ?_)).trans h1
    have := (h.own.lt g hg).1
    have := (hu g e).1
    omega
  · refine (hk g (Array.getElem?_eq_some_iff.1 h4).1 (fun e => ?_)).trans h4
    obtain ⟨_, cur2, h5⟩ := hu g e
    exact cells_ne h4 h5 (by decide) rfl
theorem TRow.ownAt {w : World} {B : Nat} {v : Value} {l : List Tok} {L : List Tk} (h : TRow w B v l L) : ∀ k, v.ownBlock = some k → k < w.heap.size ∧ ∃ cur, w.heap[k]? = some (.cells cur 34 (0, 0)) := fun k hk => by
  refine ⟨(h.own.lt k hk).2, ?_⟩
  rcases own_form h.own with ⟨e1, _⟩ | ⟨g, c', e1, _, _, cur', e2⟩
  · rw [e1] at hk; cases hk
  · rw [e1] at hk; cases hk
    exact ⟨cur', e2⟩
/-- One token that was just laid. -/
theorem TRow.fresh {w : World} (tk : Tk) (x : Tok) (hx : tk.is x) (hw : Wd w (fun k => w.heap.size ≤ k) tk.wv (tokW x)) : TRow (w.alloc (.cells tk.cs.toArray 34)) w.heap.size (.slice (some ⟨w.heap.size, 0, none⟩) 1 1) [x] [tk] := by
  refine ⟨⟨by rw [tcs_len], .inr ⟨w.heap.size, 1, tk.cs.toArray, rfl, Nat.le_refl _, heap_alloc_new w _, Nat.le_refl _, by unfold maxLen; omega, rfl, ?_⟩⟩, rfl, fun i h1 h2 => ?_, fun i h1 h2 => ?_⟩
  · show tk.cs.take 3 = tcs [tk]
    rfl
  · have : i = 0 := by simp at h1; omega
    subst this; exact hx
  · have : i = 0 := by simp at h1; omega
    subst this
    exact hw.under ((Below.refl _ _).alloc (Nat.le_refl _) _)
end Go.Proofs.Ytafbheplaheohaa

namespace Go.Proofs.Ytafbheplaheohaa
open Go.RowKit
set_option linter.unusedVariables false

theorem wpList_run_append_g {P : Program} (w : World) {ops : Array Oper} {rest : List Oper} {o : Oper} {a : Act} {Q : Exit → Act → World → Prop} (hw : Region.wanted o (yielded ops a.tmps) = true) (d s : Operand) (t t' : TypeId)
    (ho : o.op = .call { callee := .builtin .append, args := #[d, s], argTypes := #[t, t'] }) (v u : Value) (hd : a.eval d = v) (hs : a.eval s = u) {v' : Value} {w' : World}
    (hr : (Builtin.append_ #[t, t'] o.type #[v, u]).run P w = .ok v' w') (h : wpList P ops Q rest (a.put o.dst v') w') : wpList P ops Q (o :: rest) a w := by
  refine BigFrame.wpList_want hw fun K hK => ?_
  unfold Oper.wp
  simp [execOp, ho, resolve, invoke, builtin, hd, hs, hr, Result.andThen]
  exact hK _ _ h
set_option maxRecDepth 100000 in
set_option maxHeartbeats 4000000 in
theorem may_big (s : ByteArray) (w : World) (hl : 16384 < s.size) (hs : s.size ≤ 9223372036854775807) : Calls Try.prog 24 #[.string s] w fun e w' => e = .returned (.int .i64 3) ∧ w' = w := by
  have hlI : (16384 : Int) < (s.size : Int) := by omega
  have hld : decide ((16384 : Int) < (s.size : Int)) = true := decide_eq_true hlI
  go_enter Try.func24, Try.ntmps24
  go_wp2_with fail
  go_ret
  exact ⟨rfl, rfl⟩
set_option maxRecDepth 100000 in
set_option maxHeartbeats 4000000 in
theorem RTokens_big (s : ByteArray) (w : World) (hl : 16384 < s.size) (hs : s.size ≤ 9223372036854775807) : Calls Try.prog 14 #[.string s] w fun e w' => e = .returned (.tuple #[.slice none 0 0, .int .i64 3]) ∧ w' = w := by
  have HM := Lib.hid (fun w => may_big s w hl hs)
  clear hl
  go_enter Try.func14, Try.ntmps14
  go_wp2_with (go_at_call 24; refine (HM.out _).mono ?_; rintro e w1 ⟨rfl, h1⟩; obtain rfl := h1.symm; simp only [])
  go_ret2
  exact ⟨rfl, rfl⟩
theorem mayN_big {s : Bz} (h : 16384 < s.length) : tokensF s = .error 3 := by
  have : mayN s = 3 := by unfold mayN; rw [if_pos h]
  rw [tokensF_bad (by rw [this]; decide), this]
/-- The document's Tokens, for texts of any length. -/
theorem RTokens_un (s : ByteArray) (w : World) (hs : s.size ≤ 9223372036854775807) : Calls Try.prog 14 #[.string s] w fun e w' => ∃ a c L, e = .returned (.tuple #[.slice a (toksL (tokensF s.data.toList)).length c, .int .i64 (toksX (tokensF s.data.toList))]) ∧ TRow w' w.heap.size (.slice a (toksL (tokensF s.data.toList)).length c) (toksL (tokensF s.data.toList)) L ∧ Below w.heap.size w w' ∧ (toksL (tokensF s.data.toList)).length ≤ 20000 ∧ (toksX (tokensF s.data.toList) = 0 ↔ ∃ l, tokensF s.data.toList = .ok l) := by
  by_cases hl : 16384 < s.size
  · have ht := mayN_big (s := s.data.toList) (by rw [dl]; exact hl)
    rw [ht]
    refine (RTokens_big s w hl hs).mono ?_
    rintro e w' ⟨rfl, rfl⟩
    exact ⟨none, 0, [], rfl, TRow.nil _ _, Below.refl _ _, by simp [toksL], ⟨fun e => absurd e (by decide), fun ⟨l, e⟩ => by cases e⟩⟩
  · refine (RTokens_any s w (by omega)).mono ?_
    intro e w' h
    exact h.un
end Go.Proofs.Ytafbheplaheohaa

namespace Go.Proofs.Ytafbheplaheohaa
open Go.RowKit
set_option linter.unusedVariables false

def OkX (x : Nat) (r : Res (List Tok)) : Prop := x = 0 → ∃ l, r = .ok l
theorem ok_of {r : Res (List Tok)} {x : Nat} (h : OkX x r) (hx : x = 0) : r = .ok (toksL r) := by
  obtain ⟨l, rfl⟩ := h hx
  rfl
theorem small_toks {s : Bz} {l : List Tok} (h : tokensF s = .ok l) (hs : s.length ≤ 20000) : ∀ i (h : i < l.length), wsz (tokW l[i]) ≤ 100000 := by
  intro i hi
  have := tokens_wz h _ (List.getElem_mem hi)
  rw [tokW_wsz]; omega
set_option maxRecDepth 100000 in
set_option maxHeartbeats 16000000 in
theorem split_walk (a b : ByteArray) (line : Bool) (w : World) (ha0 : a.size ≤ maxLen) (hb0 : b.size ≤ maxLen) : Calls Try.prog 4 #[.string a, .string b, .bool line] w (SayT w) := by
  obtain ⟨Q, hQ⟩ : ∃ Q, SayT w = Q := ⟨_, rfl⟩
  rw [hQ]
  have HQ := Lib.hid hQ
  have HA := Lib.hid (alive_any w)
  have ha : a.size ≤ 9223372036854775807 := by unfold maxLen at ha0; omega
  have hb : b.size ≤ 9223372036854775807 := by unfold maxLen at hb0; omega
  clear hQ ha0 hb0
  have HRA0 := Lib.hid (fun w' => RTokens_un a w' ha)
  obtain ⟨ra, hra⟩ : ∃ r, tokensF a.data.toList = r := ⟨_, rfl⟩
  rw [hra] at HRA0
  obtain ⟨Na, hNa⟩ : ∃ N, (toksL ra).length = N := ⟨_, rfl⟩
  obtain ⟨xa, hxa⟩ : ∃ x, toksX ra = x := ⟨_, rfl⟩
  rw [hNa, hxa] at HRA0
  have HRA : Hid (∀ w', Calls Try.prog 14 #[.string a] w' fun e w'' => ∃ a c L, e = .returned (.tuple #[.slice a Na c, .int .i64 xa]) ∧ TRow w'' w'.heap.size (.slice a Na c) (toksL ra) L ∧ Below w'.heap.size w' w'' ∧ Na ≤ 20000 ∧ OkX xa ra) := fun w' => (HRA0.out w').mono (by
    rintro e w'' ⟨a, c, L, h1, h2, h3, h4, h5⟩
    exact ⟨a, c, L, h1, h2, h3, h4, h5.1⟩)
  clear HRA0
  have Hra := Lib.hid hra
  have HNa := Lib.hid hNa
  have Hxa := Lib.hid hxa
  clear hra hNa hxa
  have HRB0 := Lib.hid (fun w' => RTokens_un b w' hb)
  obtain ⟨rb, hrb⟩ : ∃ r, tokensF b.data.toList = r := ⟨_, rfl⟩
  rw [hrb] at HRB0
  obtain ⟨Nb, hNb⟩ : ∃ N, (toksL rb).length = N := ⟨_, rfl⟩
  obtain ⟨xb, hxb⟩ : ∃ x, toksX rb = x := ⟨_, rfl⟩
  rw [hNb, hxb] at HRB0
  have HRB : Hid (∀ w', Calls Try.prog 14 #[.string b] w' fun e w'' => ∃ a c L, e = .returned (.tuple #[.slice a Nb c, .int .i64 xb]) ∧ TRow w'' w'.heap.size (.slice a Nb c) (toksL rb) L ∧ Below w'.heap.size w' w'' ∧ Nb ≤ 20000 ∧ OkX xb rb) := fun w' => (HRB0.out w').mono (by
    rintro e w'' ⟨a, c, L, h1, h2, h3, h4, h5⟩
    exact ⟨a, c, L, h1, h2, h3, h4, h5.1⟩)
  clear HRB0
  have Hrb := Lib.hid hrb
  have HNb := Lib.hid hNb
  have Hxb := Lib.hid hxb
  clear hrb hNb hxb
  by_cases h1 : 300 < a.size
  · as_aux_lemma =>
      have h1I : (300 : Int) < (a.size : Int) := by omega
      have h1d : decide ((300 : Int) < (a.size : Int)) = true := decide_eq_true h1I
      go_enter Try.func4, Try.ntmps4
      go_wp2_with (first
        | (go_at_call 12; refine HA.out.mono ?_; rintro e w1 ⟨rfl, h1⟩; have H1 := Lib.hid h1; clear h1; simp only [])
        | (go_at_call 14; first
          | ((with_reducible refine (HRA.out _).mono ?_); rintro e w2 ⟨a1, c1, L1, rfl, h1, h2, h3, h4⟩; have HX := Lib.hid h1; have H2 := Lib.hid h2; have H2N := Lib.hid (And.intro h3 h4); clear h1 h2 h3 h4; simp only [])
          | ((with_reducible refine (HRB.out _).mono ?_); rintro e w3 ⟨a2, c2, L2, rfl, h1, h2, h3, h4⟩; have HY := Lib.hid h1; have H3 := Lib.hid h2; have H3N := Lib.hid (And.intro h3 h4); clear h1 h2 h3 h4; simp only [])))
      rw [← HQ.out]; exact ⟨rfl, H1.out.trans ((H2.out.trans (H3.out.mono H2.out.size)).mono H1.out.size)⟩
  have h1I : ¬ (300 : Int) < (a.size : Int) := by omega
  have h1d : decide ((300 : Int) < (a.size : Int)) = false := decide_eq_false h1I
  by_cases h2 : 300 < b.size
  · as_aux_lemma =>
      have h2I : (300 : Int) < (b.size : Int) := by omega
      have h2d : decide ((300 : Int) < (b.size : Int)) = true := decide_eq_true h2I
      go_enter Try.func4, Try.ntmps4
      go_wp2_with (first
        | (go_at_call 12; refine HA.out.mono ?_; rintro e w1 ⟨rfl, h1⟩; have H1 := Lib.hid h1; clear h1; simp only [])
        | (go_at_call 14; first
          | ((with_reducible refine (HRA.out _).mono ?_); rintro e w2 ⟨a1, c1, L1, rfl, h1, h2, h3, h4⟩; have HX := Lib.hid h1; have H2 := Lib.hid h2; have H2N := Lib.hid (And.intro h3 h4); clear h1 h2 h3 h4; simp only [])
          | ((with_reducible refine (HRB.out _).mono ?_); rintro e w3 ⟨a2, c2, L2, rfl, h1, h2, h3, h4⟩; have HY := Lib.hid h1; have H3 := Lib.hid h2; have H3N := Lib.hid (And.intro h3 h4); clear h1 h2 h3 h4; simp only [])))
      rw [← HQ.out]; exact ⟨rfl, H1.out.trans ((H2.out.trans (H3.out.mono H2.out.size)).mono H1.out.size)⟩
  have h2I : ¬ (300 : Int) < (b.size : Int) := by omega
  have h2d : decide ((300 : Int) < (b.size : Int)) = false := decide_eq_false h2I
  by_cases hxa : xa = 0
  case neg =>
    as_aux_lemma =>
      have nxa : ¬ ((xa : Int) = 0) := by omega
      have zxa : ((xa : Int) == 0) = false := beq_eq_false_iff_ne.2 nxa
      go_enter Try.func4, Try.ntmps4
      go_wp2_with (first
        | (go_at_call 12; refine HA.out.mono ?_; rintro e w1 ⟨rfl, h1⟩; have H1 := Lib.hid h1; clear h1; simp only [])
        | (go_at_call 14; first
          | ((with_reducible refine (HRA.out _).mono ?_); rintro e w2 ⟨a1, c1, L1, rfl, h1, h2, h3, h4⟩; have HX := Lib.hid h1; have H2 := Lib.hid h2; have H2N := Lib.hid (And.intro h3 h4); clear h1 h2 h3 h4; simp only [])
          | ((with_reducible refine (HRB.out _).mono ?_); rintro e w3 ⟨a2, c2, L2, rfl, h1, h2, h3, h4⟩; have HY := Lib.hid h1; have H3 := Lib.hid h2; have H3N := Lib.hid (And.intro h3 h4); clear h1 h2 h3 h4; simp only [])))
      rw [← HQ.out]; exact ⟨rfl, H1.out.trans ((H2.out.trans (H3.out.mono H2.out.size)).mono H1.out.size)⟩
  subst hxa
  by_cases hxb : xb = 0
  case neg =>
    as_aux_lemma =>
      have nxb : ¬ ((xb : Int) = 0) := by omega
      have zxb : ((xb : Int) == 0) = false := beq_eq_false_iff_ne.2 nxb
      go_enter Try.func4, Try.ntmps4
      go_wp2_with (first
        | (go_at_call 12; refine HA.out.mono ?_; rintro e w1 ⟨rfl, h1⟩; have H1 := Lib.hid h1; clear h1; simp only [])
        | (go_at_call 14; first
          | ((with_reducible refine (HRA.out _).mono ?_); rintro e w2 ⟨a1, c1, L1, rfl, h1, h2, h3, h4⟩; have HX := Lib.hid h1; have H2 := Lib.hid h2; have H2N := Lib.hid (And.intro h3 h4); clear h1 h2 h3 h4; simp only [])
          | ((with_reducible refine (HRB.out _).mono ?_); rintro e w3 ⟨a2, c2, L2, rfl, h1, h2, h3, h4⟩; have HY := Lib.hid h1; have H3 := Lib.hid h2; have H3N := Lib.hid (And.intro h3 h4); clear h1 h2 h3 h4; simp only [])))
      rw [← HQ.out]; exact ⟨rfl, H1.out.trans ((H2.out.trans (H3.out.mono H2.out.size)).mono H1.out.size)⟩
  subst hxb
  go_enter Try.func4, Try.ntmps4
  go_wp2_with (first
    | (go_at_call 12; refine HA.out.mono ?_; rintro e w1 ⟨rfl, h1⟩; have H1 := Lib.hid h1; clear h1; simp only [])
    | (go_at_call 14; first
      | ((with_reducible refine (HRA.out _).mono ?_); rintro e w2 ⟨a1, c1, L1, rfl, h1, h2, h3, h4⟩; have HX := Lib.hid h1; have H2 := Lib.hid h2; have H2N := Lib.hid (And.intro h3 h4); clear h1 h2 h3 h4; simp only [])
      | ((with_reducible refine (HRB.out _).mono ?_); rintro e w3 ⟨a2, c2, L2, rfl, h1, h2, h3, h4⟩; have HY := Lib.hid h1; have H3 := Lib.hid h2; have H3N := Lib.hid (And.intro h3 h4); clear h1 h2 h3 h4; simp only [])))
  have HLA := Lib.hid (ok_of H2N.out.2 rfl)
  have HLB := Lib.hid (ok_of H3N.out.2 rfl)
  have HBB : Hid (Below w.heap.size w w3) := H1.out.trans ((H2.out.trans (H3.out.mono H2.out.size)).mono H1.out.size)
  go_loopw [12] (fun i wx => ∃ k : Nat, k ≤ a.size ∧ i = .int .i64 k ∧ wx = w3 ∧ Hid (No92 (a.data.toList.take k))) (fun i _ => a.size - (intOf i).toNat)
  case atStart => exact ⟨0, Nat.zero_le _, rfl, rfl, fun x hx => by simp at hx⟩
  case round =>
    obtain ⟨k, hk, rfl, hwr, HN⟩ := hrel
    subst hwr
    by_cases hlt : k < a.size
    · have hltI : (k : Int) < (a.size : Int) := by omega
      have hltd : decide ((k : Int) < (a.size : Int)) = true := decide_eq_true hltI
      have hk0 : (0 : Int) ≤ (k : Int) := by omega
      have hat := data_get a k hlt
      obtain ⟨d, hd⟩ : ∃ d, a[k]'hlt = d := ⟨_, rfl⟩
      rw [hd] at hat
      have HAT := Lib.hid hat
      clear hat
      by_cases e35 : d = 35
      · as_aux_lemma =>
          have n35 : (d.toNat : Int) = 35 := by rw [e35]; rfl
          have z35 : ((d.toNat : Int) == 35) = true := by rw [n35]; rfl
          clear e35
          go_wp2_with fail
          rw [← HQ.out]; exact ⟨rfl, HBB.out⟩
      have n35 : ¬ ((d.toNat : Int) = 35) := fun e => e35 (UInt8.toNat_inj.1 (by have : ((35 : UInt8).toNat : Int) = 35 := rfl; omega))
      have z35 : ((d.toNat : Int) == 35) = false := beq_eq_false_iff_ne.2 n35
      by_cases e92 : d = 92
      · as_aux_lemma =>
          have n92 : (d.toNat : Int) = 92 := by rw [e92]; rfl
          have z92 : ((d.toNat : Int) == 92) = true := by rw [n92]; rfl
          clear e92 e35
          go_wp2_with fail
          rw [← HQ.out]; exact ⟨rfl, HBB.out⟩
      have n92 : ¬ ((d.toNat : Int) = 92) := fun e => e92 (UInt8.toNat_inj.1 (by have : ((92 : UInt8).toNat : Int) = 92 := rfl; omega))
      have z92 : ((d.toNat : Int) == 92) = false := beq_eq_false_iff_ne.2 n92
      as_aux_lemma =>
        have HNN : Hid (No92 (a.data.toList.take (k + 1))) := by
          rw [Hid, List.take_add_one, HAT.out]
          intro y hy
          rcases List.mem_append.1 hy with hy | hy
          · exact HN.out y hy
          · have : y = d := by simpa using hy
            rw [this]; exact ⟨e92, e35⟩
        clear e92 e35
        go_wp2_with fail
        go_roundw
        case measure => simp [intOf]; omega
        case rel => exact ⟨k + 1, by omega, by go_num, by trivial, HNN.out⟩
    · have hkk : k = a.size := by omega
      subst hkk
      have hltd : decide ((a.size : Int) < (a.size : Int)) = false := decide_eq_false (by omega)
      have HNO : Hid (No92 a.data.toList) := by
        have := HN.out
        rw [List.take_of_length_le (by rw [dl]; exact Nat.le_refl _)] at this; exact this
      have HX3 : Hid (TRow wr w.heap.size (.slice a1 Na c1) (toksL ra) L1) := (HX.out.under H3.out).mono H1.out.size
      have HY3 : Hid (TRow wr w2.heap.size (.slice a2 Nb c2) (toksL rb) L2) := HY.out
      have hN1 := H2N.out.1
      have hN2 := H3N.out.1
      have HSP : Hid (tokensF (a.data.toList ++ sepB line :: b.data.toList) = .ok (toksL ra ++ sepT line ++ toksL rb)) := split_tokens (Hra.out.trans HLA.out) (Hrb.out.trans HLB.out) (by rw [dl]; omega) (by rw [dl]; omega) HNO.out line
      obtain ⟨lt, hlt2⟩ : ∃ lt, toksL ra ++ sepT line ++ toksL rb = lt := ⟨_, rfl⟩
      rw [hlt2] at HSP
      obtain ⟨NT, hNT⟩ : ∃ NT, lt.length = NT := ⟨_, rfl⟩
      have HT : Hid (∀ (S : ByteArray) w', S.data.toList = a.data.toList ++ sepB line :: b.data.toList → Calls Try.prog 13 #[.string S] w' fun e w'' => ∃ a5 c5 L5, e = .returned (.tuple #[.slice a5 NT c5, .int .i64 0]) ∧ TRow w'' w'.heap.size (.slice a5 NT c5) lt L5 ∧ Below w'.heap.size w' w'') := fun S w' hS => by
        have hsz : S.size ≤ 700 := by have := congrArg List.length hS; rw [dl] at this; simp at this; omega
        have h := Tokens_any S w' (by omega)
        rw [hS, HSP.out] at h
        refine h.mono ?_
        rintro e w'' ⟨a5, c5, L5, rfl, h1, h2, _⟩
        rw [hNT] at h1 ⊢
        exact ⟨a5, c5, L5, rfl, h1, h2⟩
      have HSM : Hid (∀ i (h : i < lt.length), wsz (tokW lt[i]) ≤ 100000) := small_toks HSP.out (by simp; omega)
      have HLT := Lib.hid hlt2
      have hNTb : NT ≤ 50000 := by rw [← hNT, ← hlt2]; have h1 := HNa.out; have h2 := HNb.out; cases line <;> simp [sepT] <;> omega
      have hL1 : L1.length = Na := HX.out.len.trans HNa.out
      have hL2 : L2.length = Nb := HY.out.len.trans HNb.out
      have HL1 := Lib.hid hL1
      have HL2 := Lib.hid hL2
      have HNT := Lib.hid hNT
      clear hlt hlt2 hNT hL1 hL2
      cases line with
      | true =>
        as_aux_lemma =>
          -- the line end, behind a's tokens
          have hfr := TRow.fresh (w := wr) ⟨2, ⟨#[10]⟩, .slice none 0 0⟩ (.op [10]) ⟨rfl, rfl⟩ (.nil 0)
          have hbel : Below wr.heap.size wr (wr.alloc (.cells (Tk.cs ⟨2, ⟨#[10]⟩, .slice none 0 0⟩).toArray 34)) := (Below.refl _ _).alloc (Nat.le_refl _) _
          obtain ⟨a4, c4, w4, r4, hx4, hb4, hk4⟩ := TRow.cat (n := Na + 1) (by rw [HL1.out]; rfl) (HX3.out.under hbel) (hfr.mono HBB.out.size) (Nat.le_trans HBB.out.size hbel.size) (by rw [HL1.out]; omega) (by simp)
          have hu1 : ∀ k, (Value.slice a1 Na c1).ownBlock = some k → k < w2.heap.size ∧ ∃ cur, (wr.alloc (.cells (Tk.cs ⟨2, ⟨#[10]⟩, .slice none 0 0⟩).toArray 34)).heap[k]? = some (.cells cur 34 (0, 0)) := fun k hk => ⟨(HX.out.ownAt k hk).1, ((HX3.out.under hbel).ownAt k hk).2⟩
          have hy4 := (HY3.out.under hbel).apart hk4 hu1 (Nat.le_refl _)
          have HX4 := Lib.hid hx4
          have HY4 := Lib.hid hy4
          have HB4 : Hid (Below w.heap.size w w4) := (HBB.out.trans (hbel.mono HBB.out.size)).trans hb4
          have HH2 : Hid (w.heap.size ≤ w2.heap.size) := Nat.le_trans H1.out.size H2.out.size
          clear hfr hbel hx4 hb4 hk4 hu1 hy4
          go_wp2_with (first
            | (at_builtin; refine wpList_run_append _ rfl _ _ 23 23 rfl _ _ rfl rfl r4 ?_)
            | (go_at_call 13
               refine (HT.out _ _ ?_).mono ?_
               · simp [sepB]
               rintro e w5 ⟨a5, c5, L5, rfl, h5, h6⟩
               obtain ⟨a6, c6, w6, r6, hx6, hb6, hk6⟩ := TRow.cat (n := Na + 1 + Nb) (by rw [HL2.out]; simp [HL1.out]) (HX4.out.under h6) ((HY4.out.under h6).mono HH2.out) (Nat.le_trans HB4.out.size h6.size) (by simp [HL1.out]; omega) (by rw [HL2.out]; omega)
               have HX6 : Hid (Tl w6 (.slice a6 (Na + 1 + Nb) c6) lt) := by
                 rw [Hid, ← HLT.out]
                 simpa [sepT] using hx6.tl
               have HT6 : Hid (Tl w6 (.slice a5 NT c5) lt) := (h5.apart hk6 (fun k hk => ⟨(HX4.out.ownAt k hk).1, ((HX4.out.under h6).ownAt k hk).2⟩) (Nat.le_refl _)).tl
               have HB6 : Hid (Below w.heap.size w w6) := (HB4.out.trans (h6.mono HB4.out.size)).trans hb6
               clear h5 h6 hx6 hb6 hk6
               simp only [])
            | (go_at_call 15; refine (num_any _ _).mono ?_; rintro e w7 ⟨rfl, h7⟩; obtain rfl := h7.symm; simp only [])
            | (at_builtin; refine wpList_run_append_g _ rfl _ _ 23 23 rfl _ _ rfl rfl r6 ?_)
            | (go_at_call 16; refine (SameTokens_any _ _ lt _ (by rw [HNT.out]; omega) HSM.out HT6.out HX6.out).mono ?_; rintro e w8 ⟨rfl, h8⟩; have H8 := Lib.hid h8; clear h8; simp only []))
          rw [← HQ.out]; exact ⟨rfl, HB6.out.trans (H8.out.mono HB6.out.size)⟩
      | false =>
        as_aux_lemma =>
          have HX4 := HX3
          have HY4 := HY3
          have HB4 := HBB
          have HH2 : Hid (w.heap.size ≤ w2.heap.size) := Nat.le_trans H1.out.size H2.out.size
          go_wp2_with (first
            | (go_at_call 13
               refine (HT.out _ _ ?_).mono ?_
               · simp [sepB]
               rintro e w5 ⟨a5, c5, L5, rfl, h5, h6⟩
               obtain ⟨a6, c6, w6, r6, hx6, hb6, hk6⟩ := TRow.cat (n := Na + Nb) (by rw [HL2.out]; simp [HL1.out]) (HX4.out.under h6) ((HY4.out.under h6).mono HH2.out) (Nat.le_trans HB4.out.size h6.size) (by simp [HL1.out]; omega) (by rw [HL2.out]; omega)
               have HX6 : Hid (Tl w6 (.slice a6 (Na + Nb) c6) lt) := by
                 rw [Hid, ← HLT.out]
                 simpa [sepT] using hx6.tl
               have HT6 : Hid (Tl w6 (.slice a5 NT c5) lt) := (h5.apart hk6 (fun k hk => ⟨(HX4.out.ownAt k hk).1, ((HX4.out.under h6).ownAt k hk).2⟩) (Nat.le_refl _)).tl
               have HB6 : Hid (Below w.heap.size w w6) := (HB4.out.trans (h6.mono HB4.out.size)).trans hb6
               clear h5 h6 hx6 hb6 hk6
               simp only [])
            | (go_at_call 15; refine (num_any _ _).mono ?_; rintro e w7 ⟨rfl, h7⟩; obtain rfl := h7.symm; simp only [])
            | (at_builtin; refine wpList_run_append_g _ rfl _ _ 23 23 rfl _ _ rfl rfl r6 ?_)
            | (go_at_call 16; refine (SameTokens_any _ _ lt _ (by rw [HNT.out]; omega) HSM.out HT6.out HX6.out).mono ?_; rintro e w8 ⟨rfl, h8⟩; have H8 := Lib.hid h8; clear h8; simp only []))
          rw [← HQ.out]; exact ⟨rfl, HB6.out.trans (H8.out.mono HB6.out.size)⟩
end Go.Proofs.Ytafbheplaheohaa
