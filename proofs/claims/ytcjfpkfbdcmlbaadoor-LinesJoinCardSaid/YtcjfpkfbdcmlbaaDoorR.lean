import Derived.Test.YtcjfpkfbdcmlbaaDoorQ
namespace Go.Proofs.YtcjfpkfbdcmlbaaDoor
set_option linter.unusedVariables false

/-! Words joined. -/
def jn (sp : Bs) : List Bs → Bs
  | [] => []
  | [x] => x
  | x :: y :: r => x ++ sp ++ jn sp (y :: r)
theorem jn_snoc (sp : Bs) : ∀ (X : List Bs) (y : Bs), jn sp (X ++ [y]) = if X = [] then y else jn sp X ++ sp ++ y
  | [], y => rfl
  | [x], y => rfl
  | x :: z :: r, y => by
    have ih := jn_snoc sp (z :: r) y
    rw [if_neg (by simp)] at ih ⊢
    show x ++ sp ++ jn sp (z :: r ++ [y]) = _
    rw [ih]
    show _ = x ++ sp ++ jn sp (z :: r) ++ sp ++ y
    simp
def Lt (x : Bs) : Prop := x ≠ [] ∧ ∀ c ∈ x, 97 ≤ c.toNat ∧ c.toNat ≤ 122
def sepS : Bs := [32, 9, 92, 10, 32, 32]
theorem Lt.ne {x : Bs} (h : Lt x) {d : UInt8} (hd : d.toNat < 97) : ∀ c ∈ x, c ≠ d := fun c hc e => by
  have := (h.2 c hc).1
  rw [e] at this; omega
theorem Lt.last {x : Bs} (h : Lt x) : ∃ u c, x = u ++ [c] ∧ 97 ≤ c.toNat ∧ c.toNat ≤ 122 := by
  refine ⟨x.dropLast, x.getLast h.1, (List.dropLast_concat_getLast h.1).symm, h.2 _ (List.getLast_mem _)⟩
theorem Lt.first {x : Bs} (h : Lt x) : ∃ c u, x = c :: u ∧ 97 ≤ c.toNat ∧ c.toNat ≤ 122 := by
  cases x with
  | nil => exact absurd rfl h.1
  | cons c u => exact ⟨c, u, rfl, h.2 c (by simp)⟩
theorem isB_let {c : UInt8} (h : 97 ≤ c.toNat) : isB c = false := by
  unfold isB
  simp only [List.contains, List.elem]
  have h1 : (c == 32) = false := by rw [beq_eq_false_iff_ne]; intro e; rw [e] at h; revert h; decide
  have h2 : (c == 9) = false := by rw [beq_eq_false_iff_ne]; intro e; rw [e] at h; revert h; decide
  rw [h1, h2]
theorem trR_let (a : Bs) {x : Bs} (h : Lt x) : trR (a ++ x) = a ++ x := by
  obtain ⟨u, c, rfl, h1, _⟩ := h.last
  rw [← List.append_assoc, trR_snoc, if_neg (by rw [isB_let h1]; decide)]
theorem trL_let {x : Bs} (h : Lt x) (b : Bs) : trL (x ++ b) = x ++ b := by
  obtain ⟨c, u, rfl, h1, _⟩ := h.first
  rw [List.cons_append, trL_cons, if_neg (by rw [isB_let h1]; decide)]
theorem odd_let (a : Bs) {x : Bs} (h : Lt x) : odd (a ++ x) = false := by
  obtain ⟨u, c, rfl, h1, _⟩ := h.last
  refine odd_end ?_
  rw [getLast?_app _ (by simp), List.getLast?_concat]
  intro e
  injection e with e
  rw [e] at h1; revert h1; decide
theorem odd_sep (a : Bs) : odd (a ++ [32, 9, 92]) = true := by
  unfold odd sl
  rw [List.reverse_append]
  rfl
def lns (p : Bs) : Bs → List Bs → List Bs
  | x, [] => [p ++ x]
  | x, y :: r => (p ++ x ++ [32, 9, 92]) :: lns [32, 32] y r
theorem seg_jn : ∀ (r : List Bs) (p x : Bs), (∀ c ∈ p, c ≠ 10) → (∀ y ∈ x :: r, Lt y) → seg (p ++ jn sepS (x :: r)) = lns p x r
  | [], p, x, hp, h => by
    have hx := h x (by simp)
    show seg (p ++ x) = [p ++ x]
    refine seg_one _ (fun c hc => ?_)
    rcases List.mem_append.1 hc with hc | hc
    · exact hp c hc
    · exact hx.ne (by decide) c hc
  | y :: r, p, x, hp, h => by
    have hx := h x (by simp)
    have ih := seg_jn r [32, 32] y (by decide) (fun z hz => h z (List.mem_cons_of_mem _ hz))
    have e : p ++ jn sepS (x :: y :: r) = (p ++ x ++ [32, 9, 92]) ++ 10 :: ([32, 32] ++ jn sepS (y :: r)) := by
      show p ++ (x ++ sepS ++ jn sepS (y :: r)) = _
      simp [sepS]
    rw [e, seg_app _ _ ?_, ih]
    · rfl
    · intro c hc
      rcases List.mem_append.1 hc with hc | hc
      · rcases List.mem_append.1 hc with hc | hc
        · exact hp c hc
        · exact hx.ne (by decide) c hc
      · simp at hc; rcases hc with rfl | rfl | rfl <;> decide
theorem goN_lns : ∀ (r : List Bs) (a x y : Bs), Lt x → (∀ z ∈ y :: r, Lt z) → goN (a ++ x ++ [32, 9, 92]) (lns [32, 32] y r) = (a ++ x ++ [32] ++ jn [32] (y :: r), [])
  | r, a, x, y, hx, h => by
    have hy := h y (by simp)
    have hd : (a ++ x ++ [32, 9, 92]).dropLast = a ++ x ++ [32, 9] := by
      rw [show a ++ x ++ [32, 9, 92] = (a ++ x ++ [32, 9]) ++ [92] by simp, List.dropLast_concat]
    have ht : trR (a ++ x ++ [32, 9]) = a ++ x := by
      rw [show a ++ x ++ [32, 9] = ((a ++ x) ++ [32]) ++ [9] by simp, trR_snoc, if_pos (by decide), trR_snoc, if_pos (by decide)]
      exact trR_let a hx
    have hl : ∀ b, trL ([32, 32] ++ y ++ b) = y ++ b := fun b => by
      show trL (32 :: 32 :: (y ++ b)) = _
      rw [trL_cons, if_pos (by decide), trL_cons, if_pos (by decide)]
      exact trL_let hy b
    cases r with
    | nil =>
      have hl0 := hl []
      rw [List.append_nil, List.append_nil] at hl0
      show goN _ [[32, 32] ++ y] = _
      rw [goN, if_pos (odd_sep _), hd, ht, hl0, goN, if_neg (by rw [odd_let _ hy]; decide)]
      rfl
    | cons z r =>
      show goN _ (([32, 32] ++ y ++ [32, 9, 92]) :: lns [32, 32] z r) = _
      rw [goN, if_pos (odd_sep _), hd, ht, hl]
      have ih := goN_lns r (a ++ x ++ [32]) y z hy (fun w hw => h w (List.mem_cons_of_mem _ hw))
      rw [show a ++ x ++ [32] ++ (y ++ [32, 9, 92]) = a ++ x ++ [32] ++ y ++ [32, 9, 92] by simp, ih]
      show _ = (a ++ x ++ [32] ++ (y ++ [32] ++ jn [32] (z :: r)), [])
      simp
theorem goR_lns : ∀ (r : List Bs) (a y : Bs), (∀ z ∈ y :: r, Lt z) → goR (a ++ [32, 9, 92]) (lns [32, 32] y r) = (a ++ sepS ++ jn sepS (y :: r), [])
  | r, a, y, h => by
    have hy := h y (by simp)
    have h9 : ∀ b, tl9 ([32, 32] ++ b) = [32, 32] ++ b := fun b => tl9_no (by simp)
    cases r with
    | nil =>
      show goR _ [[32, 32] ++ y] = _
      rw [goR, if_pos (odd_sep _), h9, goR]
      show _ = (a ++ sepS ++ y, [])
      simp [sepS]
    | cons z r =>
      show goR _ (([32, 32] ++ y ++ [32, 9, 92]) :: lns [32, 32] z r) = _
      rw [goR, if_pos (odd_sep _), List.append_assoc [32, 32] y, h9]
      have ih := goR_lns r (a ++ sepS ++ y) z (fun w hw => h w (List.mem_cons_of_mem _ hw))
      rw [show a ++ [32, 9, 92] ++ 10 :: ([32, 32] ++ (y ++ [32, 9, 92])) = a ++ sepS ++ y ++ [32, 9, 92] by simp [sepS], ih]
      show _ = (a ++ sepS ++ (y ++ sepS ++ jn sepS (z :: r)), [])
      simp
theorem jn_last (sp : Bs) : ∀ (r : List Bs) (x : Bs), (∀ y ∈ x :: r, Lt y) → ∃ a z, jn sp (x :: r) = a ++ z ∧ Lt z
  | [], x, h => ⟨[], x, rfl, h x (by simp)⟩
  | y :: r, x, h => by
    obtain ⟨a, z, e, hz⟩ := jn_last sp r y (fun w hw => h w (List.mem_cons_of_mem _ hw))
    exact ⟨x ++ sp ++ a, z, by show x ++ sp ++ jn sp (y :: r) = _; rw [e]; simp, hz⟩
theorem jn_first (sp : Bs) (r : List Bs) (x : Bs) : ∃ b, jn sp (x :: r) = x ++ b := by
  cases r with
  | nil => exact ⟨[], by simp [jn]⟩
  | cons y r => exact ⟨sp ++ jn sp (y :: r), by simp [jn]⟩
theorem mem_jn (sp : Bs) : ∀ (l : List Bs) (c : UInt8), c ∈ jn sp l → c ∈ sp ∨ ∃ x ∈ l, c ∈ x
  | [], c, h => by simp [jn] at h
  | [x], c, h => .inr ⟨x, by simp, h⟩
  | x :: y :: r, c, h => by
    have h : c ∈ x ++ sp ++ jn sp (y :: r) := h
    rcases List.mem_append.1 h with h | h
    · rcases List.mem_append.1 h with h | h
      · exact .inr ⟨x, by simp, h⟩
      · exact .inl h
    · rcases mem_jn sp (y :: r) c h with h | ⟨z, hz, hc⟩
      · exact .inl h
      · exact .inr ⟨z, List.mem_cons_of_mem _ hz, hc⟩
theorem cmt_none : ∀ (s : Bs), (∀ c ∈ s, c ≠ 92 ∧ c ≠ 35) → cmt s = s
  | [], _ => by rw [cmt]
  | c :: s, h => by
    rw [cmt_other (fun e => (h c (by simp)).1 e.1) (h c (by simp)).2, cmt_none s (fun d hd => h d (List.mem_cons_of_mem _ hd))]
theorem fin_jn (r : List Bs) (x : Bs) (h : ∀ y ∈ x :: r, Lt y) : fin (jn [32] (x :: r)) = [(false, jn [32] (x :: r))] := by
  have hx := h x (by simp)
  have hc : cmt (jn [32] (x :: r)) = jn [32] (x :: r) := cmt_none _ (fun c hc => by
    rcases mem_jn _ _ c hc with h1 | ⟨y, hy, h1⟩
    · simp at h1; rw [h1]; decide
    · exact ⟨(h y hy).ne (by decide) c h1, (h y hy).ne (by decide) c h1⟩)
  obtain ⟨a, z, e1, hz⟩ := jn_last [32] r x h
  obtain ⟨b, e2⟩ := jn_first [32] r x
  have h1 : trR (jn [32] (x :: r)) = jn [32] (x :: r) := by rw [e1]; exact trR_let a hz
  have h2 : trL (jn [32] (x :: r)) = jn [32] (x :: r) := by rw [e2]; exact trL_let hx b
  unfold fin
  rw [hc, h1, h2, if_neg ?_]
  intro e
  rw [e2] at e
  exact hx.1 (List.append_eq_nil_iff.1 e).1
theorem phys_let (s : Bs) {z : Bs} (hz : Lt z) (a : Bs) (e : s = a ++ z) : phys s = seg s := by
  obtain ⟨u, c, rfl, h1, _⟩ := hz.last
  refine phys_open s (by rw [e]; simp) ?_
  rw [e, ← List.append_assoc, List.getLast?_concat]
  intro h
  injection h with h
  rw [h] at h1; revert h1; decide
theorem join_val (r : List Bs) (x : Bs) (h : ∀ y ∈ x :: r, Lt y) : readL (phys (jn sepS (x :: r))) = [(false, jn [32] (x :: r))] := by
  obtain ⟨a, z, e1, hz⟩ := jn_last sepS r x h
  have hs := seg_jn r [] x (by simp) h
  rw [List.nil_append] at hs
  rw [phys_let _ hz a e1, hs]
  have hx := h x (by simp)
  obtain ⟨c, u, ex, h1, h2⟩ := hx.first
  have h9 : x.head? ≠ some 9 := by
    rw [ex]; intro e
    injection e with e
    rw [e] at h1; revert h1; decide
  cases r with
  | nil =>
    show readL [[] ++ x] = _
    rw [List.nil_append, readL_not h9, goN, if_neg (by have := odd_let [] hx; rw [List.nil_append] at this; rw [this]; decide)]
    have := fin_jn [] x h
    show fin x ++ readL [] = [(false, x)]
    rw [show fin x = [(false, x)] from this]; rfl
  | cons y r =>
    show readL (([] ++ x ++ [32, 9, 92]) :: lns [32, 32] y r) = _
    rw [readL_not (by rw [ex]; intro e; exact h9 (by rw [ex]; exact e)), goN_lns r [] x y hx (fun z hz => h z (List.mem_cons_of_mem _ hz))]
    have e : ([] ++ x ++ [32] ++ jn [32] (y :: r) : Bs) = jn [32] (x :: y :: r) := rfl
    dsimp only
    rw [e, fin_jn _ _ h]; rfl
theorem join_rec (r : List Bs) (x : Bs) (h : ∀ y ∈ x :: r, Lt y) : readL (phys (9 :: jn sepS (x :: r))) = [(true, jn sepS (x :: r))] := by
  obtain ⟨a, z, e1, hz⟩ := jn_last sepS r x h
  have hs := seg_jn r [9] x (by decide) h
  have hs : seg (9 :: jn sepS (x :: r)) = lns [9] x r := hs
  rw [phys_let _ hz (9 :: a) (by rw [e1]; rfl), hs]
  cases r with
  | nil =>
    show readL [9 :: x] = _
    rw [readL_rec rfl]
    show (true, (goR x []).1) :: readL (goR x []).2 = _
    rw [goR]; rfl
  | cons y r =>
    show readL ((9 :: (x ++ [32, 9, 92])) :: lns [32, 32] y r) = _
    rw [readL_rec rfl]
    show (true, (goR (x ++ [32, 9, 92]) (lns [32, 32] y r)).1) :: readL (goR (x ++ [32, 9, 92]) (lns [32, 32] y r)).2 = _
    rw [goR_lns r x y (fun z hz => h z (List.mem_cons_of_mem _ hz))]; rfl
theorem join_zero (r : List Bs) (x : Bs) (h : ∀ y ∈ x :: r, Lt y) : (0 : UInt8) ∉ jn sepS (x :: r) := fun hc => by
  rcases mem_jn _ _ _ hc with h1 | ⟨y, hy, h1⟩
  · revert h1; decide
  · exact (h y hy).ne (d := 0) (by decide) 0 h1 rfl
end Go.Proofs.YtcjfpkfbdcmlbaaDoor
