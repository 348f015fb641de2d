import Derived.Test.YthbemfpoanmjcaaDoorQ
namespace Go.Proofs.YthbemfpoanmjcaaDoor
set_option linter.unusedVariables false

/-! References by hand. -/
theorem idxB_no {x : UInt8} : ∀ {a : Bs}, x ∉ a → Lib.indexByte a x = -1
  | [], _ => rfl
  | c :: a, h => by
    have h1 : c ≠ x := fun e => h (by rw [e]; simp)
    rw [Lib.indexByte, if_neg (by simpa using h1), idxB_no (fun hm => h (List.mem_cons_of_mem _ hm))]; rfl
theorem cut_none {x : UInt8} {a : Bs} (h : x ∉ a) : Lib.cut a [x] = (a, [], false) := by
  unfold Lib.cut
  rw [Lib.index_one, idxB_no h, if_neg (by omega)]
theorem pieces_ref {rf : Bs → Nat → R} {f c c2 : Nat} {pre r rest out v : Bs} (hpre : (36 : UInt8) ∉ pre) (hr : r ≠ []) (hr1 : r.head? ≠ some 36) (hn : refN (36 :: (r ++ rest)) = r.length + 1) (hlen : (out ++ pre).length ≤ 16384)
    (h : rf r c = ((v, 0), c2)) : piecesF rf (f + 1) (pre ++ 36 :: (r ++ rest)) out c = piecesF rf f rest (out ++ pre ++ v) c2 := by
  have hd : (pre ++ 36 :: (r ++ rest)).drop pre.length = 36 :: (r ++ rest) := List.drop_left
  have hl : 0 < r.length := List.length_pos_iff.2 hr
  rw [piecesF_on (a := pre.length) (n := r.length + 1) (v := v) (e := 0) (c2 := c2) (idx_at _ hpre) (by simp; omega) ?_ (by rw [List.take_left]; omega) (by rw [hd]; exact hn) (by omega) ?_ rfl]
  · rw [hd, List.take_left, List.drop_succ_cons, List.drop_left]
  · rw [hd]
    cases r with
    | nil => exact absurd rfl hr
    | cons a r => exact hr1
  · rw [hd, List.take_succ_cons, List.drop_succ_cons, List.drop_zero, List.take_left]; exact h
theorem scan_no {o c : UInt8} (t : Bs) : ∀ (a : Bs) (i : Nat) (k : Int), o ∉ a → c ∉ a → scanR o c (a ++ t) i k = scanR o c t (i + a.length) k
  | [], i, k, _, _ => rfl
  | b :: a, i, k, h1, h2 => by
    rw [List.cons_append, scanR, if_neg (fun e => h1 (by rw [e]; simp)), if_neg (fun e => h2 (by rw [e]; simp)), scan_no t a (i + 1) k (fun hm => h1 (List.mem_cons_of_mem _ hm)) (fun hm => h2 (List.mem_cons_of_mem _ hm)), List.length_cons]
    congr 1; omega
def Bal (o c : UInt8) (body : Bs) : Prop := ∀ (t : Bs) (i : Nat), scanR o c (body ++ t) i 1 = scanR o c t (i + body.length) 1
theorem Bal.plain {o c : UInt8} {body : Bs} (h1 : o ∉ body) (h2 : c ∉ body) : Bal o c body := fun t i => scan_no t body i 1 h1 h2
theorem Bal.nest {a : Bs} (h1 : (40 : UInt8) ∉ a) (h2 : (41 : UInt8) ∉ a) : Bal 40 41 (36 :: 40 :: (a ++ [41])) := fun t i => by
  show scanR 40 41 (36 :: 40 :: (a ++ [41] ++ t)) i 1 = _
  rw [scanR, if_neg (by decide), if_neg (by decide), scanR, if_pos rfl, List.append_assoc, scan_no _ a _ _ h1 h2]
  show scanR 40 41 (41 :: t) _ _ = _
  rw [scanR, if_neg (by decide), if_pos rfl, if_neg (by decide)]
  simp only [List.length_cons, List.length_append, List.length_nil]
  congr 1; omega
theorem refN_open {o c : UInt8} (hoc : (o = 40 ∧ c = 41) ∨ (o = 123 ∧ c = 125)) {body : Bs} (hb : Bal o c body) (rest : Bs) : refN (36 :: (o :: (body ++ [c]) ++ rest)) = (o :: (body ++ [c])).length + 1 := by
  have key : scanR o c (o :: (body ++ [c]) ++ rest) 1 0 = body.length + 3 := by
    have hne : c ≠ o := by rcases hoc with ⟨rfl, rfl⟩ | ⟨rfl, rfl⟩ <;> decide
    rw [List.cons_append, scanR, if_pos rfl, List.append_assoc]
    show scanR o c (body ++ ([c] ++ rest)) 2 (0 + 1) = _
    rw [show (0 : Int) + 1 = 1 from rfl, hb]
    show scanR o c (c :: rest) _ _ = _
    rw [scanR, if_neg hne, if_pos rfl, if_pos (by decide)]; omega
  have hl : (o :: (body ++ [c])).length + 1 = body.length + 3 := by simp
  rw [hl, ← key]
  rcases hoc with ⟨rfl, rfl⟩ | ⟨rfl, rfl⟩ <;> rfl
theorem refer_body {l au : List Pr} {ex : List Bs → Bs → Nat → R} {op : List Bs} {o cl : UInt8} {body i : Bs} {c c1 : Nat} (hc : c + 1 ≤ 10000) (h : ex op body (c + 1) = ((i, 0), c1)) (h58 : (58 : UInt8) ∉ i) :
    referF l au ex op (o :: (body ++ [cl])) c = valueF l au ex op i c1 := by
  have e : ((o :: (body ++ [cl])).take ((o :: (body ++ [cl])).length - 1)).drop 1 = body := by
    have : (o :: (body ++ [cl])).length - 1 = body.length + 1 := by simp
    rw [this, List.take_succ_cons, List.drop_succ_cons, List.drop_zero, List.take_left]
  exact ref_plain (by omega) (by simp) (by rw [e]; exact h) rfl (cut_none h58) (cut_none (by simp))
theorem fin3_ok' {out : Bs} {c : Nat} (h : out.length ≤ 16384) : fin3 out c = ((out, 0), c) := by unfold fin3; rw [if_neg (by omega)]
theorem val_plain {l au : List Pr} {d : Nat} {op : List Bs} {nm v : Bs} {c : Nat} (h1 : lastV au nm = none) (h2 : lastV l nm = some v) (h3 : nm ∉ op) (h4 : (36 : UInt8) ∉ v) (h5 : v.length ≤ 8192) : valueF l au (expandF l au d) op nm c = ((v, 0), c) := by
  rw [val_in h1 h2 h3, expand_plain l au d _ v c h5 h4]
/-- A text that is one reference. -/
theorem expand_one {l au : List Pr} {d : Nat} {op : List Bs} {o cl : UInt8} {body i v : Bs} {c c1 c2 : Nat} (hoc : (o = 40 ∧ cl = 41) ∨ (o = 123 ∧ cl = 125)) (hb : Bal o cl body) (hbl : body.length ≤ 8192) (hc : c + 1 ≤ 10000)
    (hi : expandF l au d op body (c + 1) = ((i, 0), c1)) (h58 : (58 : UInt8) ∉ i) (hv : valueF l au (expandF l au d) op i c1 = ((v, 0), c2)) (hvl : v.length ≤ 16384) : expandF l au (d + 1) op (36 :: (o :: (body ++ [cl]))) c = ((v, 0), c2) := by
  have ho : o ≠ 36 := by rcases hoc with ⟨rfl, _⟩ | ⟨rfl, _⟩ <;> decide
  rw [expand_succ, if_neg (by simp; omega)]
  have h := pieces_ref (rf := referF l au (expandF l au d) op) (f := (36 :: (o :: (body ++ [cl]))).length) (pre := []) (r := o :: (body ++ [cl])) (rest := []) (out := []) (v := v) (c := c) (c2 := c2) (by simp) (by simp) (by simpa using ho) (refN_open hoc hb []) (by simp) (by rw [refer_body hc hi h58]; exact hv)
  rw [List.nil_append, List.append_nil] at h
  rw [h, show (36 :: (o :: (body ++ [cl]))).length = (body.length + 2) + 1 by simp, pieces_plain _ (by simp)]
  rw [fin3_ok' (by simpa using hvl)]; simp
theorem part_ne {c : UInt8} (h : isPart c = true) : c ≠ 36 ∧ c ≠ 40 ∧ c ≠ 41 ∧ c ≠ 58 ∧ c ≠ 123 ∧ c ≠ 125 := by
  refine ⟨?_, ?_, ?_, ?_, ?_, ?_⟩ <;> (rintro rfl; revert h; decide)
theorem nm_parts {s : Bs} (h : nmB s = true) : s ≠ [] ∧ s.length ≤ 60 ∧ ∀ c ∈ s, isPart c = true := by
  unfold nmB at h
  rw [Bool.and_eq_true, Bool.and_eq_true, decide_eq_true_iff] at h
  refine ⟨fun e => ?_, h.2.1, List.all_eq_true.1 h.2.2⟩
  rw [e] at h; exact absurd h.1 (by decide)
theorem nm_ne {s : Bs} (h : nmB s = true) : (36 : UInt8) ∉ s ∧ (40 : UInt8) ∉ s ∧ (41 : UInt8) ∉ s ∧ (58 : UInt8) ∉ s ∧ (123 : UInt8) ∉ s ∧ (125 : UInt8) ∉ s := by
  have hp := (nm_parts h).2.2
  exact ⟨fun hm => (part_ne (hp _ hm)).1 rfl, fun hm => (part_ne (hp _ hm)).2.1 rfl, fun hm => (part_ne (hp _ hm)).2.2.1 rfl, fun hm => (part_ne (hp _ hm)).2.2.2.1 rfl, fun hm => (part_ne (hp _ hm)).2.2.2.2.1 rfl, fun hm => (part_ne (hp _ hm)).2.2.2.2.2 rfl⟩
theorem nested_val {a b v : Bs} (ha : nmB a = true) (hb : nmB b = true) (hab : a ≠ b) (hv : v.length ≤ 60) (h36 : (36 : UInt8) ∉ v) {o cl : UInt8} (hoc : (o = 40 ∧ cl = 41) ∨ (o = 123 ∧ cl = 125)) :
    ∃ c, expandF [(a, b), (b, v)] [] 40 [] (36 :: (o :: (36 :: 40 :: (a ++ [41]) ++ [cl]))) 0 = ((v, 0), c) := by
  obtain ⟨a1, a2, a3, a4, a5, a6⟩ := nm_ne ha
  obtain ⟨b1, b2, b3, b4, b5, b6⟩ := nm_ne hb
  have hal := (nm_parts ha).2.1
  have hbl := (nm_parts hb).2.1
  have la : lastV [(a, b), (b, v)] a = some b := lastV_some (k := 0) (by simp) (by simpa using fun e => hab e.symm) rfl
  have lb : lastV [(a, b), (b, v)] b = some v := lastV_some (k := 1) (by simp) (by simp) rfl
  have hbal : Bal o cl (36 :: 40 :: (a ++ [41])) := by
    rcases hoc with ⟨rfl, rfl⟩ | ⟨rfl, rfl⟩
    · exact Bal.nest a2 a3
    · exact Bal.plain (by simp [a5]) (by simp [a6])
  have inner : expandF [(a, b), (b, v)] [] 39 [] (36 :: (40 :: (a ++ [41]))) 1 = ((b, 0), 2) :=
    expand_one (.inl ⟨rfl, rfl⟩) (Bal.plain a2 a3) (by omega) (by decide) (expand_plain _ _ _ _ a _ (by omega) a1) a4 (val_plain rfl la (by simp) b1 (by omega)) (by omega)
  exact ⟨2, expand_one hoc hbal (by simp; omega) (by decide) inner b4 (val_plain rfl lb (by simp) h36 (by omega)) (by omega)⟩
end Go.Proofs.YthbemfpoanmjcaaDoor
