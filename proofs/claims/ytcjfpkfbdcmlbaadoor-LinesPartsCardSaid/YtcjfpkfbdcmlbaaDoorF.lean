import Derived.Test.YtcjfpkfbdcmlbaaDoorE
namespace Go.Proofs.YtcjfpkfbdcmlbaaDoor
open Go.RowKit
set_option linter.unusedVariables false

/-- How much room lines take. -/
def tot (l : List ByteArray) : Nat := (l.map fun x => x.size + 1).sum
theorem tot_cons (x : ByteArray) (l : List ByteArray) : tot (x :: l) = x.size + 1 + tot l := by simp [tot]
theorem seg_tot : ∀ s : Bs, ((seg s).map fun x => x.length + 1).sum = s.length + 1
  | [] => rfl
  | c :: t => by
    have ih := seg_tot t
    by_cases h : c = 10
    · subst h; rw [seg_cons10]; simp at ih ⊢; omega
    · obtain ⟨hd, r, e1, e2⟩ := seg_cons h t
      rw [e1] at ih
      rw [e2]
      simp at ih ⊢; omega
theorem phys_tot (s : Bs) : ((phys s).map fun x => x.length + 1).sum ≤ s.length + 1 := by
  rw [← seg_tot s]
  unfold phys dropE
  split
  · have : seg s = (seg s).dropLast ++ [(seg s).getLast (seg_ne s)] := (List.dropLast_concat_getLast (seg_ne s)).symm
    conv => rhs; rw [this]
    rw [List.map_append, List.sum_append]
    omega
  · exact Nat.le_refl _
theorem tot_phys {L : List ByteArray} {s : ByteArray} (h : L.map (·.data.toList) = phys s.data.toList) : tot L ≤ s.size + 1 := by
  have := phys_tot s.data.toList
  rw [← h, dl, List.map_map] at this
  have e : ((fun x : Bs => x.length + 1) ∘ fun x : ByteArray => x.data.toList) = fun x => x.size + 1 := by
    funext x; simp [dl]
  rw [e] at this
  exact this
theorem tot_len (L : List ByteArray) : L.length ≤ tot L := by
  induction L with
  | nil => exact Nat.zero_le _
  | cons x L ih => rw [tot_cons, List.length_cons]; omega
/-- What is still to be read. -/
structure Rest (w0 w : World) (rv : Value) (R : List ByteArray) : Prop where
  form : ∃ a c, rv = .slice a R.length c ∧ R.length ≤ c ∧ c ≤ 1000000000 ∧ ∀ i (h : i < R.length), ∃ b off, a = some ⟨b, off, none⟩ ∧ b < w.heap.size ∧ w.cell? ⟨b, off + i, none⟩ = some (.string R[i])
theorem Rest.below {w0 w w' : World} {rv : Value} {R : List ByteArray} (h : Rest w0 w rv R) (hb : Below w.heap.size w w') : Rest w0 w' rv R := by
  obtain ⟨a, c, h1, h1b, h1c, h2⟩ := h.form
  refine ⟨a, c, h1, h1b, h1c, fun i hi => ?_⟩
  obtain ⟨b, off, e1, e2, e3⟩ := h2 i hi
  exact ⟨b, off, e1, Nat.lt_of_lt_of_le e2 hb.size, (hb.cell (p := ⟨b, _, none⟩) e2).trans e3⟩
theorem Rest.tail {w0 w : World} {b off c : Nat} {x : ByteArray} {R : List ByteArray} (h : Rest w0 w (.slice (some ⟨b, off, none⟩) (R.length + 1) c) (x :: R)) : Rest w0 w (.slice (some ⟨b, off + 1, none⟩) R.length (c - 1)) R := by
  obtain ⟨a, c', h1, h1b, h1c, h2⟩ := h.form
  injection h1 with e1 _ e3
  subst e1
  subst e3
  simp only [List.length_cons] at h1b
  refine ⟨_, c - 1, rfl, by omega, by omega, fun i hi => ?_⟩
  obtain ⟨b', off', e1, e2, e3⟩ := h2 (i + 1) (by simp; omega)
  injection e1 with e1
  injection e1 with e4 e5 _
  subst e4
  subst e5
  exact ⟨b, off + 1, rfl, e2, by rw [Nat.add_assoc, Nat.add_comm 1 i]; simpa using e3⟩
theorem Rest.head {w0 w : World} {rv : Value} {x : ByteArray} {R : List ByteArray} (h : Rest w0 w rv (x :: R)) : ∃ b off c, rv = .slice (some ⟨b, off, none⟩) (R.length + 1) c ∧ R.length + 1 ≤ c ∧ c ≤ 1000000000 ∧ w.cell? ⟨b, off, none⟩ = some (.string x) := by
  obtain ⟨a, c, h1, h1b, h1c, h2⟩ := h.form
  obtain ⟨b, off, e1, e2, e3⟩ := h2 0 (by simp)
  subst e1
  exact ⟨b, off, c, h1, h1b, h1c, by simpa using e3⟩
theorem Txt.rest {w0 w : World} {v : Value} {L : List ByteArray} (h : Txt w v L) (hc : ∃ a c, v = .slice a L.length c ∧ L.length ≤ c ∧ c ≤ 1000000000) : Rest w0 w v L := by
  obtain ⟨a, c, e1, e2, e3⟩ := hc
  obtain ⟨a', c', e4, e5⟩ := h.form
  subst e4
  injection e1 with e6 _ e7
  subst e6
  subst e7
  exact ⟨_, _, rfl, e2, e3, e5⟩
theorem slice_tail (b off n c : Nat) (hc : n + 1 ≤ c) (hc2 : c ≤ 1000000000) : ∃ v2, (∀ wx, (Instr.slice 32 (.slice (some ⟨b, off, none⟩) (n + 1) c) (some (.int .i64 1)) none none).run Tryd.prog wx = .ok v2 wx) ∧ ((c = 1 ∧ v2 = .slice (some ⟨b, off, none⟩) n 0) ∨ (c ≠ 1 ∧ v2 = .slice (some ⟨b, off + 1, none⟩) n (c - 1))) := by
  have h1 : (1 : Int) ≤ ((n + 1 : Nat) : Int) := by omega
  have h2 : ((n + 1 : Nat) : Int) ≤ (c : Int) := by omega
  have c9 : Tryd.prog.cellsOf 9 = 1 := by kernel_rfl
  by_cases h : c = 1
  · subst h
    obtain rfl : n = 0 := by omega
    refine ⟨.slice (some ⟨b, off, none⟩) 0 0, fun wx => ?_, .inl ⟨rfl, rfl⟩⟩
    simp [Instr.slice, Instr.sliceBounds, run_underlying Tryd.underlying32, go_sem]
  · refine ⟨.slice (some ⟨b, off + 1, none⟩) n (c - 1), fun wx => ?_, .inr ⟨h, rfl⟩⟩
    have h3 : ¬ c - 1 = 0 := by omega
    simp [Instr.slice, Instr.sliceBounds, run_underlying Tryd.underlying32, go_sem]
    rw [if_pos (by omega), if_neg h]
theorem Rest.tail2 {w0 w : World} {b off c : Nat} {x : ByteArray} {R : List ByteArray} (h : Rest w0 w (.slice (some ⟨b, off, none⟩) (R.length + 1) c) (x :: R)) :
    ∃ v2, (∀ wx, (Instr.slice 32 (.slice (some ⟨b, off, none⟩) (R.length + 1) c) (some (.int .i64 1)) none none).run Tryd.prog wx = .ok v2 wx) ∧ Rest w0 w v2 R := by
  obtain ⟨a, c', h1, h1b, h1c, h2⟩ := h.form
  injection h1 with e1 _ e3
  subst e3
  simp only [List.length_cons] at h1b
  obtain ⟨v2, hr, h3⟩ := slice_tail b off R.length c h1b h1c
  refine ⟨v2, hr, ?_⟩
  rcases h3 with ⟨rfl, rfl⟩ | ⟨_, rfl⟩
  · have : R.length = 0 := by omega
    exact ⟨⟨_, 0, rfl, by omega, by omega, fun i hi => by omega⟩⟩
  · exact h.tail
/-- What both readers answer. -/
def ReadR (w0 : World) (s : Bs) (e : Ending) (w' : World) : Prop :=
  (16384 < s.length ∧ e = .returned (.tuple #[.slice none 0 0, .int .i64 3]) ∨ (s.length ≤ 16384 ∧ (0 : UInt8) ∈ s) ∧ e = .returned (.tuple #[.slice none 0 0, .int .i64 2]) ∨
    (s.length ≤ 16384 ∧ (0 : UInt8) ∉ s) ∧ ∃ v L, e = .returned (.tuple #[v, .int .i64 0]) ∧ Ls w0 w' v L ∧ L.map LB.ln = readL (phys s) ∧ L.length ≤ 17000) ∧ Below w0.heap.size w0 w'
theorem index_mem {c : UInt8} {s : Bs} : decide (0 ≤ Lib.indexByte s c) = decide (c ∈ s) := by
  by_cases h : c ∈ s
  · obtain ⟨a, b, rfl, ha⟩ := split_first h
    rw [index_hit a b ha]
    simp
  · rw [index_miss s (fun x hx e => h (by rw [← e]; exact hx))]
    simp [h]
theorem tl9_trim (x : Bs) : Lib.trimPrefix x [9] = tl9 x ∧ Lib.hasPrefix x [9] = decide (x.head? = some 9) := by
  have h : Lib.hasPrefix x [9] = decide (x.head? = some 9) := by
    cases x with
    | nil => rfl
    | cons a t =>
      simp [Lib.hasPrefix, List.isPrefixOf]
      by_cases e : a = 9
      · subst e; rfl
      · rw [beq_eq_false_iff_ne.2 (fun h => e h.symm)]
        simp [e]
  refine ⟨?_, h⟩
  unfold Lib.trimPrefix tl9
  rw [h]
  by_cases e : x.head? = some 9
  · rw [if_pos (by simpa using e), if_pos e]; cases x <;> rfl
  · rw [if_neg (by simpa using e), if_neg e]
theorem cmt_len : ∀ (n : Nat) (s : Bs), s.length ≤ n → (cmt s).length ≤ s.length
  | n, [], _ => by rw [cmt]; exact Nat.le_refl _
  | 0, c :: t, h => by simp at h
  | n + 1, c :: t, h => by
    have hl : t.length ≤ n := by simpa using h
    rw [cmt]
    split
    · have := cmt_len n t.tail (by simp; omega)
      simp at this ⊢; omega
    · split
      · simp
      · have := cmt_len n t hl
        simp; omega
def cmtB (t : ByteArray) : ByteArray := ⟨(cmt t.data.toList).toArray⟩
def finB (t : ByteArray) : ByteArray := ⟨(trL (trR (cmt t.data.toList))).toArray⟩
theorem cmtB_size (t : ByteArray) : (cmtB t).size ≤ t.size := by
  have := cmt_len _ t.data.toList (Nat.le_refl _)
  rw [dl] at this
  unfold cmtB; rw [sz_mk]; exact this
theorem fin_some {t : ByteArray} (h : (finB t).data.toList ≠ []) : fin t.data.toList = [(false, (finB t).data.toList)] := by
  unfold fin; rw [if_neg (by exact h)]; rfl
theorem fin_none {t : ByteArray} (h : (finB t).data.toList = []) : fin t.data.toList = [] := by
  unfold fin; rw [if_pos (by exact h)]
theorem trR_len (s : Bs) : (trR s).length ≤ s.length := by
  unfold trR Lib.trimRightS
  have := (List.dropWhile_sublist (fun x => [(32 : UInt8), 9].contains x) (l := s.reverse)).length_le
  simpa using this
theorem trL_len (s : Bs) : (trL s).length ≤ s.length := by
  unfold trL Lib.trimLeftS
  exact (List.dropWhile_sublist _).length_le
theorem tl9_len (s : Bs) : (tl9 s).length ≤ s.length := by
  unfold tl9; split
  · simp
  · exact Nat.le_refl _
theorem odd_ne {s : Bs} (h : odd s = true) : s ≠ [] := by
  rintro rfl
  exact absurd h (by decide)
def trLB (t : ByteArray) : ByteArray := ⟨(trL t.data.toList).toArray⟩
def trRB (t : ByteArray) : ByteArray := ⟨(trR t.data.toList).toArray⟩
def tl9B (t : ByteArray) : ByteArray := ⟨(tl9 t.data.toList).toArray⟩
theorem trLB_any (t : ByteArray) (w : World) : Calls Tryd.prog 21 #[.string t, .string ⟨#[32, 9]⟩] w fun e w' => e = .returned (.string (trLB t)) ∧ Below w.heap.size w w' := Tryd.trimLeft t ⟨#[32, 9]⟩ w (by decide) (ascii_of_all (by decide))
theorem trRB_any (t : ByteArray) (w : World) (ht : t.size ≤ 1000000) : Calls Tryd.prog 20 #[.string t, .string ⟨#[32, 9]⟩] w fun e w' => e = .returned (.string (trRB t)) ∧ Below w.heap.size w w' := Tryd.trimRight t ⟨#[32, 9]⟩ w (by omega) (by decide) (ascii_of_all (by decide))
theorem tl9B_any (t : ByteArray) (w : World) : Calls Tryd.prog 19 #[.string t, .string ⟨#[9]⟩] w fun e w' => e = .returned (.string (tl9B t)) ∧ w' = w := by
  have := Tryd.strings_TrimPrefix t ⟨#[9]⟩ w
  rw [show Lib.trimPrefix t.data.toList (⟨#[9]⟩ : ByteArray).data.toList = tl9 t.data.toList from (tl9_trim _).1] at this
  exact this
theorem cut9_any (t : ByteArray) (w : World) : Calls Tryd.prog 17 #[.string t, .string ⟨#[9]⟩] w fun e w' => e = .returned (.tuple #[.string (tl9B t), .bool (decide (t.data.toList.head? = some 9))]) ∧ w' = w := by
  have := Tryd.strings_CutPrefix t ⟨#[9]⟩ w
  rw [show Lib.trimPrefix t.data.toList (⟨#[9]⟩ : ByteArray).data.toList = tl9 t.data.toList from (tl9_trim _).1, show Lib.hasPrefix t.data.toList (⟨#[9]⟩ : ByteArray).data.toList = decide (t.data.toList.head? = some 9) from (tl9_trim _).2] at this
  exact this
theorem finB_any (t : ByteArray) (w : World) (ht : t.size ≤ 1000000) : Calls Tryd.prog 22 #[.string (cmtB t), .string ⟨#[32, 9]⟩] w fun e w' => e = .returned (.string (finB t)) ∧ Below w.heap.size w w' :=
  Tryd.trim (cmtB t) ⟨#[32, 9]⟩ w (by have := cmtB_size t; omega) (by decide) (ascii_of_all (by decide))
def lenOf : Value → Nat | .slice _ n _ => n | _ => 0
set_option maxRecDepth 100000 in
set_option maxHeartbeats 8000000 in
theorem Read_any (s : ByteArray) (m : Int) (w : World) (hs : s.size ≤ 9223372036854775807) (hm : w.cell? ⟨0, 0, none⟩ = some (.int .i64 m)) : Calls Tryd.prog 7 #[.string s] w (ReadR w s.data.toList) := by
  by_cases hbig : 16384 < s.size
  · have hd : decide ((16384 : Int) < (s.size : Int)) = true := decide_eq_true (by omega)
    have HE : Hid (ReadR w s.data.toList (.returned (.tuple #[.slice none 0 0, .int .i64 3])) w) := ⟨.inl ⟨by rw [dl]; exact hbig, rfl⟩, Below.refl _ _⟩
    clear hm
    go_enter Tryd.func7, Tryd.ntmps7
    go_wp2_with fail
    refine wp_scope_straight ?_
    go_wp2_with fail
    first
      | simp +zetaDelta only [Exit.noGoto_ret]
      | skip
    go_ret2
    exact HE.out
  have hd : decide ((16384 : Int) < (s.size : Int)) = false := decide_eq_false (by omega)
  have hc0 := Tryd.strings_Contains_one s 0 w
  rw [index_mem] at hc0
  have hb64 : decide ((0 : UInt8) ∈ s.data.toList) = decide ((0 : UInt8) ∈ s.data.toList) := rfl
  by_cases hz : (0 : UInt8) ∈ s.data.toList
  · have HC0 : Hid (Calls Tryd.prog 15 #[.string s, .string ⟨#[0]⟩] w fun e w' => e = .returned (.bool true) ∧ w' = w) := by rw [decide_eq_true hz] at hc0; exact hc0
    have HE : Hid (ReadR w s.data.toList (.returned (.tuple #[.slice none 0 0, .int .i64 2])) w) := ⟨.inr (.inl ⟨⟨by rw [dl]; omega, hz⟩, rfl⟩), Below.refl _ _⟩
    clear hm hc0 hz hb64
    go_enter Tryd.func7, Tryd.ntmps7
    go_wp2_with fail
    refine wp_scope_straight ?_
    go_wp2_with (go_at_call 15; refine HC0.out.mono ?_; rintro e w5 ⟨rfl, h5⟩; obtain rfl := h5.symm; simp only [])
    try simp +zetaDelta only [Exit.noGoto_ret]
    go_ret2
    exact HE.out
  have HC0 : Hid (Calls Tryd.prog 15 #[.string s, .string ⟨#[0]⟩] w fun e w' => e = .returned (.bool false) ∧ w' = w) := by rw [decide_eq_false hz] at hc0; exact hc0
  have HPH : Hid (Calls Tryd.prog 16 #[.string s] w (TxtR w (phys s.data.toList) (s.size + 1))) := phys_any s m w (by omega) hm
  have HM : Hid (∀ w', Below w.heap.size w w' → w'.cell? ⟨0, 0, none⟩ = some (.int .i64 m)) := fun w' hb => (hb.cell (p := ⟨0, 0, none⟩) (World.block_lt_of_cell? w _ hm)).trans hm
  have HZ := Lib.hid hz
  obtain ⟨G, hG⟩ : ∃ G, readL (phys s.data.toList) = G := ⟨_, rfl⟩
  have HG := Lib.hid hG
  have hs2 : s.size ≤ 16384 := by omega
  clear hm hc0 hz hb64 hG hbig hs
  go_enter Tryd.func7, Tryd.ntmps7
  go_wp2_with fail
  refine wp_scope_straight ?_
  go_wp2_with (first
    | (go_at_call 15; refine HC0.out.mono ?_; rintro e w5 ⟨rfl, h5⟩; obtain rfl := h5.symm; simp only [])
    | (go_at_call 16; refine HPH.out.mono ?_))
  rintro e w5 ⟨rv, R, rfl, hT, ⟨ra, hra⟩, hR, hRl, hb⟩
  have hRest : Rest w w5 rv R := hT.rest ⟨ra, _, hra, Nat.le_refl _, by omega⟩
  have HREST := Lib.hid hRest
  have HEQ : Hid (([] : List LB).map LB.ln ++ readL (R.map (·.data.toList)) = G) := by rw [Hid, hR, HG.out]; rfl
  have HTOT := Lib.hid (tot_phys hR)
  have HLS : Hid (Ls w5 w5 (.slice none 0 0) []) := Ls.nil w5
  have hR1 : R.length ≤ 16385 := by omega
  have HB5 := Lib.hid hb
  clear hT hra hR hRl hb hRest
  simp only []
  go_wp2_with fail
  refine wp_label ?_
  go_wp2_with fail
  go_loopw [4, 5] (fun x y wx => ∃ (v rv : Value) (R : List ByteArray) (L : List LB), v = x ∧ rv = y ∧ tot R ≤ s.size + 1 ∧ L.length + R.length ≤ 16385 ∧ Hid (Rest w w5 rv R) ∧ Hid (Ls w5 wx v L) ∧ Hid (L.map LB.ln ++ readL (R.map (·.data.toList)) = G)) (fun _ y _ => lenOf y)
  case atStart => exact ⟨_, rv, R, [], rfl, rfl, HTOT.out, by simpa using hR1, HREST.out, HLS.out, HEQ.out⟩
  case round =>
    obtain ⟨v, rv, R, L, rfl, rfl, htot, hlen, HRE, HLS, HEQ⟩ := hrel
    cases R with
    | nil =>
      obtain ⟨a0, c0, e0, _⟩ := HRE.out.form
      subst e0
      have HE : Hid (ReadR w s.data.toList (.returned (.tuple #[v, .int .i64 0])) wr) := by
        refine ⟨.inr (.inr ⟨⟨by rw [dl]; exact hs2, HZ.out⟩, v, L, rfl, ⟨World.ownsRow.mono HLS.out.own HB5.out.size, HB5.out.trans (HLS.out.old.mono HB5.out.size)⟩, ?_, by omega⟩), HB5.out.trans (HLS.out.old.mono HB5.out.size)⟩
        have := HEQ.out
        rw [List.map_nil, readL_nil, List.append_nil] at this
        rw [this, HG.out]
      simp only [List.length_nil]
      go_wp2_with fail
      try simp +zetaDelta only [Exit.noGoto_ret]
      go_ret2
      exact HE.out
    | cons x R =>
      obtain ⟨b, off, c, e0, hc1, hc2, hx0⟩ := (HRE.out.below HLS.out.old).head
      subst e0
      rw [tot_cons] at htot
      rw [List.length_cons] at hlen
      obtain ⟨rv1, hsl1, hrt1⟩ := HRE.out.tail2
      have HRT := Lib.hid hrt1
      have HC9 := Lib.hid (cut9_any x wr)
      have htl := tl9_len x.data.toList
      rw [dl] at htl
      have hTs : (tl9B x).size ≤ x.size := by unfold tl9B; rw [sz_mk]; exact htl
      have hlI2 : (0 : Int) < (R.length : Int) + 1 := by omega
      have hld2 : decide ((0 : Int) < (R.length : Int) + 1) = true := decide_eq_true hlI2
      clear htl hrt1
      by_cases h9 : x.data.toList.head? = some 9
      · have HGO : Hid (L.map LB.ln ++ ((true, (goR x.data.toList.tail (R.map (·.data.toList))).1) :: readL (goR x.data.toList.tail (R.map (·.data.toList))).2) = G) := by
          have := HEQ.out
          rw [List.map_cons, readL_rec h9] at this
          exact this
        have hT : (tl9B x).data.toList = x.data.toList.tail := by unfold tl9B tl9; rw [if_pos h9]
        rw [decide_eq_true h9] at HC9
        obtain ⟨T, hTT⟩ : ∃ T, tl9B x = T := ⟨_, rfl⟩
        rw [hTT] at HC9 hT hTs
        rw [← hT] at HGO
        obtain ⟨Y, hY⟩ : ∃ Y, goR T.data.toList (R.map (·.data.toList)) = Y := ⟨_, rfl⟩
        rw [hY] at HGO
        have HY0 := Lib.hid hY
        clear hTT hT h9 hY
        go_wp2_with (go_at_call 17; refine HC9.out.mono ?_; rintro e wy ⟨rfl, hy⟩; obtain rfl := hy.symm; simp only [])
        go_loopw [5, 6] (fun y t wx => ∃ (rv2 : Value) (R2 : List ByteArray) (t2 : ByteArray), rv2 = y ∧ t = .string t2 ∧ t2.size + tot R2 ≤ s.size + 1 ∧ R2.length ≤ R.length ∧ Hid (Rest w w5 rv2 R2) ∧ Hid (Ls w5 wx v L) ∧ Hid (goR t2.data.toList (R2.map (·.data.toList)) = Y)) (fun y _ _ => lenOf y)
        case atStart => exact ⟨rv1, R, T, rfl, rfl, by omega, Nat.le_refl _, HRT.out, HLS.out, HY0.out⟩
        case round =>
          obtain ⟨rv2, R2, t2, rfl, rfl, ht2, hR2, HR2, HL2, HY2⟩ := hrel
          have hBw := HB5.out.trans (HL2.out.old.mono HB5.out.size)
          have HCO := Lib.hid (cont_any t2 wr (by omega))
          -- what stands behind the loop: the line is whole
          have HEND : Hid ((t2.data.toList, R2.map (·.data.toList)) = Y → ∀ wx, Below wr.heap.size wr wx → ∃ v8 w8, (Builtin.append_ #[23, 23] 23 #[v, .slice (some ⟨wx.heap.size, 0, none⟩) 1 1]).run Tryd.prog (wx.alloc (.cells #[.bool true, .string t2] 37)) = .ok v8 w8 ∧ Hid (Ls w5 w8 v8 (L ++ [(⟨true, t2⟩ : LB)])) ∧ Hid ((L ++ [(⟨true, t2⟩ : LB)]).map LB.ln ++ readL (R2.map (·.data.toList)) = G)) := fun h wx hb => by
            obtain ⟨v8, w8, r8, h8⟩ := (HL2.out.below hb).push (by omega) ⟨true, t2⟩
            refine ⟨v8, w8, r8, h8, ?_⟩
            have := HGO.out
            rw [← h] at this
            rw [Hid, ← this, List.map_append, List.append_assoc]; rfl
          cases ho : odd t2.data.toList with
          | false =>
            rw [ho] at HCO
            have hend := HEND.out (by
              have := HY2.out
              cases hR : R2.map (·.data.toList) with
              | nil => rw [hR, goR] at this; exact this
              | cons a r => rw [hR, goR, if_neg (by simp [ho])] at this; exact this)
            have HE8 := Lib.hid hend
            clear ho hend HEND
            go_wp2_with (go_at_call 18; refine HCO.out.mono ?_)
            rintro e wx ⟨rfl, hb⟩
            obtain ⟨v8, w8, r8, HL8, HQ8⟩ := HE8.out wx hb
            clear hb
            simp only []
            go_wp2_with (at_builtin; refine wpList_run_append _ rfl _ _ 23 23 rfl _ _ rfl rfl r8 ?_)
            go_roundw
            case measure => obtain ⟨a9, c9, e9, _⟩ := HR2.out.form; rw [e9]; simp [lenOf] <;> omega
            case rel => exact ⟨v8, rv2, R2, L ++ [(⟨true, t2⟩ : LB)], rfl, rfl, by omega, by rw [List.length_append, List.length_singleton]; omega, HR2.out, HL8.out, HQ8.out⟩
          | true =>
            rw [ho] at HCO
            cases R2 with
            | nil =>
              obtain ⟨a0, c0, e0, _⟩ := HR2.out.form
              subst e0
              have hend := HEND.out (by
                have := HY2.out
                rw [List.map_nil, goR] at this; exact this)
              have HE8 := Lib.hid hend
              clear ho hend HEND
              simp only [List.length_nil]
              go_wp2_with (go_at_call 18; refine HCO.out.mono ?_)
              rintro e wx ⟨rfl, hb⟩
              obtain ⟨v8, w8, r8, HL8, HQ8⟩ := HE8.out wx hb
              clear hb
              simp only []
              go_wp2_with (at_builtin; refine wpList_run_append _ rfl _ _ 23 23 rfl _ _ rfl rfl r8 ?_)
              go_roundw
              case measure => simp [lenOf]
              case rel => exact ⟨v8, _, [], L ++ [(⟨true, t2⟩ : LB)], rfl, rfl, by omega, by rw [List.length_append, List.length_singleton]; omega, HR2.out, HL8.out, HQ8.out⟩
            | cons n R2 =>
              have HLB := HL2
              obtain ⟨b2, off2, c2, e2, hd1, hd2, hn0⟩ := (HR2.out.below HL2.out.old).head
              subst e2
              obtain ⟨rv3, hsl3, hrt3⟩ := HR2.out.tail2
              have HRT3 := Lib.hid hrt3
              have HNC : Hid (∀ wx, Below wr.heap.size wr wx → wx.cell? ⟨b2, off2, none⟩ = some (.string n)) := fun wx hb => (hb.cell (p := ⟨b2, off2, none⟩) (World.block_lt_of_cell? wr _ hn0)).trans hn0
              rw [tot_cons] at ht2
              rw [List.length_cons] at hR2
              have HTL := Lib.hid (fun wx => tl9B_any n wx)
              obtain ⟨D, hD⟩ : ∃ D, tl9B n = D := ⟨_, rfl⟩
              have hDs : D.size ≤ n.size := by
                rw [← hD]; unfold tl9B; rw [sz_mk]
                have := tl9_len n.data.toList
                rw [dl] at this; exact this
              have hDl : D.data.toList = tl9 n.data.toList := by rw [← hD]; rfl
              rw [hD] at HTL
              have hs1 : ¬ (9223372036854775807 < 1 + D.size) := by omega
              have hs2 : ¬ (9223372036854775807 < t2.size + (1 + D.size)) := by omega
              have hsz : (t2 ++ (⟨#[10]⟩ ++ D : ByteArray)).size = t2.size + 1 + D.size := by rw [ByteArray.size_append, ByteArray.size_append]; show t2.size + (1 + D.size) = _; omega
              have HYN : Hid (goR (t2 ++ (⟨#[10]⟩ ++ D : ByteArray)).data.toList (R2.map (·.data.toList)) = Y) := by
                have := HY2.out
                rw [List.map_cons, goR, if_pos ho, ← hDl] at this
                rw [Hid, ← this]
                congr 1
              have hl3 : (0 : Int) < (R2.length : Int) + 1 := by omega
              have hl4 : decide ((0 : Int) < (R2.length : Int) + 1) = true := decide_eq_true hl3
              clear ho HEND hD hDl hrt3 hn0
              go_wp2_with (go_at_call 18; refine HCO.out.mono ?_)
              rintro e wx ⟨rfl, hb⟩
              have hnc := HNC.out wx hb
              have HLX := Lib.hid (HL2.out.below hb)
              clear hb
              simp only []
              go_wp2_with (go_at_call 19; refine (HTL.out _).mono ?_; rintro e wz ⟨rfl, hz⟩; obtain rfl := hz.symm; simp only [])
              go_roundw
              case measure => obtain ⟨a9, c9, e9, _⟩ := HRT3.out.form; rw [e9]; simp [lenOf]
              case rel => exact ⟨rv3, R2, _, rfl, rfl, by rw [hsz]; omega, by omega, HRT3.out, HLX.out, HYN.out⟩
      · have HGO : Hid (L.map LB.ln ++ (fin (goN x.data.toList (R.map (·.data.toList))).1 ++ readL (goN x.data.toList (R.map (·.data.toList))).2) = G) := by
          have := HEQ.out
          rw [List.map_cons, readL_not h9] at this
          exact this
        have hT : tl9B x = x := by unfold tl9B tl9; rw [if_neg h9]
        rw [decide_eq_false h9, hT] at HC9
        obtain ⟨Y, hY⟩ : ∃ Y, goN x.data.toList (R.map (·.data.toList)) = Y := ⟨_, rfl⟩
        rw [hY] at HGO
        have HY0 := Lib.hid hY
        clear hT h9 hY hTs
        go_wp2_with (go_at_call 17; refine HC9.out.mono ?_; rintro e wy ⟨rfl, hy⟩; obtain rfl := hy.symm; simp only [])
        go_loopw [5, 6] (fun y t wx => ∃ (rv2 : Value) (R2 : List ByteArray) (t2 : ByteArray), rv2 = y ∧ t = .string t2 ∧ t2.size + tot R2 ≤ s.size + 1 ∧ R2.length ≤ R.length ∧ Hid (Rest w w5 rv2 R2) ∧ Hid (Ls w5 wx v L) ∧ Hid (goN t2.data.toList (R2.map (·.data.toList)) = Y)) (fun y _ _ => lenOf y)
        case atStart => exact ⟨rv1, R, x, rfl, rfl, by omega, Nat.le_refl _, HRT.out, HLS.out, HY0.out⟩
        case round =>
          obtain ⟨rv2, R2, t2, rfl, rfl, ht2, hR2, HR2, HL2, HY2⟩ := hrel
          have HCO := Lib.hid (cont_any t2 wr (by omega))
          cases ho : odd t2.data.toList with
          | false =>
            rw [ho] at HCO
            have HGE : Hid (L.map LB.ln ++ (fin t2.data.toList ++ readL (R2.map (·.data.toList))) = G) := by
              have hYY : (t2.data.toList, R2.map (·.data.toList)) = Y := by
                have := HY2.out
                cases hR : R2.map (·.data.toList) with
                | nil => rw [hR, goN, if_neg (by simp [ho])] at this; exact this
                | cons a r => rw [hR, goN, if_neg (by simp [ho])] at this; exact this
              have := HGO.out
              rw [← hYY] at this
              exact this
            obtain ⟨a9, c9, e9, _⟩ := HR2.out.form
            subst e9
            clear ho
            go_wp2_with (go_at_call 18; refine HCO.out.mono ?_)
            rintro e wx ⟨rfl, hb⟩
            have HLX := Lib.hid (HL2.out.below hb)
            clear hb HL2
            simp only []
            have HRK := Lib.hid (remark_any t2 m wx (by omega) (HM.out _ (HB5.out.trans (HLX.out.old.mono HB5.out.size))))
            have HRK2 : Hid (Calls Tryd.prog 23 #[.string t2] wx fun e w' => e = .returned (.string (cmtB t2)) ∧ Below wx.heap.size wx w') := HRK.out
            have HFB := Lib.hid (fun wx => finB_any t2 wx (by omega))
            obtain ⟨C, hC⟩ : ∃ C, cmtB t2 = C := ⟨_, rfl⟩
            obtain ⟨F, hF⟩ : ∃ F, finB t2 = F := ⟨_, rfl⟩
            rw [hC] at HRK2 HFB
            rw [hF] at HFB
            have HFIN := Lib.hid hF
            clear HRK hC hF
            by_cases hf0 : F.data.toList = []
            · have f1 := isE_of hf0
              have HQ : Hid (L.map LB.ln ++ readL (R2.map (·.data.toList)) = G) := by
                have := HGE.out
                rw [fin_none (t := t2) (by rw [HFIN.out]; exact hf0), List.nil_append] at this
                exact this
              clear hf0
              go_wp2_with (go_at_call 23; refine HRK2.out.mono ?_; rintro e wy ⟨rfl, hy⟩; have HY := Lib.hid hy; clear hy; simp only [])
              go_wp2_with (go_at_call 22; refine (HFB.out _).mono ?_; rintro e wz ⟨rfl, hz⟩; have HZZ := Lib.hid (HY.out.trans (hz.mono HY.out.size)); clear hz; simp only [])
              go_roundw
              case measure => simp [lenOf] <;> omega
              case rel => exact ⟨v, _, R2, L, rfl, rfl, by omega, by omega, HR2.out, HLX.out.below HZZ.out, HQ.out⟩
            · have f1 := isE_ne hf0
              have HQ : Hid ((L ++ [(⟨false, F⟩ : LB)]).map LB.ln ++ readL (R2.map (·.data.toList)) = G) := by
                have := HGE.out
                rw [fin_some (t := t2) (by rw [HFIN.out]; exact hf0), HFIN.out] at this
                rw [Hid, ← this, List.map_append, List.append_assoc]; rfl
              clear hf0
              go_wp2_with (go_at_call 23; refine HRK2.out.mono ?_; rintro e wy ⟨rfl, hy⟩; have HY := Lib.hid hy; clear hy; simp only [])
              refine (HFB.out _).mono ?_
              rintro e wz ⟨rfl, hz⟩
              have HZZ := Lib.hid (HY.out.trans (hz.mono HY.out.size))
              clear hz
              simp only []
              obtain ⟨v8, w8, r8, h8⟩ := (HLX.out.below HZZ.out).push (by omega) (⟨false, F⟩ : LB)
              have HL8 := Lib.hid h8
              clear h8
              go_wp2_with (at_builtin; refine wpList_run_append _ rfl _ _ 23 23 rfl _ _ rfl rfl r8 ?_)
              go_roundw
              case measure => simp [lenOf] <;> omega
              case rel => exact ⟨v8, _, R2, L ++ [(⟨false, F⟩ : LB)], rfl, rfl, by omega, by rw [List.length_append, List.length_singleton]; omega, HR2.out, HL8.out, HQ.out⟩
          | true =>
            rw [ho] at HCO
            have hne := odd_ne ho
            have h0p : 0 < t2.size := by
              rcases Nat.eq_zero_or_pos t2.size with h | h
              · exact absurd (List.length_eq_zero_iff.1 (by rw [dl]; exact h)) hne
              · exact h
            obtain ⟨mm, hml, hmm, hlb, hEs⟩ := last_at h0p
            have hb1 : IntKind.i64.wrap ((t2.size : Int) - 1) = (mm : Int) := by rw [IntWalk.i64_in _ (by omega)]; omega
            obtain ⟨E, hE⟩ : ∃ E, t2.extract 0 mm = E := ⟨_, rfl⟩
            rw [hE] at hEs hlb
            have hdl : t2.data.toList.dropLast = E.data.toList := by rw [hlb]; simp
            have HTR := Lib.hid (fun wx => trRB_any E wx (by omega))
            obtain ⟨A, hA⟩ : ∃ A, trRB E = A := ⟨_, rfl⟩
            have hAs : A.size ≤ mm := by
              rw [← hA]; unfold trRB; rw [sz_mk]
              have := trR_len E.data.toList
              rw [dl] at this; omega
            have hAl : A.data.toList = trR t2.data.toList.dropLast := by rw [← hA, hdl]; rfl
            rw [hA] at HTR
            have hm0 : (0 : Int) ≤ (mm : Int) := by omega
            have hmI : (mm : Int) ≤ (t2.size : Int) := by omega
            have hs1 : ¬ (9223372036854775807 < A.size + 1) := by omega
            have hAz : (A ++ (⟨#[32]⟩ : ByteArray)).size = A.size + 1 := by rw [ByteArray.size_append]; rfl
            cases R2 with
            | nil =>
              obtain ⟨a0, c0, e0, _⟩ := HR2.out.form
              subst e0
              obtain ⟨U, hU⟩ : ∃ U, A ++ (⟨#[32]⟩ : ByteArray) = U := ⟨_, rfl⟩
              have HGE : Hid (L.map LB.ln ++ (fin U.data.toList ++ readL (([] : List ByteArray).map (·.data.toList))) = G) := by
                have hYY : (U.data.toList, ([] : List ByteArray).map (·.data.toList)) = Y := by
                  have := HY2.out
                  rw [List.map_nil, goN, if_pos ho, ← hAl] at this
                  rw [← this, ← hU]; simp
                have := HGO.out
                rw [← hYY] at this
                exact this
              rw [hU] at hAz
              clear ho hne hlb hdl hA hAl
              simp only [List.length_nil]
              go_wp2_with (go_at_call 18; refine HCO.out.mono ?_)
              rintro e wx ⟨rfl, hb⟩
              have HLX := Lib.hid (HL2.out.below hb)
              clear hb HL2
              simp only []
              go_wp2_with (go_at_call 20; refine (HTR.out _).mono ?_)
              rintro e wx2 ⟨rfl, hb⟩
              have HLX2 := Lib.hid (HLX.out.below hb)
              clear hb HLX
              simp only []
              have HRK := Lib.hid (remark_any U m wx2 (by omega) (HM.out _ (HB5.out.trans (HLX2.out.old.mono HB5.out.size))))
              have HRK2 : Hid (Calls Tryd.prog 23 #[.string U] wx2 fun e w' => e = .returned (.string (cmtB U)) ∧ Below wx2.heap.size wx2 w') := HRK.out
              have HFB := Lib.hid (fun wx => finB_any U wx (by omega))
              obtain ⟨C, hC⟩ : ∃ C, cmtB U = C := ⟨_, rfl⟩
              obtain ⟨F, hF⟩ : ∃ F, finB U = F := ⟨_, rfl⟩
              rw [hC] at HRK2 HFB
              rw [hF] at HFB
              have HFIN := Lib.hid hF
              clear HRK hC hF
              by_cases hf0 : F.data.toList = []
              · have f1 := isE_of hf0
                have HQ : Hid (L.map LB.ln ++ readL (([] : List ByteArray).map (·.data.toList)) = G) := by
                  have := HGE.out
                  rw [fin_none (t := U) (by rw [HFIN.out]; exact hf0), List.nil_append] at this
                  exact this
                clear hf0
                go_wp2_with (go_at_call 23; refine HRK2.out.mono ?_; rintro e wy ⟨rfl, hy⟩; have HY := Lib.hid hy; clear hy; simp only [])
                go_wp2_with (go_at_call 22; refine (HFB.out _).mono ?_; rintro e wz ⟨rfl, hz⟩; have HZZ := Lib.hid (HY.out.trans (hz.mono HY.out.size)); clear hz; simp only [])
                go_roundw
                case measure => simp [lenOf] <;> omega
                case rel => exact ⟨v, _, ([] : List ByteArray), L, rfl, rfl, by omega, by omega, HR2.out, HLX2.out.below HZZ.out, HQ.out⟩
              · have f1 := isE_ne hf0
                have HQ : Hid ((L ++ [(⟨false, F⟩ : LB)]).map LB.ln ++ readL (([] : List ByteArray).map (·.data.toList)) = G) := by
                  have := HGE.out
                  rw [fin_some (t := U) (by rw [HFIN.out]; exact hf0), HFIN.out] at this
                  rw [Hid, ← this, List.map_append, List.append_assoc]; rfl
                clear hf0
                go_wp2_with (go_at_call 23; refine HRK2.out.mono ?_; rintro e wy ⟨rfl, hy⟩; have HY := Lib.hid hy; clear hy; simp only [])
                refine (HFB.out _).mono ?_
                rintro e wz ⟨rfl, hz⟩
                have HZZ := Lib.hid (HY.out.trans (hz.mono HY.out.size))
                clear hz
                simp only []
                obtain ⟨v8, w8, r8, h8⟩ := (HLX2.out.below HZZ.out).push (by omega) (⟨false, F⟩ : LB)
                have HL8 := Lib.hid h8
                clear h8
                go_wp2_with (at_builtin; refine wpList_run_append _ rfl _ _ 23 23 rfl _ _ rfl rfl r8 ?_)
                go_roundw
                case measure => simp [lenOf] <;> omega
                case rel => exact ⟨v8, _, ([] : List ByteArray), L ++ [(⟨false, F⟩ : LB)], rfl, rfl, by omega, by rw [List.length_append, List.length_singleton]; omega, HR2.out, HL8.out, HQ.out⟩
            | cons n R2 =>
              obtain ⟨b2, off2, c2, e2, hd1, hd2, hn0⟩ := (HR2.out.below HL2.out.old).head
              subst e2
              obtain ⟨rv3, hsl3, hrt3⟩ := HR2.out.tail2
              have HRT3 := Lib.hid hrt3
              have HNC : Hid (∀ wx, Below wr.heap.size wr wx → wx.cell? ⟨b2, off2, none⟩ = some (.string n)) := fun wx hb => (hb.cell (p := ⟨b2, off2, none⟩) (World.block_lt_of_cell? wr _ hn0)).trans hn0
              rw [tot_cons] at ht2
              rw [List.length_cons] at hR2
              have HTL := Lib.hid (fun wx => trLB_any n wx)
              obtain ⟨D, hD⟩ : ∃ D, trLB n = D := ⟨_, rfl⟩
              have hDs : D.size ≤ n.size := by
                rw [← hD]; unfold trLB; rw [sz_mk]
                have := trL_len n.data.toList
                rw [dl] at this; exact this
              have hDl : D.data.toList = trL n.data.toList := by rw [← hD]; rfl
              rw [hD] at HTL
              obtain ⟨U, hU⟩ : ∃ U, A ++ (⟨#[32]⟩ : ByteArray) = U := ⟨_, rfl⟩
              have hs2 : ¬ (9223372036854775807 < U.size + D.size) := by rw [← hU]; omega
              have hsz : (U ++ D).size = A.size + 1 + D.size := by rw [ByteArray.size_append, ← hU, hAz]
              have HYN : Hid (goN (U ++ D).data.toList (R2.map (·.data.toList)) = Y) := by
                have := HY2.out
                rw [List.map_cons, goN, if_pos ho, ← hDl, ← hAl] at this
                rw [Hid, ← this, ← hU]
                congr 1
              have hl5 : ((R2.length : Int) + 1 == 0) = false := by simp; omega
              have hl6 : (((R2.length + 1 : Nat) : Int) == 0) = false := by simp; omega
              clear ho hD hDl hrt3 hn0 hne hlb hdl hA hAl
              go_wp2_with (go_at_call 18; refine HCO.out.mono ?_)
              rintro e wx ⟨rfl, hb⟩
              have HB1x := Lib.hid hb
              clear hb
              simp only []
              go_wp2_with (go_at_call 20; refine (HTR.out _).mono ?_)
              rintro e wx2 ⟨rfl, hb⟩
              have HB2x := Lib.hid (HB1x.out.trans (hb.mono HB1x.out.size))
              have hnc := HNC.out wx2 HB2x.out
              clear hb
              simp only []
              go_wp2_with (go_at_call 21; refine (HTL.out _).mono ?_)
              rintro e wx3 ⟨rfl, hb⟩
              have HLX := Lib.hid (HL2.out.below (HB2x.out.trans (hb.mono HB2x.out.size)))
              clear hb
              simp only []
              go_wp2_with fail
              go_roundw
              case measure => obtain ⟨a9, c9, e9, _⟩ := HRT3.out.form; rw [e9]; simp [lenOf]
              case rel => exact ⟨rv3, R2, _, rfl, rfl, by rw [hsz]; omega, by omega, HRT3.out, HLX.out, HYN.out⟩
end Go.Proofs.YtcjfpkfbdcmlbaaDoor
