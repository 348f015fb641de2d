import Derived.Test.YtafbheplaheohaaCH
import Derived.StillTail
import Derived.StillTailTactics
import Derived.Deep.Quiet
import Derived.BigQuiet
namespace Go.Proofs.Ytafbheplaheohaa
open Go.RowKit
set_option linter.unusedVariables false

def txL : List Prt → Nat
  | [] => 0
  | x :: l => x.text.length + txL l
theorem txL_app : ∀ a b : List Prt, txL (a ++ b) = txL a + txL b
  | [], b => by simp [txL]
  | x :: a, b => by simp [txL, txL_app a b]; omega
theorem txL_take (l : List Prt) (k : Nat) : txL (l.take k) ≤ txL l := by
  have h := txL_app (l.take k) (l.drop k)
  rw [List.take_append_drop] at h; omega
theorem stepL_tx (o : List Prt) (x : Prt) : txL (stepL o x) ≤ txL o + x.text.length := by
  unfold stepL
  split
  · omega
  · split
    · rename_i y hy
      obtain ⟨l0, e⟩ : ∃ l0, o = l0 ++ [y] := ⟨o.dropLast, by
        have hne : o ≠ [] := by intro e; rw [e] at hy; cases hy
        rw [List.getLast?_eq_some_getLast hne] at hy
        injection hy with hy
        rw [← hy]; exact (List.dropLast_concat_getLast hne).symm⟩
      subst e
      split
      · rw [List.dropLast_concat, txL_app, txL_app]
        simp [txL, joinP, Prt.text]; omega
      · rw [txL_app]; simp [txL]
    · rw [txL_app]; simp [txL]
theorem stepL_void {o : List Prt} {x : Prt} (h : isVoid x = true) : stepL o x = o := by unfold stepL; rw [if_pos h]
theorem stepL_nil {x : Prt} (h : isVoid x = false) : stepL [] x = [x] := by unfold stepL; rw [if_neg (by simp [h])]; rfl
theorem stepL_join {l0 : List Prt} {y x : Prt} (h : isVoid x = false) (hm : y.kind = x.kind ∧ isTxt x = true) : stepL (l0 ++ [y]) x = l0 ++ [joinP y x.text] := by
  unfold stepL; rw [if_neg (by simp [h]), List.getLast?_concat, List.dropLast_concat]
  simp only
  rw [if_pos hm]
theorem stepL_more {l0 : List Prt} {y x : Prt} (h : isVoid x = false) (hm : ¬ (y.kind = x.kind ∧ isTxt x = true)) : stepL (l0 ++ [y]) x = l0 ++ [y] ++ [x] := by
  unfold stepL; rw [if_neg (by simp [h]), List.getLast?_concat]
  simp only
  rw [if_neg hm]
/-- Where tidying has come to. -/
structure TdS (w wx : World) (B : Nat) (l : List Prt) (k : Nat) (ov : Value) (lo : List Prt) (Lo : List Pt) (em : Bool) : Prop where
  below : Below w.heap.size w wx
  row : PRow wx B ov lo Lo
  own : ∀ b, ov.ownBlock = some b → w.heap.size ≤ b
  eq : lo = (l.take k).foldl stepL []
  em : em = (l.take k).any isVoid
  tl : txL lo ≤ txL (l.take k)
theorem fold_take {l : List Prt} {k : Nat} (h : k < l.length) : (l.take (k + 1)).foldl stepL [] = stepL ((l.take k).foldl stepL []) l[k] := by
  rw [List.take_add_one, List.getElem?_eq_getElem h, List.foldl_append]; rfl
theorem any_take {l : List Prt} {k : Nat} (h : k < l.length) : (l.take (k + 1)).any isVoid = ((l.take k).any isVoid || isVoid l[k]) := by
  rw [List.take_add_one, List.getElem?_eq_getElem h, List.any_append]; simp
theorem txL_take1 {l : List Prt} {k : Nat} (h : k < l.length) : txL (l.take (k + 1)) = txL (l.take k) + l[k].text.length := by
  rw [List.take_add_one, List.getElem?_eq_getElem h, txL_app]; simp [txL]
theorem stepL_len (o : List Prt) (x : Prt) : (stepL o x).length ≤ o.length + 1 := by
  unfold stepL
  split
  · omega
  · split
    · split
      · simp only [List.length_append, List.length_dropLast, List.length_singleton]; omega
      · simp
    · simp
theorem foldL_len : ∀ (l o : List Prt), (l.foldl stepL o).length ≤ o.length + l.length
  | [], o => by simp
  | x :: l, o => by
    have h1 := foldL_len l (stepL o x)
    have h2 := stepL_len o x
    simp; omega
theorem TdS.next {w wx w' : World} {B : Nat} {l : List Prt} {k : Nat} {ov ov' : Value} {lo lo' : List Prt} {Lo Lo' : List Pt} {em : Bool} (h : TdS w wx B l k ov lo Lo em) (hk : k < l.length) (hb : Below w.heap.size w w') (hrow : PRow w' B ov' lo' Lo') (hown : ∀ b, ov'.ownBlock = some b → w.heap.size ≤ b) (he : lo' = stepL lo l[k]) : TdS w w' B l (k + 1) ov' lo' Lo' (em || isVoid l[k]) :=
  ⟨hb, hrow, hown, by rw [he, fold_take hk, ← h.eq], by rw [any_take hk, ← h.em], by rw [he, txL_take1 hk]; have := stepL_tx lo l[k]; have := h.tl; omega⟩
/-- What is appended to the row that tidying makes. -/
theorem TdS.push {w wx w5 : World} {B : Nat} {l : List Prt} {k : Nat} {oa : Option Addr} {on oc : Nat} {lo : List Prt} {Lo : List Pt} {em : Bool} (h : TdS w wx B l k (.slice oa on oc) lo Lo em) (hB : B ≤ w.heap.size) (hk : k < l.length) (hl : l.length ≤ 80000) (h5 : Below wx.heap.size wx w5)
    {pt : Pt} (hx : pt.is l[k]) (hw : Wd w (fun b => B ≤ b) pt.wv l[k].word) (he : stepL lo l[k] = lo ++ [l[k]]) :
    ∃ (a : Option Addr) (n c : Nat) (w' : World), (Builtin.append_ #[32, 32] 32 #[.slice oa on oc, .slice (some ⟨w5.heap.size, 0, none⟩) 1 1]).run Try.prog (w5.alloc (.cells pt.cs.toArray 39)) = .ok (.slice a n c) w' ∧ TdS w w' B l (k + 1) (.slice a n c) (lo ++ [l[k]]) (Lo ++ [pt]) (em || isVoid l[k]) := by
  have hbw := h.below.size
  have hs5 := h5.size
  have hb5 : Below w.heap.size w w5 := h.below.trans (h5.mono hbw)
  have hlo : lo.length ≤ 80000 := by
    rw [h.eq]
    have := foldL_len (l.take k) []
    simp at this; omega
  have hw5 : Wd w5 (Sep B (.slice oa on oc)) pt.wv l[k].word := hw.keep fun g cur h1 h2 => by
    have hg := (Array.getElem?_eq_some_iff.1 h2).1
    exact ⟨⟨h1, fun e => by have := h.own g e; omega⟩, (hb5.block g hg).trans h2⟩
  obtain ⟨a, c, w', r, hrow, hb, hk1, hk2, hk3, hk4⟩ := (h.row.under h5).push2 (by omega) (by rw [h.row.len]; omega) pt l[k] hx hw5
  refine ⟨a, _, c, w', r, h.next hk ?_ hrow (fun b hb => ?_) he.symm⟩
  · exact ⟨hb.os.trans hb5.os, hb.tape.trans hb5.tape, hb.output.trans hb5.output, Nat.le_trans hb5.size hb.size, fun i hi => (hk3 i (by omega) (fun e => by have := h.own i e; omega)).trans (hb5.block i hi)⟩
  · rcases hk4 b hb with e | e
    · exact h.own b e
    · omega
theorem TdS.store {w wx w5 : World} {B : Nat} {l : List Prt} {k : Nat} {oa : Option Addr} {on oc : Nat} {l0 : List Prt} {y : Prt} {L0 : List Pt} {py : Pt} {em : Bool} (h : TdS w wx B l k (.slice oa on oc) (l0 ++ [y]) (L0 ++ [py]) em) (hk : k < l.length) (h5 : Below wx.heap.size wx w5) (t : ByteArray) (ht : t.data.toList = y.text ++ l[k].text)
    (he : stepL (l0 ++ [y]) l[k] = l0 ++ [joinP y l[k].text]) {g : Nat} (hg : oa = some ⟨g, 0, none⟩) :
    TdS w (w5.setCell ⟨g, L0.length * 6 + 1, none⟩ (.string t)) B l (k + 1) (.slice oa on oc) (l0 ++ [joinP y l[k].text]) (L0 ++ [⟨py.k, t, py.n, py.o, py.wv, py.q⟩]) (em || isVoid l[k]) := by
  have hbw := h.below.size
  have hb5 : Below w.heap.size w w5 := h.below.trans (h5.mono hbw)
  obtain ⟨g', e1, e2, e3, hrow⟩ := (h.row.under h5).setText t
  rw [hg] at e1
  injection e1 with e1
  injection e1 with e1
  subst e1
  refine h.next hk (hb5.setCell (p := ⟨g, _, none⟩) (h.own g (by rw [hg]; rfl)) _) ?_ h.own he.symm
  rw [ht] at hrow
  exact hrow
set_option maxRecDepth 100000 in
set_option maxHeartbeats 16000000 in
theorem RTidy_any {w : World} {B : Nat} {a : Option Addr} {n c : Nat} {l : List Prt} {L : List Pt} (h : PRow w B (.slice a n c) l L) (hB : B ≤ w.heap.size) (hl : l.length ≤ 80000) (htx : txL l ≤ 100000) :
    Calls Try.prog 36 #[.slice a n c] w (RowP w B (tidyL l)) := by
  obtain ⟨Q, hQ⟩ : ∃ Q, RowP w B (tidyL l) = Q := ⟨_, rfl⟩
  rw [hQ]
  have HQ := Lib.hid hQ
  have hnl := h.n.1
  have HROW := Lib.hid h.wd
  have HH := Lib.hid h
  have hnI : (n : Int) ≤ 80000 := by omega
  have HNL := Lib.hid hnl
  have HTX := Lib.hid htx
  have HLL := Lib.hid hl
  clear hQ h hnl htx hl
  go_enter Try.func36, Try.ntmps36
  go_wp2_with fail
  go_loopw [3, 4, 5] (fun ov ev iv wx => ∃ k oa on oc em, k ≤ n ∧ ov = .slice oa on oc ∧ ev = .bool em ∧ iv = .int .i64 ((k : Nat) : Int) ∧ Hid (∃ lo Lo, TdS w wx B l k (.slice oa on oc) lo Lo em)) (fun _ _ iv _ => n - (intOf iv).toNat)
  case atStart => exact ⟨0, none, 0, 0, false, Nat.zero_le _, rfl, rfl, rfl, [], [], ⟨Below.refl _ _, PRow.nil _ _, fun b hb => (by cases hb), rfl, rfl, Nat.le_refl _⟩⟩
  case round =>
    obtain ⟨k, oa, on, oc, em, hk, rfl, rfl, rfl, HT⟩ := hrel
    obtain ⟨lo, Lo, hT⟩ := HT.out
    have HS := Lib.hid hT
    have hon := hT.row.n
    have hlol : lo.length ≤ 80000 := by
      rw [hT.eq]
      have h1 := foldL_len (l.take k) []
      have h2 := HLL.out
      simp at h1; omega
    by_cases hlt : k < n
    · have hltI : (k : Int) < (n : Int) := by omega
      have hltd : decide ((k : Int) < (n : Int)) = true := decide_eq_true hltI
      have hk0 : (0 : Int) ≤ (k : Int) := by omega
      have hkl : k < l.length := by rw [← HNL.out]; exact hlt
      have hkw : IntKind.i64.wrap ((k : Int) + 1) = (k : Int) + 1 := IntWalk.i64_in _ (by omega)
      obtain ⟨xb, off, xk, xt, xn, xo, xwa, xwc, xq, rfl, hxb, q0', q1', q2', q3', q4', q5', i1, i2, i3, i4, i5, hxw⟩ := HROW.out.cells hkl
      have q0 := cell_under hT.below hxb q0'
      have q1 := cell_under hT.below hxb q1'
      have q2 := cell_under hT.below hxb q2'
      have q3 := cell_under hT.below hxb q3'
      have q4 := cell_under hT.below hxb q4'
      have q5 := cell_under hT.below hxb q5'
      clear q0' q1' q2' q3' q4' q5'
      obtain ⟨xwn, hxwn⟩ : ∃ xwn, l[k].word.length = xwn := ⟨_, rfl⟩
      rw [hxwn] at q4 hxw
      have HX : Hid (Pt.is ⟨xk, xt, xn, xo, .slice xwa xwn xwc, xq⟩ l[k]) := ⟨i1, i2, i3, i4, i5⟩
      have HXW := Lib.hid hxw
      have ad := addo6 xb off k
      have hxtl : xt.size ≤ 100000 := by
        have h1 := txL_take1 hkl
        have h2 := txL_take l (k + 1)
        have h3 := HTX.out
        rw [← i2, dl] at h1; omega
      obtain ⟨wA, hwA⟩ : ∃ wA, wr.alloc (.cells #[.int .i64 xk, .string xt, .string xn, .string xo, .slice xwa xwn xwc, .bool xq] 39) = wA := ⟨_, rfl⟩
      have HWA : Hid (Below wr.heap.size wr wA) := by rw [Hid, ← hwA]; exact (Below.refl _ _).alloc (Nat.le_refl _) _
      have HXLT : Hid (wr.heap.size < wA.heap.size) := by rw [Hid, ← hwA, size_alloc]; omega
      have hA : wA.heap[wr.heap.size]? = some (.cells #[.int .i64 xk, .string xt, .string xn, .string xo, .slice xwa xwn xwc, .bool xq] 39 (0, 0)) := by rw [← hwA]; exact heap_alloc_new wr _
      have p0 : wA.cell? ⟨wr.heap.size, 0, none⟩ = some (.int .i64 xk) := Lib.cell_of_heap hA 0
      have p1 : wA.cell? ⟨wr.heap.size, 1, none⟩ = some (.string xt) := Lib.cell_of_heap hA 1
      have p2 : wA.cell? ⟨wr.heap.size, 2, none⟩ = some (.string xn) := Lib.cell_of_heap hA 2
      have p3 : wA.cell? ⟨wr.heap.size, 3, none⟩ = some (.string xo) := Lib.cell_of_heap hA 3
      have p4 : wA.cell? ⟨wr.heap.size, 4, none⟩ = some (.slice xwa xwn xwc) := Lib.cell_of_heap hA 4
      have p5 : wA.cell? ⟨wr.heap.size, 5, none⟩ = some (.bool xq) := Lib.cell_of_heap hA 5
      obtain ⟨b2, hb2⟩ : ∃ b, ((xk : Int) == 2) = b := ⟨_, rfl⟩
      obtain ⟨b1, hb1⟩ : ∃ b, ((xk : Int) == 1) = b := ⟨_, rfl⟩
      obtain ⟨be, hbe⟩ : ∃ b, xt.toList.isEmpty = b := ⟨_, rfl⟩
      have HV : Hid (isVoid l[k] = (b2 && be)) := by
        rw [Hid, ← hb2, ← hbe]; unfold isVoid
        rw [← i2, Lib.toList_data]
        have : (l[k].kind == 2) = ((xk : Int) == 2) := by rw [i1]; exact (int_beq _ 2).symm
        rw [this]
      have HTXT : Hid (isTxt l[k] = (b1 || b2)) := by
        rw [Hid, ← hb2, ← hb1]; unfold isTxt
        have e2 : (l[k].kind == 2) = ((xk : Int) == 2) := by rw [i1]; exact (int_beq _ 2).symm
        have e1 : (l[k].kind == 1) = ((xk : Int) == 1) := by rw [i1]; exact (int_beq _ 1).symm
        rw [e1, e2]
      have HWAE := Lib.hid hwA
      have HT1 : Hid (∀ w9, wr.alloc (.cells #[.int .i64 xk, .string xt, .string xn, .string xo, .slice xwa xwn xwc, .bool xq] 39) = w9 → w9 = wA) := fun w9 h => h.symm.trans hwA
      clear i1 i2 i3 i4 i5 hxw hA hwA
      by_cases hvv : b2 = true ∧ be = true
      · obtain ⟨rfl, rfl⟩ := hvv
        have HST : Hid (TdS w wA B l (k + 1) (.slice oa on oc) lo Lo (em || isVoid l[k])) := HS.out.next hkl (HS.out.below.trans (HWA.out.mono HS.out.below.size)) (HS.out.row.under HWA.out) HS.out.own (stepL_void (by rw [HV.out]; rfl)).symm
        rw [HV.out] at HST
        simp only [Bool.and_self, Bool.or_true] at HST
        go_wp2_with fail
        rw [HWAE.out]
        go_roundw
        case measure => simp [intOf]; omega
        case rel => exact ⟨k + 1, oa, on, oc, true, by omega, rfl, rfl, by go_num, _, _, HST.out⟩
      · have HVF : Hid (isVoid l[k] = false) := by
          rw [Hid, HV.out]
          cases b2 <;> cases be <;> simp at hvv ⊢
        have HEM : Hid ((em || isVoid l[k]) = em) := by rw [Hid, HVF.out, Bool.or_false]
        have hbb : b2 = false ∨ (b2 = true ∧ be = false) := by cases b2 <;> cases be <;> simp at hvv ⊢
        clear hvv
        rcases hbb with rfl | ⟨rfl, rfl⟩
        · rcases List.eq_nil_or_concat lo with hlo | ⟨l0, y, hlo⟩
          · have hon0 : on = 0 := by rw [hon.1, hlo]; rfl
            have HSTEP : Hid (stepL lo l[k] = lo ++ [l[k]]) := by rw [Hid, hlo]; exact stepL_nil HVF.out
            clear hon hlo hT
            subst hon0
            go_wp2_with fail
            rw [HWAE.out]
            go_quiet (fail)
            have hbn := drew_below wA nq
            obtain ⟨w5, hw5⟩ : ∃ wv, World.drewN wA nq = wv := ⟨_, rfl⟩
            rw [hw5] at hbn ⊢
            have HB5 := Lib.hid (HWA.out.trans (hbn.mono HWA.out.size))
            have hxlt : wr.heap.size < wA.heap.size := HXLT.out
            have a0 := cell_under hbn hxlt p0
            have a1 := cell_under hbn hxlt p1
            have a2 := cell_under hbn hxlt p2
            have a3 := cell_under hbn hxlt p3
            have a4 := cell_under hbn hxlt p4
            have a5 := cell_under hbn hxlt p5
            obtain ⟨a8, n8, c8, w8, r8, hs8⟩ := HS.out.push hB hkl HLL.out HB5.out HX.out HXW.out HSTEP.out
            have HS8 := Lib.hid hs8
            rw [HEM.out] at HS8
            clear hw5 hbn hs8 p0 p1 p2 p3 p4 p5
            go_wp2_with (at_builtin; refine wpList_run_append _ rfl _ _ 32 32 rfl _ _ rfl rfl r8 ?_)
            go_roundw
            case measure => simp [intOf]; omega
            case rel => exact ⟨k + 1, a8, n8, c8, _, by omega, rfl, rfl, by go_num, _, _, HS8.out⟩
          · rw [List.concat_eq_append] at hlo
            subst hlo
            rcases List.eq_nil_or_concat Lo with hLo | ⟨L0, py, hLo⟩
            · exfalso
              have := hT.row.len
              rw [hLo] at this; simp at this
            rw [List.concat_eq_append] at hLo
            subst hLo
            obtain ⟨g, hg, hon1, hfz, _⟩ := HS.out.row.setText ⟨#[]⟩
            subst hg
            have hl0 : L0.length = l0.length := by have := hT.row.len; simpa using this
            obtain ⟨m, hm⟩ : ∃ m, L0.length = m := ⟨_, rfl⟩
            have HM := Lib.hid hm
            have hwm : IntKind.i64.wrap ((on : Int) - 1) = (m : Int) := by rw [IntWalk.i64_in _ (by omega)]; omega
            have hm0 : (0 : Int) ≤ (m : Int) := by omega
            have hmo : (m : Int) < (on : Int) := by omega
            obtain ⟨b', off', yk, yt, yn, yo, ywa, ywc, yq, e, hyb, y0, y1, y2, y3, y4, y5, j1, j2, j3, j4, j5, hyw⟩ := HS.out.row.wd.cells (i := l0.length) (by simp)
            injection e with e
            injection e with e e'
            subst e
            subst e'
            rw [Nat.zero_add, ← hl0, hm] at y0 y1
            simp only [List.getElem_concat_length] at j1 j2
            have y0A := cell_under HWA.out hyb y0
            have y1A := cell_under HWA.out hyb y1
            have hgA : g < wA.heap.size := Nat.lt_of_lt_of_le hyb HWA.out.size
            have ad2 := addo6 g 0 m
            rw [Nat.zero_add] at ad2
            have hytl : yt.size ≤ 100000 := by
              have h1 := hT.tl
              rw [txL_app] at h1
              simp only [txL] at h1
              have h2 := txL_take l k
              have h3 := HTX.out
              rw [← j2, dl] at h1; omega
            obtain ⟨bk, hbk⟩ : ∃ b, ((yk : Int) == xk) = b := ⟨_, rfl⟩
            have HK : Hid ((y.kind == l[k].kind) = bk) := by rw [Hid, ← hbk, j1, show xk = (l[k].kind : Int) from HX.out.1, int_beq]
            have HJ2 := Lib.hid j2
            rw [hm] at hfz
            have hWX : wA.frozen? ⟨g, m * 6 + 1, none⟩ = false := by
              unfold World.frozen? at hfz ⊢
              rw [HWA.out.block g hyb]; exact hfz
            clear y0 y1 y2 y3 y4 y5 j1 j2 j3 j4 j5 hyw hon hon1 hl0 hT hm hfz
            by_cases hmc : bk = true ∧ (b1 || false) = true
            · have HSTEP : Hid (stepL (l0 ++ [y]) l[k] = l0 ++ [joinP y l[k].text]) := by
                refine stepL_join HVF.out ⟨?_, by rw [HTXT.out]; exact hmc.2⟩
                have := HK.out; rw [hmc.1] at this; simpa using this
              obtain ⟨rfl, hmc⟩ := hmc
              cases b1 <;> simp at hmc
              all_goals
                go_wp2_with fail
                rw [HWAE.out]
                go_quiet (fail)
                have hbn := drew_below wA nq
                obtain ⟨w5, hw5⟩ : ∃ wv, World.drewN wA nq = wv := ⟨_, rfl⟩
                have hf5 : w5.frozen? ⟨g, m * 6 + 1, none⟩ = false := by rw [← hw5]; exact hWX
                rw [hw5] at hbn ⊢
                have HB5 := Lib.hid (HWA.out.trans (hbn.mono HWA.out.size))
                have a1 := cell_under hbn HXLT.out p1
                have y15 := cell_under hbn hgA y1A
                clear hw5 hbn p0 p1 p2 p3 p4 p5 y0A y1A hWX
                go_wp2_with fail
                have HST : Hid (TdS w ((w5.drewN 1).setCell ⟨g, m * 6 + 1, none⟩ (.string (yt ++ xt))) B l (k + 1) (.slice (some ⟨g, 0, none⟩) on oc) (l0 ++ [joinP y l[k].text]) (L0 ++ [⟨py.k, yt ++ xt, py.n, py.o, py.wv, py.q⟩]) (em || isVoid l[k])) := by
                  rw [← HM.out]
                  exact HS.out.store hkl (HB5.out.trans ((drew_below w5 1).mono HB5.out.size)) (yt ++ xt) (by rw [show (yt ++ xt).data.toList = yt.data.toList ++ xt.data.toList by simp, HJ2.out]; exact congrArg _ HX.out.2.1) HSTEP.out rfl
                rw [HEM.out] at HST
                have hs4 : (9223372036854775807 < yt.size + xt.size) = False := eq_false (by omega)
                go_still_tail 12, (by kernel_rfl)
                change wpList _ _ _ _ _ w5.drew
                go_wp2_with fail
                go_roundw
                case measure => simp [intOf]; omega
                case rel => exact ⟨k + 1, _, on, oc, _, by omega, rfl, rfl, by go_num, _, _, HST.out⟩
            · have HSTEP : Hid (stepL (l0 ++ [y]) l[k] = l0 ++ [y] ++ [l[k]]) := by
                refine stepL_more HVF.out (fun h => hmc ⟨?_, by rw [← HTXT.out]; exact h.2⟩)
                rw [← HK.out]; simpa using h.1
              clear y1A hWX
              cases bk <;> cases b1 <;> simp at hmc
              all_goals
                go_wp2_with fail
                rw [HWAE.out]
                go_quiet (fail)
                have hbn := drew_below wA nq
                obtain ⟨w5, hw5⟩ : ∃ wv, World.drewN wA nq = wv := ⟨_, rfl⟩
                rw [hw5] at hbn ⊢
                have HB5 := Lib.hid (HWA.out.trans (hbn.mono HWA.out.size))
                have hxlt : wr.heap.size < wA.heap.size := HXLT.out
                have a0 := cell_under hbn hxlt p0
                have a1 := cell_under hbn hxlt p1
                have a2 := cell_under hbn hxlt p2
                have a3 := cell_under hbn hxlt p3
                have a4 := cell_under hbn hxlt p4
                have a5 := cell_under hbn hxlt p5
                obtain ⟨a8, n8, c8, w8, r8, hs8⟩ := HS.out.push hB hkl HLL.out HB5.out HX.out HXW.out HSTEP.out
                have HS8 := Lib.hid hs8
                rw [HEM.out] at HS8
                clear hw5 hbn hs8 p0 p1 p2 p3 p4 p5
                go_wp2_with (at_builtin; refine wpList_run_append _ rfl _ _ 32 32 rfl _ _ rfl rfl r8 ?_)
                go_roundw
                case measure => simp [intOf]; omega
                case rel => exact ⟨k + 1, a8, n8, c8, _, by omega, rfl, rfl, by go_num, _, _, HS8.out⟩
        · rcases List.eq_nil_or_concat lo with hlo | ⟨l0, y, hlo⟩
          · have hon0 : on = 0 := by rw [hon.1, hlo]; rfl
            have HSTEP : Hid (stepL lo l[k] = lo ++ [l[k]]) := by rw [Hid, hlo]; exact stepL_nil HVF.out
            clear hon hlo hT
            subst hon0
            go_wp2_with fail
            rw [HWAE.out]
            go_quiet (fail)
            have hbn := drew_below wA nq
            obtain ⟨w5, hw5⟩ : ∃ wv, World.drewN wA nq = wv := ⟨_, rfl⟩
            rw [hw5] at hbn ⊢
            have HB5 := Lib.hid (HWA.out.trans (hbn.mono HWA.out.size))
            have hxlt : wr.heap.size < wA.heap.size := HXLT.out
            have a0 := cell_under hbn hxlt p0
            have a1 := cell_under hbn hxlt p1
            have a2 := cell_under hbn hxlt p2
            have a3 := cell_under hbn hxlt p3
            have a4 := cell_under hbn hxlt p4
            have a5 := cell_under hbn hxlt p5
            obtain ⟨a8, n8, c8, w8, r8, hs8⟩ := HS.out.push hB hkl HLL.out HB5.out HX.out HXW.out HSTEP.out
            have HS8 := Lib.hid hs8
            rw [HEM.out] at HS8
            clear hw5 hbn hs8 p0 p1 p2 p3 p4 p5
            go_wp2_with (at_builtin; refine wpList_run_append _ rfl _ _ 32 32 rfl _ _ rfl rfl r8 ?_)
            go_roundw
            case measure => simp [intOf]; omega
            case rel => exact ⟨k + 1, a8, n8, c8, _, by omega, rfl, rfl, by go_num, _, _, HS8.out⟩
          · rw [List.concat_eq_append] at hlo
            subst hlo
            rcases List.eq_nil_or_concat Lo with hLo | ⟨L0, py, hLo⟩
            · exfalso
              have := hT.row.len
              rw [hLo] at this; simp at this
            rw [List.concat_eq_append] at hLo
            subst hLo
            obtain ⟨g, hg, hon1, hfz, _⟩ := HS.out.row.setText ⟨#[]⟩
            subst hg
            have hl0 : L0.length = l0.length := by have := hT.row.len; simpa using this
            obtain ⟨m, hm⟩ : ∃ m, L0.length = m := ⟨_, rfl⟩
            have HM := Lib.hid hm
            have hwm : IntKind.i64.wrap ((on : Int) - 1) = (m : Int) := by rw [IntWalk.i64_in _ (by omega)]; omega
            have hm0 : (0 : Int) ≤ (m : Int) := by omega
            have hmo : (m : Int) < (on : Int) := by omega
            obtain ⟨b', off', yk, yt, yn, yo, ywa, ywc, yq, e, hyb, y0, y1, y2, y3, y4, y5, j1, j2, j3, j4, j5, hyw⟩ := HS.out.row.wd.cells (i := l0.length) (by simp)
            injection e with e
            injection e with e e'
            subst e
            subst e'
            rw [Nat.zero_add, ← hl0, hm] at y0 y1
            simp only [List.getElem_concat_length] at j1 j2
            have y0A := cell_under HWA.out hyb y0
            have y1A := cell_under HWA.out hyb y1
            have hgA : g < wA.heap.size := Nat.lt_of_lt_of_le hyb HWA.out.size
            have ad2 := addo6 g 0 m
            rw [Nat.zero_add] at ad2
            have hytl : yt.size ≤ 100000 := by
              have h1 := hT.tl
              rw [txL_app] at h1
              simp only [txL] at h1
              have h2 := txL_take l k
              have h3 := HTX.out
              rw [← j2, dl] at h1; omega
            obtain ⟨bk, hbk⟩ : ∃ b, ((yk : Int) == xk) = b := ⟨_, rfl⟩
            have HK : Hid ((y.kind == l[k].kind) = bk) := by rw [Hid, ← hbk, j1, show xk = (l[k].kind : Int) from HX.out.1, int_beq]
            have HJ2 := Lib.hid j2
            rw [hm] at hfz
            have hWX : wA.frozen? ⟨g, m * 6 + 1, none⟩ = false := by
              unfold World.frozen? at hfz ⊢
              rw [HWA.out.block g hyb]; exact hfz
            clear y0 y1 y2 y3 y4 y5 j1 j2 j3 j4 j5 hyw hon hon1 hl0 hT hm hfz
            by_cases hmc : bk = true ∧ (b1 || true) = true
            · have HSTEP : Hid (stepL (l0 ++ [y]) l[k] = l0 ++ [joinP y l[k].text]) := by
                refine stepL_join HVF.out ⟨?_, by rw [HTXT.out]; exact hmc.2⟩
                have := HK.out; rw [hmc.1] at this; simpa using this
              obtain ⟨rfl, hmc⟩ := hmc
              cases b1
              all_goals
                go_wp2_with fail
                rw [HWAE.out]
                go_quiet (fail)
                have hbn := drew_below wA nq
                obtain ⟨w5, hw5⟩ : ∃ wv, World.drewN wA nq = wv := ⟨_, rfl⟩
                have hf5 : w5.frozen? ⟨g, m * 6 + 1, none⟩ = false := by rw [← hw5]; exact hWX
                rw [hw5] at hbn ⊢
                have HB5 := Lib.hid (HWA.out.trans (hbn.mono HWA.out.size))
                have a1 := cell_under hbn HXLT.out p1
                have y15 := cell_under hbn hgA y1A
                clear hw5 hbn p0 p1 p2 p3 p4 p5 y0A y1A hWX
                go_wp2_with fail
                have HST : Hid (TdS w ((w5.drewN 1).setCell ⟨g, m * 6 + 1, none⟩ (.string (yt ++ xt))) B l (k + 1) (.slice (some ⟨g, 0, none⟩) on oc) (l0 ++ [joinP y l[k].text]) (L0 ++ [⟨py.k, yt ++ xt, py.n, py.o, py.wv, py.q⟩]) (em || isVoid l[k])) := by
                  rw [← HM.out]
                  exact HS.out.store hkl (HB5.out.trans ((drew_below w5 1).mono HB5.out.size)) (yt ++ xt) (by rw [show (yt ++ xt).data.toList = yt.data.toList ++ xt.data.toList by simp, HJ2.out]; exact congrArg _ HX.out.2.1) HSTEP.out rfl
                rw [HEM.out] at HST
                have hs4 : (9223372036854775807 < yt.size + xt.size) = False := eq_false (by omega)
                go_still_tail 12, (by kernel_rfl)
                change wpList _ _ _ _ _ w5.drew
                go_wp2_with fail
                go_roundw
                case measure => simp [intOf]; omega
                case rel => exact ⟨k + 1, _, on, oc, _, by omega, rfl, rfl, by go_num, _, _, HST.out⟩
            · have HSTEP : Hid (stepL (l0 ++ [y]) l[k] = l0 ++ [y] ++ [l[k]]) := by
                refine stepL_more HVF.out (fun h => hmc ⟨?_, by rw [← HTXT.out]; exact h.2⟩)
                rw [← HK.out]; simpa using h.1
              clear y1A hWX
              cases bk <;> simp at hmc
              all_goals
                go_wp2_with fail
                rw [HWAE.out]
                go_quiet (fail)
                have hbn := drew_below wA nq
                obtain ⟨w5, hw5⟩ : ∃ wv, World.drewN wA nq = wv := ⟨_, rfl⟩
                rw [hw5] at hbn ⊢
                have HB5 := Lib.hid (HWA.out.trans (hbn.mono HWA.out.size))
                have hxlt : wr.heap.size < wA.heap.size := HXLT.out
                have a0 := cell_under hbn hxlt p0
                have a1 := cell_under hbn hxlt p1
                have a2 := cell_under hbn hxlt p2
                have a3 := cell_under hbn hxlt p3
                have a4 := cell_under hbn hxlt p4
                have a5 := cell_under hbn hxlt p5
                obtain ⟨a8, n8, c8, w8, r8, hs8⟩ := HS.out.push hB hkl HLL.out HB5.out HX.out HXW.out HSTEP.out
                have HS8 := Lib.hid hs8
                rw [HEM.out] at HS8
                clear hw5 hbn hs8 p0 p1 p2 p3 p4 p5
                go_wp2_with (at_builtin; refine wpList_run_append _ rfl _ _ 32 32 rfl _ _ rfl rfl r8 ?_)
                go_roundw
                case measure => simp [intOf]; omega
                case rel => exact ⟨k + 1, a8, n8, c8, _, by omega, rfl, rfl, by go_num, _, _, HS8.out⟩
    · obtain rfl : n = k := by omega
      have hltd : decide ((n : Int) < (n : Int)) = false := decide_eq_false (by omega)
      have hall : l.take n = l := by rw [HNL.out, List.take_length]
      have HLO : Hid (lo = l.foldl stepL []) := by have := hT.eq; rwa [hall] at this
      have HEMV : Hid (em = l.any isVoid) := by have := hT.em; rwa [hall] at this
      have honl := hon.1
      clear hlt
      by_cases hc : lo.isEmpty = true ∧ em = true
      · obtain ⟨h1, rfl⟩ := hc
        have hlo0 : lo = [] := by simpa using h1
        have hon0 : on = 0 := by rw [honl, hlo0]; rfl
        subst hon0
        have HT0 : Hid (tidyL l = [txt 2 []]) := by rw [Hid]; unfold tidyL; rw [← HLO.out, ← HEMV.out, h1]; rfl
        subst hlo0
        obtain ⟨a8, c8, w8, r8, hrow8, hb8, _⟩ := HS.out.row.push2 (Nat.le_trans hB HS.out.below.size) (by rw [HS.out.row.len]; simp) ⟨2, ⟨#[]⟩, ⟨#[]⟩, ⟨#[]⟩, .slice none 0 0, false⟩ (txt 2 []) ⟨rfl, rfl, rfl, rfl, rfl⟩ (.nil 0)
        obtain ⟨n8, hn8⟩ : ∃ n8, Lo.length + 1 = n8 := ⟨_, rfl⟩
        rw [hn8] at r8 hrow8
        have HR8 : Hid (PRow w8 B (.slice a8 n8 c8) ([] ++ [txt 2 []]) (Lo ++ [⟨2, ⟨#[]⟩, ⟨#[]⟩, ⟨#[]⟩, .slice none 0 0, false⟩])) := hrow8
        have HB8 : Hid (Below B w w8) := (HS.out.below.mono hB).trans hb8
        clear hrow8 hb8 hn8 hT hon honl h1
        go_wp2_with (at_builtin; refine wpList_run_append _ rfl _ _ 32 32 rfl _ _ rfl rfl r8 ?_)
        rw [← HQ.out, HT0.out]
        exact ⟨a8, n8, c8, _, rfl, HR8.out, HB8.out⟩
      · have HT0 : Hid (tidyL l = lo) := by
          rw [Hid]; unfold tidyL; rw [← HLO.out, ← HEMV.out, if_neg (by rw [Bool.and_eq_true]; exact hc)]
        have HEND : Hid (Q (.returned (.slice oa on oc)) wr) := by
          rw [Hid, ← HQ.out, HT0.out]
          exact ⟨oa, on, oc, _, rfl, HS.out.row, HS.out.below.mono hB⟩
        have hd : ((on : Int) == 0) = false ∨ em = false := by
          by_cases h1 : lo = []
          · right
            cases em with
            | false => rfl
            | true => exact absurd ⟨by rw [h1]; rfl, rfl⟩ hc
          · left
            have : 0 < lo.length := List.length_pos_iff.2 h1
            exact beq_eq_false_iff_ne.2 (by omega)
        obtain ⟨zb, hzb⟩ : ∃ zb, ((on : Int) == 0) = zb := ⟨_, rfl⟩
        rw [hzb] at hd
        clear hc hT hon honl
        cases zb <;> cases em <;> simp at hd
        all_goals
          go_wp2_with fail
          exact HEND.out
end Go.Proofs.Ytafbheplaheohaa

namespace Go.Proofs.Ytafbheplaheohaa
open Go

section
variable {P : Program} {ops : Array Oper} {md : Region.Mode} {C : World → Prop}

/-- The first operations, in whatever order, each quiet in the class; then what L says. -/
def headQ (P : Program) (md : Region.Mode) (ops : Array Oper) (C : World → Prop) (n : Nat) (L : Array Bool → Act → Prop) : Nat → Array Bool → Act → Prop
  | 0, listed, a => L listed a
  | f + 1, listed, a =>
    Region.ready md ops listed ≠ [] ∧ ∀ i ∈ Region.ready md ops listed, i < n ∧ qOp P ops C i (headQ P md ops C n L f (listed.setIfInBounds i true)) a

theorem wpAny_of_headQ {n g : Nat} {L : Array Bool → Act → Prop} {Q' : Exit → Act → World → Prop} (hL : ∀ listed a w, C w → L listed a → wpAny P md ops Q' g listed a w) :
    ∀ (f : Nat) (listed : Array Bool) (a : Act) (w : World), C w → headQ P md ops C n L f listed a → wpAny P md ops Q' (f + g) listed a w
  | 0, listed, a, w, hw, h => by rw [Nat.zero_add]; exact hL _ _ _ hw h
  | f + 1, listed, a, w, hw, h => by
    rw [show f + 1 + g = (f + g) + 1 by omega]
    exact ⟨fun h0 => absurd h0 h.1, fun i hi => wpOp_of_qOp hw (fun a' w' hw' h' => wpAny_of_headQ hL f _ a' w' hw' h') (h.2 i hi).2⟩

theorem headQ_first {n i : Nat} {oi : Oper} {v : Value} {L : Array Bool → Act → Prop} (hi : ops[i]? = some oi) (hsel : ∀ (j : Nat) (o : Oper) cs b, ops[j]? = some o → o.op ≠ .select cs b)
    (hs : Region.sinkB md ops n = true) (hc : Region.chainB md ops n = true) (hn : n < ops.size) (hin : i < n)
    (hdone : ∀ listed a, L listed a → ∀ j ∈ Region.ready md ops listed, n ≤ j) :
    ∀ (f : Nat) (listed : Array Bool) (a : Act), HeadInv md ops n listed →
      (∀ j oj, ops[j]? = some oj → j ≠ i → listed.getD j true = false → (∀ e ∈ oj.after, Region.binds md e = true → e.on ≠ i) → oi.apart ops oj = true) →
      i ∈ Region.ready md ops listed → YieldsIn P ops C oi v a →
      headQ P md ops C n L f (listed.setIfInBounds i true) (a.put oi.dst v) → headQ P md ops C n L (f + 1) listed a := by
  intro f
  induction f with
  | zero =>
    intro listed a inv _ hr hy H
    have hun := (mem_ready.1 hr).1
    refine ⟨fun h => (by rw [h] at hr; cases hr), fun j hj => ?_⟩
    have hjn : j < n := Nat.lt_of_not_le fun h => tail_waits hs hc hn inv _ i rfl hin hun j h hj
    refine ⟨hjn, ?_⟩
    by_cases hji : j = i
    · subst hji; exact hy.qOp hi H
    · have := hdone _ _ H j (ready_mono hj hji)
      omega
  | succ f ih =>
    intro listed a inv hfree hr hy H
    have hun := (mem_ready.1 hr).1
    refine ⟨fun h => (by rw [h] at hr; cases hr), fun j hj => ?_⟩
    have hjn : j < n := Nat.lt_of_not_le fun h => tail_waits hs hc hn inv _ i rfl hin hun j h hj
    refine ⟨hjn, ?_⟩
    by_cases hji : j = i
    · subst hji; exact hy.qOp hi H
    · have h1 := (H.2 j (ready_mono hj hji)).2
      obtain ⟨hjun, oj, hoj, hall⟩ := mem_ready.1 hj
      have hnot : ∀ e ∈ oj.after, Region.binds md e = true → e.on ≠ i := fun e he hb heq => by
        have h5 := hall e he hb
        rw [heq, getD_both hun] at h5
        cases h5
      have h2 := qOp_put hoj (hfree j oj hoj hji hjun hnot) (fun cs b => hsel i oi cs b hi) (fun cs b => hsel j oj cs b hoj) hy h1
      refine qOp_mono (fun a' h3 => ih (listed.setIfInBounds j true) a' (inv.set hj hjn) (fun k ok hk hki hun' hno => ?_) (ready_mono hr (Ne.symm hji)) h3.1 ?_) h2
      · refine hfree k ok hk hki ?_ hno
        by_cases hjk : j = k
        · subst hjk; exact hjun
        · rwa [getD_set_ne true hjk] at hun'
      · rw [Array.setIfInBounds_comm _ _ hji]
        exact h3.2

theorem headQ_lex {n g : Nat} {Lq : Act → Prop} (hsel : Region.noSelect ops = true) (hs : Region.sinkB md ops n = true) (hc : Region.chainB md ops n = true) (hn : n < ops.size) :
    ∀ (l : List Oper) (k : Nat) (listed : Array Bool) (a : Act), (∀ j, j < l.length → l[j]? = ops[k + j]?) → k + l.length = n → HeadInv md ops n listed →
    Region.lexHead md ops g l.length k listed = true → wpQuiet P ops C Lq l a →
    headQ P md ops C n (fun listed' a' => Region.seqB md ops g n listed' = true ∧ Lq a') l.length listed a
  | [], k, listed, a, _, hk, _, hB, h => by
    obtain rfl : k = n := by simpa using hk
    exact ⟨by simpa [Region.lexHead] using hB, h⟩
  | o :: l, k, listed, a, hl, hk, inv, hB, h => by
    have h0 : ops[k]? = some o := by simpa using (hl 0 (by simp)).symm
    simp only [List.length_cons, Region.lexHead, Bool.and_eq_true] at hB
    obtain ⟨⟨hr, hf⟩, hB'⟩ := hB
    have hkn : k < n := by simp only [List.length_cons] at hk; omega
    have hr' : k ∈ Region.ready md ops listed := by simpa using hr
    have hst : qOp P ops C k (wpQuiet P ops C Lq l) a := by unfold qOp; simp only [h0]; exact h
    obtain ⟨v, hy, hK⟩ := yieldsIn_of_qOp h0 hst
    exact headQ_first h0 (Region.noSelect_spec hsel) hs hc hn hkn (fun listed' a' hL => seqB_ready hL.1) l.length listed a inv (Region.free_spec h0 hf) hr' hy
      (headQ_lex hsel hs hc hn l (k + 1) _ _ (fun j hj => by have := hl (j + 1) (by simp; omega); simpa [Nat.add_assoc, Nat.add_comm 1 j] using this) (by simp only [List.length_cons] at hk; omega) (inv.set hr' hkn) hB' hK)

/-- A region whose first n operations are quiet in the class C, and whose others come behind all of these, one by one. -/
theorem wp_region_quiet_tail {id : Nat} {Q : Exit → Act → World → Prop} {a : Act} {w : World} {l : List Oper} (n : Nat) (C : World → Prop) (hm : P.follows .mixedOrders = true) (hB : Region.lexTailB .any l.toArray n = true)
    (hC : C { w with drawn := w.drawn + 1 })
    (h : wpQuiet P l.toArray C (fun a' => ∀ w', C w' → wpList P l.toArray Q (l.drop n) a' w') (l.take n) a) : (Code.region id l.toArray true).wp P Q a w := by
  simp only [Region.lexTailB, Bool.and_eq_true, decide_eq_true_eq] at hB
  obtain ⟨⟨⟨⟨hsel, hn⟩, hs⟩, hc⟩, hlex⟩ := hB
  have hn' : n < l.length := by simpa using hn
  have htl : (l.take n).length = n := by simp; omega
  have hdl : (l.drop n).length = l.toArray.size - n := by simp
  have inv0 : HeadInv .any l.toArray n (Array.replicate l.toArray.size false) :=
    ⟨by simp, fun j oj _ hl => (by rw [getD_replicate_false] at hl; cases hl), fun t _ ht => getD_in (by simpa using ht) (getD_replicate_false _ _)⟩
  have H := headQ_lex (md := .any) (C := C) (g := l.toArray.size - n) hsel hs hc hn (l.take n) 0 _ a (fun j hj => by
    have hj' : j < n := by rw [htl] at hj; exact hj
    simp [hj']) (by simpa using htl) inv0 (by rw [htl]; exact hlex) h
  refine wp_region_any hm ?_
  have := wpAny_of_headQ (C := C) (Q' := Q) (g := l.toArray.size - n) (fun listed a' w' hw' hL => by
    have := wpAny_of_seq (md := .any) (Q' := Q) (l.drop n) n listed a' w' (fun j => by simp [List.getElem?_drop]) (by rw [hdl]; exact hL.1) (hL.2 w' hw')
    rwa [hdl] at this) _ _ _ _ hC H
  rw [htl, show n + (l.toArray.size - n) = l.toArray.size by omega] at this
  exact this
end
end Go.Proofs.Ytafbheplaheohaa
