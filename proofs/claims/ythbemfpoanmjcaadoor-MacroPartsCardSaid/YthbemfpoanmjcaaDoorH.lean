import Derived.Test.YthbemfpoanmjcaaDoorG
namespace Go.Proofs.YthbemfpoanmjcaaDoor
open Go.RowKit
set_option linter.unusedVariables false

theorem words_le (s : ByteArray) : ∀ x ∈ wordsB s, x.size ≤ s.size := fun x hx => by
  unfold wordsB at hx
  obtain ⟨p, _, rfl⟩ := List.mem_map.1 hx
  simp; omega
theorem words_len (s : ByteArray) : (wordsB s).length ≤ s.size + 1 := by
  have : ∀ (f pos : Nat) (st : Option Nat) (acc : List (Nat × Nat)), (stepB s f pos st acc).1.length ≤ acc.length + f := by
    intro f
    induction f with
    | zero => intro pos st acc; exact Nat.le_refl _
    | succ f ih =>
      intro pos st acc
      rw [stepB_succ]
      split
      · have := ih (pos + 1) none (clS st pos acc)
        have h2 : (clS st pos acc).length ≤ acc.length + 1 := by unfold clS; cases st <;> simp
        omega
      · have := ih (pos + 1) (some (st.getD pos)) acc
        omega
  have h1 := this s.size 0 none []
  unfold wordsB Lib.closeSpans
  rw [List.length_map]
  simp only [List.length_nil] at h1
  cases (stepB s s.size 0 none []).2 with
  | none => simp only; omega
  | some a => simp only [List.length_append, List.length_singleton]; omega
theorem sw1_one {x fr tt : ByteArray} (h : ¬ 0 ≤ Lib.indexByte fr.data.toList 37) : (sw1 x fr tt).data.toList = oneF fr.data.toList tt.data.toList x.data.toList := by
  unfold sw1 oneF
  rw [if_neg h]
  split
  · rw [ByteArray.data_append, Array.toList_append]
  · rfl
/-- A swap under way: its builder and the row of its words. -/
structure Sw (S b : Nat) (w wx : World) (out : Bs) (v2 : Value) (L : List ByteArray) : Prop where
  bd : Bd S wx b out
  row : wx.ownsRow S 9 1 v2 L.length (L.map .string)
  old : Below S w wx
  hS : S ≤ w.heap.size
theorem Sw.below {S b : Nat} {w wx wy : World} {out : Bs} {v2 : Value} {L : List ByteArray} (h : Sw S b w wx out v2 L) (hb : Below wx.heap.size wx wy) : Sw S b w wy out v2 L :=
  ⟨h.bd.below hb, own_keep h.row (fun g c hg => (hb.block g (Array.getElem?_eq_some_iff.1 hg).1).trans hg), h.old.trans (hb.mono (Nat.le_trans h.hS h.old.size)), h.hS⟩
theorem Sw.put {S b : Nat} {w wx wy : World} {out out2 : Bs} {v2 : Value} {L : List ByteArray} (h : Sw S b w wx out v2 L) (hb : Below S wx wy) (hk : Lib.OthersKept 5 (some b) wx wy) (hd : Bd S wy b out2) : Sw S b w wy out2 v2 L := by
  refine ⟨hd, own_keep h.row (fun g c hg => hk g _ hg (fun e => ?_) (fun c' fz' e => ?_)), h.old.trans hb, h.hS⟩
  · injection e with e
    subst e
    obtain ⟨c', fz', h3⟩ := h.bd.blk
    rw [hg] at h3
    injection h3 with h3
    injection h3 with _ h4 _
    exact absurd h4 (by decide)
  · injection e with _ h4 _
    exact absurd h4 (by decide)
theorem Sw.sz {S b : Nat} {w wx : World} {out : Bs} {v2 : Value} {L : List ByteArray} (h : Sw S b w wx out v2 L) : S ≤ wx.heap.size := Nat.le_trans h.hS h.old.size
def WdP (w : World) (L : List ByteArray) (e : Ending) (w' : World) : Prop := ∃ v2, e = .returned v2 ∧ Wn w w' v2 L
def SwapP (w : World) (r : Bs) (e : Ending) (w' : World) : Prop := e = .returned (.string (mk r)) ∧ Below w.heap.size w w'
set_option maxRecDepth 100000 in
set_option maxHeartbeats 8000000 in
theorem swap_any (v fr tt : ByteArray) (m : Int) (w : World) (hm : w.cell? ⟨0, 0, none⟩ = some (.int .i64 m)) (hv : v.size ≤ 300000) (hfr : fr.size ≤ 300000) (htt : tt.size ≤ 300000) :
    Calls Tryd.prog 42 #[.string v, .string fr, .string tt] w (SwapP w (swapF v.data.toList fr.data.toList tt.data.toList)) := by
  obtain ⟨G, hG⟩ : ∃ G, swapF v.data.toList fr.data.toList tt.data.toList = G := ⟨_, rfl⟩
  have hG2 := hG
  unfold swapF at hG2
  rw [mk_data] at hG2
  rw [hG]
  have hwl := words_len v
  have hwz := words_le v
  have HWC : Hid (∀ w', Calls Tryd.prog 52 #[.string v] w' (WordsP w' v)) := fun w' => Words_any v w' (by omega)
  obtain ⟨L, hL⟩ : ∃ L, wordsB v = L := ⟨_, rfl⟩
  have HWC2 : Hid (∀ w', Calls Tryd.prog 52 #[.string v] w' (WdP w' L)) := fun w' => by
    have := HWC.out w'
    unfold WordsP at this
    rw [hL] at this
    exact this
  rw [hL] at hwl hwz hG2
  have HG := Lib.hid hG2
  have HWZ := Lib.hid hwz
  have hm0 := World.block_lt_of_cell? w _ hm
  have HM : Hid (∀ w', Below w.heap.size w w' → w'.cell? ⟨0, 0, none⟩ = some (.int .i64 m)) := fun w' hb => (hb.cell (p := ⟨0, 0, none⟩) hm0).trans hm
  have HB0 := Lib.hid (Bd.new w)
  have hBa : Below w.heap.size w (w.alloc (.cells #[.pointer none, .slice none 0 0] 60)) := (Below.refl _ _).alloc (Nat.le_refl _) _
  have HBa := Lib.hid hBa
  clear hm hG hG2 hwz hL HWC hBa
  go_enter Tryd.func42, Tryd.ntmps42
  go_wp2_with (go_at_call 52; refine (HWC2.out _).mono ?_)
  rintro e w5 ⟨v2, rfl, hW⟩
  have HSW : Hid (Sw w.heap.size w.heap.size w w5 [] v2 L) := ⟨HB0.out.below (hW.old), hW.own.mono (by simp), HBa.out.trans (hW.old.mono HBa.out.size), Nat.le_refl _⟩
  have hform : ∃ a c, v2 = .slice a L.length c := by
    obtain ⟨a, c, e, _⟩ := hW.txt.form
    exact ⟨a, c, e⟩
  obtain ⟨a, c, rfl⟩ := hform
  clear hW
  simp only []
  go_wp2_with fail
  go_loopw [15] (fun i wx => ∃ (k : Nat) (out : Bs), i = .int .i64 k ∧ k ≤ L.length ∧ out.length ≤ 1000000 ∧ Hid (Sw w.heap.size w.heap.size w wx out (.slice a L.length c) L) ∧ Hid (swapL fr.data.toList tt.data.toList ((L.drop k).map (·.data.toList)) (decide (k = 0)) out = G)) (fun i _ => L.length - (intOf i).toNat)
  case atStart => exact ⟨0, [], rfl, Nat.zero_le _, by simp, HSW.out, HG.out⟩
  case round =>
    obtain ⟨k, out, rfl, hk, hol, HS, HE⟩ := hrel
    by_cases hlt : k < L.length
    case neg =>
      have hltd : decide ((k : Int) < (L.length : Int)) = false := decide_eq_false (by omega)
      have HO : Hid (out = G) := by
        have := HE.out
        rw [List.drop_eq_nil_of_le (by omega)] at this
        exact this
      have HST := Lib.hid (HS.out.bd.str HS.out.sz)
      have HOB := Lib.hid HS.out.old
      go_wp2_with (go_at_call 34; refine HST.out.mono ?_; rintro e w7 ⟨rfl, h7⟩; have HB7 := Lib.hid (HOB.out.trans h7); clear h7; simp only [])
      go_ret
      exact ⟨by rw [← HO.out]; rfl, HB7.out⟩
    case pos =>
    have hltd : decide ((k : Int) < (L.length : Int)) = true := decide_eq_true (by omega)
    have hltI : (k : Int) < (L.length : Int) := by omega
    have hk0 : (0 : Int) ≤ (k : Int) := by omega
    have hb64 : IntKind.i64.wrap ((k : Int) + 1) = (k : Int) + 1 := IntWalk.i64_in _ (by omega)
    obtain ⟨g, rfl⟩ : ∃ g, a = some ⟨g, 0, none⟩ := by
      rcases HS.out.row.2 with ⟨_, h0⟩ | ⟨g, cap, cur, h1, _⟩
      · omega
      · injection h1 with e1 _ _
        exact ⟨g, e1⟩
    obtain ⟨x, hx⟩ : ∃ x, L[k] = x := ⟨_, rfl⟩
    have hcx : wr.cell? ⟨g, k, none⟩ = some (.string x) := by
      have := HS.out.row.cellAt k (by omega)
      rw [this, List.getElem?_map, List.getElem?_eq_getElem hlt, hx]; rfl
    have hadd : (⟨g, 0, none⟩ : Addr).add k = ⟨g, k, none⟩ := by rw [addn, Nat.zero_add]
    have hxs : x.size ≤ 300000 := by have := HWZ.out x (by rw [← hx]; exact List.getElem_mem hlt); omega
    have HEQ : Hid ((if 16384 < out.length then out else swapL fr.data.toList tt.data.toList ((L.drop (k + 1)).map (·.data.toList)) false (out ++ (if decide (k = 0) then [] else [32]) ++ oneF fr.data.toList tt.data.toList x.data.toList)) = G) := by
      have := HE.out
      rw [List.drop_eq_getElem_cons hlt, hx, List.map_cons, swapL] at this
      exact this
    have HLN := Lib.hid HS.out.bd.len
    clear hx HE
    by_cases hbig : 16384 < out.length
    · have hbd : decide ((16384 : Int) < (out.length : Int)) = true := decide_eq_true (by omega)
      have HO : Hid (out = G) := by
        have := HEQ.out
        rw [if_pos hbig] at this
        exact this
      have HST := Lib.hid (HS.out.bd.str HS.out.sz)
      have HOB := Lib.hid HS.out.old
      clear HEQ
      go_wp2_with (first
        | (go_at_call 31; refine HLN.out.mono ?_; rintro e w6 ⟨rfl, h6⟩; obtain rfl := h6.symm; simp only [])
        | (go_at_call 34; refine HST.out.mono ?_; rintro e w7 ⟨rfl, h7⟩; have HB7 := Lib.hid (HOB.out.trans h7); clear h7; simp only []))
      go_ret
      exact ⟨by rw [← HO.out]; rfl, HB7.out⟩
    have hbd : decide ((16384 : Int) < (out.length : Int)) = false := decide_eq_false (by omega)
    have HEV : Hid (swapL fr.data.toList tt.data.toList ((L.drop (k + 1)).map (·.data.toList)) (decide (k + 1 = 0)) (out ++ (if decide (k = 0) then [] else [32]) ++ oneF fr.data.toList tt.data.toList x.data.toList) = G) := by
      have := HEQ.out
      rw [if_neg hbig] at this
      rw [Hid, decide_eq_false (by omega)]; exact this
    clear HEQ
    have HIS := Lib.hid (fun w => Is_any fr w)
    have HMT := Lib.hid (fun w hm => Match_any fr x m w hm (by omega) (by omega))
    obtain ⟨mm, hmm⟩ : ∃ mm, matchF fr.data.toList x.data.toList = mm := ⟨_, rfl⟩
    have hml : mm.1.length ≤ x.size := by
      rw [← hmm, ← dl x]; unfold matchF
      split
      · exact Nat.zero_le _
      · split
        · exact Nat.zero_le _
        · simp only [List.length_drop, List.length_take]; omega
    rw [hmm] at HMT
    have HMM := Lib.hid hmm
    clear hmm
    obtain ⟨m1, hm1⟩ : ∃ m1, mk mm.1 = m1 := ⟨_, rfl⟩
    have hm1s : m1.size ≤ 300000 := by rw [← hm1, sz_mk]; omega
    have HM1 : Hid (m1.data.toList = mm.1) := by rw [Hid, ← hm1]
    rw [hm1] at HMT
    obtain ⟨m2, hm2⟩ : ∃ m2, mm.2 = m2 := ⟨_, rfl⟩
    rw [hm2] at HMT
    have HM2 := Lib.hid hm2
    clear hm1 hm2 hml
    obtain ⟨is, his⟩ : ∃ is, decide (0 ≤ Lib.indexByte fr.data.toList 37) = is := ⟨_, rfl⟩
    rw [his] at HIS
    have HISS := Lib.hid his
    clear his
    by_cases hkz : k = 0
    · subst hkz
      have hcx0 : wr.cell? ⟨g, 0, none⟩ = some (.string x) := hcx
      have hadd0 := add0 g
      have HSO := HS
      rw [show (out ++ (if decide (0 = 0) then [] else [32]) : Bs) = out by simp] at HEV
      clear hcx hadd
      cases is with
      | false =>
        have HX1 : Hid ((sw1 x fr tt).data.toList = oneF fr.data.toList tt.data.toList x.data.toList) := sw1_one (of_decide_eq_false HISS.out)
        obtain ⟨Y, hY⟩ : ∃ Y, sw1 x fr tt = Y := ⟨_, rfl⟩
        have hYs : Y.size ≤ 600000 := by
          have h1 := one_len fr.data.toList tt.data.toList x.data.toList
          rw [← HX1.out, hY, dl, dl, dl] at h1; omega
        have HSX := Lib.hid (fun g w hc => Swap1_any x fr tt g w (by omega) (by omega) hc)
        rw [hY] at HSX HX1
        clear hY
        go_wp2_with (first
          | (go_at_call 31; refine HLN.out.mono ?_; rintro e w6 ⟨rfl, h6⟩; obtain rfl := h6.symm; simp only [])
          | (go_at_call 53; refine (HMT.out _ (HM.out _ HSO.out.old)).mono ?_; rintro e w8 ⟨rfl, n8, h8⟩; have HS8 := Lib.hid (HSO.out.below (wy := w8) (by rw [h8]; exact drew_below _ n8)); clear h8; simp only [])
          | (go_at_call 54; refine (HIS.out _).mono ?_; rintro e w9 ⟨rfl, h9⟩; obtain rfl := h9.symm; simp only []))
        have HSA := Lib.hid (HS8.out.below ((Below.refl _ _).alloc (Nat.le_refl _) (.cells #[.string x] 9)))
        go_wp2_with (go_at_call 55; refine (HSX.out _ _ (by simp only [World.cell?, heap_alloc_new]; rfl)).mono ?_)
        rintro e w10 ⟨rfl, h10⟩
        have hc10 : w10.cell? ⟨w8.heap.size + 1, 0, none⟩ = some (.string Y) := by
          have := h10.1.cellAt 0 (by omega)
          simpa using this
        have HS10 := Lib.hid (HSA.out.below h10.2)
        have had0 := add0 (w8.alloc (.cells #[.string x] 9)).heap.size
        have HWR := Lib.hid (HS10.out.bd.write HS10.out.sz Y (by first | omega | (simp; omega)))
        clear h10
        simp only []
        go_wp2_with (go_at_call 29; refine HWR.out.mono ?_; rintro e w11 ⟨rfl, h11, h11b, h11c⟩; have HS11 := Lib.hid (HS10.out.put h11b h11c h11); clear h11 h11b h11c; simp only [])
        go_roundw
        case measure => simp [intOf] <;> omega
        case rel => exact ⟨0 + 1, _, by go_num, by omega, by first | omega | (simp; omega), HS11.out, by rw [HX1.out]; exact HEV.out⟩
      | true =>
        cases m2 with
        | false =>
          have HX1 : Hid (oneF fr.data.toList tt.data.toList x.data.toList = x.data.toList) := by
            unfold oneF
            rw [Hid, if_pos (of_decide_eq_true HISS.out), if_neg (by rw [HMM.out, HM2.out]; decide)]
          go_wp2_with (first
            | (go_at_call 31; refine HLN.out.mono ?_; rintro e w6 ⟨rfl, h6⟩; obtain rfl := h6.symm; simp only [])
            | (go_at_call 53; refine (HMT.out _ (HM.out _ HSO.out.old)).mono ?_; rintro e w8 ⟨rfl, n8, h8⟩; have HS8 := Lib.hid (HSO.out.below (wy := w8) (by rw [h8]; exact drew_below _ n8)); clear h8; simp only [])
            | (go_at_call 54; refine (HIS.out _).mono ?_; rintro e w9 ⟨rfl, h9⟩; obtain rfl := h9.symm; simp only []))
          have HWR := Lib.hid (HS8.out.bd.write HS8.out.sz x (by first | omega | (simp; omega)))
          go_wp2_with (go_at_call 29; refine HWR.out.mono ?_; rintro e w11 ⟨rfl, h11, h11b, h11c⟩; have HS11 := Lib.hid (HS8.out.put h11b h11c h11); clear h11 h11b h11c; simp only [])
          go_roundw
          case measure => simp [intOf] <;> omega
          case rel => exact ⟨0 + 1, _, by go_num, by omega, by first | omega | (simp; omega), HS11.out, by rw [← HX1.out]; exact HEV.out⟩
        | true =>
          have HX1 : Hid (oneF fr.data.toList tt.data.toList x.data.toList = Lib.replace tt.data.toList [37] m1.data.toList 1) := by
            unfold oneF
            rw [Hid, if_pos (of_decide_eq_true HISS.out), if_pos (by rw [HMM.out, HM2.out]), HMM.out, HM1.out]
          have HFL := Lib.hid (fun w hm => Fill_any tt m1 m w hm (by omega) (by omega))
          obtain ⟨Y, hY⟩ : ∃ Y, mk (Lib.replace tt.data.toList [37] m1.data.toList 1) = Y := ⟨_, rfl⟩
          have hYs : Y.size ≤ 600000 := by
            have h1 := replace_le tt.data.toList m1.data.toList
            rw [dl, dl] at h1
            rw [← hY, sz_mk]; omega
          have HYD : Hid (Y.data.toList = oneF fr.data.toList tt.data.toList x.data.toList) := by rw [Hid, HX1.out, ← hY]
          rw [hY] at HFL
          clear hY
          go_wp2_with (first
            | (go_at_call 31; refine HLN.out.mono ?_; rintro e w6 ⟨rfl, h6⟩; obtain rfl := h6.symm; simp only [])
            | (go_at_call 53; refine (HMT.out _ (HM.out _ HSO.out.old)).mono ?_; rintro e w8 ⟨rfl, n8, h8⟩; have HS8 := Lib.hid (HSO.out.below (wy := w8) (by rw [h8]; exact drew_below _ n8)); clear h8; simp only [])
            | (go_at_call 54; refine (HIS.out _).mono ?_; rintro e w9 ⟨rfl, h9⟩; obtain rfl := h9.symm; simp only [])
            | (go_at_call 56; refine (HFL.out _ (HM.out _ HS8.out.old)).mono ?_; rintro e w10 ⟨rfl, h10⟩; have HS10 := Lib.hid (HS8.out.below h10); clear h10; simp only []))
          have HWR := Lib.hid (HS10.out.bd.write HS10.out.sz Y (by first | omega | (simp; omega)))
          go_wp2_with (go_at_call 29; refine HWR.out.mono ?_; rintro e w11 ⟨rfl, h11, h11b, h11c⟩; have HS11 := Lib.hid (HS10.out.put h11b h11c h11); clear h11 h11b h11c; simp only [])
          go_roundw
          case measure => simp [intOf] <;> omega
          case rel => exact ⟨0 + 1, _, by go_num, by omega, by first | omega | (simp; omega), HS11.out, by rw [HYD.out]; exact HEV.out⟩
    · have hkd : decide ((0 : Int) < (k : Int)) = true := decide_eq_true (by omega)
      have HWB := Lib.hid (HS.out.bd.byte HS.out.sz 32 (by omega))
      rw [show (out ++ (if decide (k = 0) then [] else [32]) : Bs) = out ++ [32] by rw [decide_eq_false hkz]; rfl] at HEV
      cases is with
      | false =>
        have HX1 : Hid ((sw1 x fr tt).data.toList = oneF fr.data.toList tt.data.toList x.data.toList) := sw1_one (of_decide_eq_false HISS.out)
        obtain ⟨Y, hY⟩ : ∃ Y, sw1 x fr tt = Y := ⟨_, rfl⟩
        have hYs : Y.size ≤ 600000 := by
          have h1 := one_len fr.data.toList tt.data.toList x.data.toList
          rw [← HX1.out, hY, dl, dl, dl] at h1; omega
        have HSX := Lib.hid (fun g w hc => Swap1_any x fr tt g w (by omega) (by omega) hc)
        rw [hY] at HSX HX1
        clear hY
        go_wp2_with (first
          | (first | (go_at_call 31; refine HLN.out.mono ?_; rintro e w6 ⟨rfl, h6⟩; obtain rfl := h6.symm; simp only []) | (go_at_call 30; refine HWB.out.mono ?_; rintro e w7 ⟨rfl, h7, h7b, h7c⟩; have HSO := Lib.hid (HS.out.put h7b h7c h7); clear h7 h7b h7c; simp only []))
          | (go_at_call 53; refine (HMT.out _ (HM.out _ HSO.out.old)).mono ?_; rintro e w8 ⟨rfl, n8, h8⟩; have HS8 := Lib.hid (HSO.out.below (wy := w8) (by rw [h8]; exact drew_below _ n8)); clear h8; simp only [])
          | (go_at_call 54; refine (HIS.out _).mono ?_; rintro e w9 ⟨rfl, h9⟩; obtain rfl := h9.symm; simp only []))
        have HSA := Lib.hid (HS8.out.below ((Below.refl _ _).alloc (Nat.le_refl _) (.cells #[.string x] 9)))
        go_wp2_with (go_at_call 55; refine (HSX.out _ _ (by simp only [World.cell?, heap_alloc_new]; rfl)).mono ?_)
        rintro e w10 ⟨rfl, h10⟩
        have hc10 : w10.cell? ⟨w8.heap.size + 1, 0, none⟩ = some (.string Y) := by
          have := h10.1.cellAt 0 (by omega)
          simpa using this
        have HS10 := Lib.hid (HSA.out.below h10.2)
        have had0 := add0 (w8.alloc (.cells #[.string x] 9)).heap.size
        have HWR := Lib.hid (HS10.out.bd.write HS10.out.sz Y (by first | omega | (simp; omega)))
        clear h10
        simp only []
        go_wp2_with (go_at_call 29; refine HWR.out.mono ?_; rintro e w11 ⟨rfl, h11, h11b, h11c⟩; have HS11 := Lib.hid (HS10.out.put h11b h11c h11); clear h11 h11b h11c; simp only [])
        go_roundw
        case measure => simp [intOf] <;> omega
        case rel => exact ⟨k + 1, _, by go_num, by omega, by first | omega | (simp; omega), HS11.out, by rw [HX1.out]; exact HEV.out⟩
      | true =>
        cases m2 with
        | false =>
          have HX1 : Hid (oneF fr.data.toList tt.data.toList x.data.toList = x.data.toList) := by
            unfold oneF
            rw [Hid, if_pos (of_decide_eq_true HISS.out), if_neg (by rw [HMM.out, HM2.out]; decide)]
          go_wp2_with (first
            | (first | (go_at_call 31; refine HLN.out.mono ?_; rintro e w6 ⟨rfl, h6⟩; obtain rfl := h6.symm; simp only []) | (go_at_call 30; refine HWB.out.mono ?_; rintro e w7 ⟨rfl, h7, h7b, h7c⟩; have HSO := Lib.hid (HS.out.put h7b h7c h7); clear h7 h7b h7c; simp only []))
            | (go_at_call 53; refine (HMT.out _ (HM.out _ HSO.out.old)).mono ?_; rintro e w8 ⟨rfl, n8, h8⟩; have HS8 := Lib.hid (HSO.out.below (wy := w8) (by rw [h8]; exact drew_below _ n8)); clear h8; simp only [])
            | (go_at_call 54; refine (HIS.out _).mono ?_; rintro e w9 ⟨rfl, h9⟩; obtain rfl := h9.symm; simp only []))
          have HWR := Lib.hid (HS8.out.bd.write HS8.out.sz x (by first | omega | (simp; omega)))
          go_wp2_with (go_at_call 29; refine HWR.out.mono ?_; rintro e w11 ⟨rfl, h11, h11b, h11c⟩; have HS11 := Lib.hid (HS8.out.put h11b h11c h11); clear h11 h11b h11c; simp only [])
          go_roundw
          case measure => simp [intOf] <;> omega
          case rel => exact ⟨k + 1, _, by go_num, by omega, by first | omega | (simp; omega), HS11.out, by rw [← HX1.out]; exact HEV.out⟩
        | true =>
          have HX1 : Hid (oneF fr.data.toList tt.data.toList x.data.toList = Lib.replace tt.data.toList [37] m1.data.toList 1) := by
            unfold oneF
            rw [Hid, if_pos (of_decide_eq_true HISS.out), if_pos (by rw [HMM.out, HM2.out]), HMM.out, HM1.out]
          have HFL := Lib.hid (fun w hm => Fill_any tt m1 m w hm (by omega) (by omega))
          obtain ⟨Y, hY⟩ : ∃ Y, mk (Lib.replace tt.data.toList [37] m1.data.toList 1) = Y := ⟨_, rfl⟩
          have hYs : Y.size ≤ 600000 := by
            have h1 := replace_le tt.data.toList m1.data.toList
            rw [dl, dl] at h1
            rw [← hY, sz_mk]; omega
          have HYD : Hid (Y.data.toList = oneF fr.data.toList tt.data.toList x.data.toList) := by rw [Hid, HX1.out, ← hY]
          rw [hY] at HFL
          clear hY
          go_wp2_with (first
            | (first | (go_at_call 31; refine HLN.out.mono ?_; rintro e w6 ⟨rfl, h6⟩; obtain rfl := h6.symm; simp only []) | (go_at_call 30; refine HWB.out.mono ?_; rintro e w7 ⟨rfl, h7, h7b, h7c⟩; have HSO := Lib.hid (HS.out.put h7b h7c h7); clear h7 h7b h7c; simp only []))
            | (go_at_call 53; refine (HMT.out _ (HM.out _ HSO.out.old)).mono ?_; rintro e w8 ⟨rfl, n8, h8⟩; have HS8 := Lib.hid (HSO.out.below (wy := w8) (by rw [h8]; exact drew_below _ n8)); clear h8; simp only [])
            | (go_at_call 54; refine (HIS.out _).mono ?_; rintro e w9 ⟨rfl, h9⟩; obtain rfl := h9.symm; simp only [])
            | (go_at_call 56; refine (HFL.out _ (HM.out _ HS8.out.old)).mono ?_; rintro e w10 ⟨rfl, h10⟩; have HS10 := Lib.hid (HS8.out.below h10); clear h10; simp only []))
          have HWR := Lib.hid (HS10.out.bd.write HS10.out.sz Y (by first | omega | (simp; omega)))
          go_wp2_with (go_at_call 29; refine HWR.out.mono ?_; rintro e w11 ⟨rfl, h11, h11b, h11c⟩; have HS11 := Lib.hid (HS10.out.put h11b h11c h11); clear h11 h11b h11c; simp only [])
          go_roundw
          case measure => simp [intOf] <;> omega
          case rel => exact ⟨k + 1, _, by go_num, by omega, by first | omega | (simp; omega), HS11.out, by rw [HYD.out]; exact HEV.out⟩
end Go.Proofs.YthbemfpoanmjcaaDoor
