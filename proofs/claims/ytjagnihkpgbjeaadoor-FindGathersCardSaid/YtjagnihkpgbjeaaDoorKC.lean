import Derived.Test.YtjagnihkpgbjeaaDoorVX
import Derived.Deep.CutRange
namespace Go.Proofs.YtjagnihkpgbjeaaDoor
open Go.RowKit Go.Maps Go.ChangeMaps
set_option linter.unusedVariables false
/-! FindGathers: the walk. -/
def nfL (ls : Nat → List ByteArray) (i : Nat) : List Bs := (ls i).map (·.data.toList)
theorem nfL_len (ls : Nat → List ByteArray) (i : Nat) : (nfL ls i).length = (ls i).length := by unfold nfL; simp
theorem nfL_get (ls : Nat → List ByteArray) (i j : Nat) (h : j < (nfL ls i).length) (x : ByteArray) (hx : (ls i).getD j ⟨#[]⟩ = x) : (nfL ls i)[j] = x.data.toList := by
  have h' : j < (ls i).length := by rw [nfL_len] at h; exact h
  rw [← hx, List.getD_eq_getElem?_getD, List.getElem?_eq_getElem h']
  simp [nfL]
/-- How many are gathered at the most. -/
theorem gaP_ns_len (ls : Nat → List ByteArray) (rb : Nat → Bool) : ∀ k, (∀ j, j < k → (ls j).length ≤ 6) → (gaP (nfL ls) rb k).ns.length ≤ k * 6
  | 0, _ => by simp [gaP, planL, gaL]
  | k + 1, h => by
    rw [gaP_succ]
    have h1 := addF_len (nfL ls k) (gaP (nfL ls) rb k).ns
    have h2 := gaP_ns_len ls rb k (fun j hj => h j (by omega))
    have h3 := h k (by omega)
    rw [nfL_len] at h1
    show (addF _ _).length ≤ _
    omega
theorem ga_bx1 {wq w3 : World} (hb3 : Below (wq.alloc (.cells #[.slice none 0 0, .slice none 0 0, .string ⟨#[]⟩, .bool false] 50)).heap.size (wq.alloc (.cells #[.slice none 0 0, .slice none 0 0, .string ⟨#[]⟩, .bool false] 50)) w3) :
    w3.heap[wq.heap.size]? = some (.cells [.slice none 0 0, .slice none 0 0, .string ⟨#[]⟩, .bool false].toArray 50 (0, 0)) :=
  (hb3.block _ (by rw [size_alloc]; exact Nat.lt_succ_self _)).trans (heap_alloc_new wq _)
theorem ga_bx2 {w wq w3 : World} (hbq : Below (w.drew.alloc (.cells #[.slice none 0 0, .slice none 0 0, .string ⟨#[]⟩, .bool false] 50)).heap.size (w.drew.alloc (.cells #[.slice none 0 0, .slice none 0 0, .string ⟨#[]⟩, .bool false] 50)) wq) (hb3 : Below wq.heap.size wq w3) :
    w3.heap[w.heap.size]? = some (.cells [.slice none 0 0, .slice none 0 0, .string ⟨#[]⟩, .bool false].toArray 50 (0, 0)) :=
  have h1 : w.heap.size < wq.heap.size := Nat.lt_of_lt_of_le (by rw [size_alloc]; exact Nat.lt_succ_self _) hbq.size
  (hb3.block _ h1).trans ((hbq.block _ (by rw [size_alloc]; exact Nat.lt_succ_self _)).trans (heap_alloc_new w.drew _))
theorem ga_bx3 {w wq w3 : World} (hbq : Below (w.alloc (.cells #[.slice none 0 0, .slice none 0 0, .string ⟨#[]⟩, .bool false] 50)).drew.heap.size (w.alloc (.cells #[.slice none 0 0, .slice none 0 0, .string ⟨#[]⟩, .bool false] 50)).drew wq) (hb3 : Below wq.heap.size wq w3) :
    w3.heap[w.heap.size]? = some (.cells [.slice none 0 0, .slice none 0 0, .string ⟨#[]⟩, .bool false].toArray 50 (0, 0)) := by
  have h0 : w.heap.size < (w.alloc (.cells #[.slice none 0 0, .slice none 0 0, .string ⟨#[]⟩, .bool false] 50)).drew.heap.size := by show w.heap.size < (w.alloc _).heap.size; rw [size_alloc]; exact Nat.lt_succ_self _
  exact (hb3.block _ (Nat.lt_of_lt_of_le h0 hbq.size)).trans ((hbq.block _ h0).trans (heap_alloc_new w _))
/-- Behind the call of Plan: the plan's box, and what its recipe holds. -/
structure PB (wr W8 : World) (b8 : Nat) (nv v1 v2 v3 : Value) (ns rl : List Bs) (xa : Option Addr) : Prop where
  blk : W8.heap[b8]? = some (.cells [nv, v1, v2, v3].toArray 50 (0, 0))
  old : Below wr.heap.size wr W8
  ns : SlS W8 nv ns
  rc : ∀ x, rl = [x] → ∃ g off, xa = some ⟨g, off, none⟩ ∧ W8.cell? ⟨g, off, none⟩ = some (.string (nameB x))
theorem rc_at {w : World} {xa : Option Addr} {rn xc : Nat} {rl : List Bs} (h : SlS w (.slice xa rn xc) rl) (x : Bs) (hx : rl = [x]) : ∃ g off, xa = some ⟨g, off, none⟩ ∧ g < w.heap.size ∧ w.cell? ⟨g, off, none⟩ = some (.string (nameB x)) := by
  subst hx
  obtain ⟨g, off, e, hg, hc⟩ := strs_sl h (by simp)
  have h0 := hc 0 (by simp)
  exact ⟨g, off, e, hg, h0⟩
theorem pb_one {wr w3 : World} {nv v2 v3 : Value} {xa : Option Addr} {rn xc : Nat} {ns rl : List Bs} (hbw : Below wr.heap.size wr w3) (hn : SlS w3 nv ns) (hx : SlS w3 (.slice xa rn xc) rl) :
    PB wr (w3.alloc (.cells #[nv, .slice xa rn xc, v2, v3] 50)) w3.heap.size nv (.slice xa rn xc) v2 v3 ns rl xa :=
  ⟨heap_alloc_new w3 _, below_trans hbw (below_alloc _ _), hn.below (below_alloc _ _), fun x hr => by
    obtain ⟨g, off, e1, e2, e3⟩ := rc_at hx x hr
    exact ⟨g, off, e1, ((below_alloc _ _).cell (p := ⟨g, off, none⟩) e2).trans e3⟩⟩
theorem pb_two {wr w3 : World} {g : Nat} {nv v2 v3 : Value} {xa : Option Addr} {rn xc : Nat} {ns rl : List Bs} (hb : w3.heap[g]? = some (.cells [.slice none 0 0, .slice none 0 0, .string ⟨#[]⟩, .bool false].toArray 50 (0, 0))) (hg : wr.heap.size ≤ g)
    (hbw : Below wr.heap.size wr w3) (hn : SlS w3 nv ns) (hx : SlS w3 (.slice xa rn xc) rl) (hnb : ∀ j, nv.ownBlock = some j → j ≠ g) (hne : ∀ x, rl = [x] → x ≠ []) :
    PB wr ((((w3.setCell ⟨g, 0, none⟩ nv).setCell ⟨g, 1, none⟩ (.slice xa rn xc)).setCell ⟨g, 2, none⟩ v2).setCell ⟨g, 3, none⟩ v3) g nv (.slice xa rn xc) v2 v3 ns rl xa := by
  have ho : Only (fun j => j = g) w3 ((((w3.setCell ⟨g, 0, none⟩ nv).setCell ⟨g, 1, none⟩ (.slice xa rn xc)).setCell ⟨g, 2, none⟩ v2).setCell ⟨g, 3, none⟩ v3) :=
    ((((Only.refl (fun j => j = g) w3).set (.inl rfl) 0 _).set (.inl rfl) 1 _).set (.inl rfl) 2 _).set (.inl rfl) 3 _
  refine ⟨fin50 hb _ _ _ _, below_set (below_set (below_set (below_set hbw hg _ _) hg _ _) hg _ _) hg _ _, hn.only2 ho (fun j _ hj e => hnb j hj e), fun x hr => ?_⟩
  obtain ⟨gx, off, e1, e2, e3⟩ := rc_at hx x hr
  have hd : gx ≠ g := by
    intro e
    subst e
    have h4 : w3.cell? ⟨gx, off, none⟩ = [Value.slice none 0 0, .slice none 0 0, .string ⟨#[]⟩, .bool false][off]? := cell_of hb off
    rw [e3] at h4
    match off with
    | 0 => simp at h4
    | 1 => simp at h4
    | 2 =>
      have h5 : nameB x = ⟨#[]⟩ := by simpa using h4
      exact hne x hr (by have := congrArg (fun y : ByteArray => y.data.toList) h5; rw [nameB_list] at this; simpa using this)
    | 3 => simp at h4
    | (n + 4) => simp at h4
  exact ⟨gx, off, e1, by rw [World.cell?, ho.block gx e2 hd]; exact e3⟩
theorem ga_sz3 {w wq : World} {o : Obj} (hbq : Below (w.alloc o).drew.heap.size (w.alloc o).drew wq) : w.heap.size + 1 ≤ wq.heap.size := by
  have := hbq.size
  rw [show (w.alloc o).drew.heap.size = w.heap.size + 1 from size_alloc w o] at this
  exact this
theorem ga_sz2 {w3 wq : World} {o : Obj} {nv : Value} (hnb : ∀ g, nv.ownBlock = some g → (wq.alloc o).heap.size ≤ g) : ∀ g, nv.ownBlock = some g → g ≠ wq.heap.size := fun g hg e => by
  have := hnb g hg
  rw [size_alloc] at this
  omega
theorem nameB_of (x : ByteArray) : nameB x.data.toList = x := by unfold nameB; rfl
theorem SB.two (w : World) (a b : Bs) : SB (w.alloc (.cells #[.string (nameB a), .string (nameB b)] 9)) (.slice (some ⟨w.heap.size, 0, none⟩) 2 2) [a, b] :=
  .inr ⟨w.heap.size, rfl, heap_alloc_new w _, by simp⟩
structure Ga (w1 wx : World) (b6 : Nat) (want : Value) (ls : Nat → List ByteArray) (rb : Nat → Bool) (k : Nat) : Prop where
  gh : ∃ v, Gh w1 wx b6 v want (gaL (nfL ls) rb k) (gaP (nfL ls) rb k).ns
  few : ∀ j, j < k → (ls j).length ≤ 6
set_option maxRecDepth 100000 in
set_option maxHeartbeats 4000000 in
theorem gathers_walk (A R : Option Addr) (n c nr cr : Nat) (ls : Nat → List ByteArray) (rb : Nat → Bool) (W : World) (hm : Hm W)
    (hL : ∀ i, i < n → ∃ b off u, A = some ⟨b, off, none⟩ ∧ b < W.heap.size ∧ W.cell? ⟨b, off + i, none⟩ = some u ∧ Txt W u (ls i) ∧ SlE W u ((ls i).map (·.data.toList)))
    (hR : ∀ i, i < nr → ∃ b off, R = some ⟨b, off, none⟩ ∧ b < W.heap.size ∧ W.cell? ⟨b, off + i, none⟩ = some (.bool (rb i))) :
    Calls Tryd.prog 7 #[.slice A n c, .slice R nr cr] W fun e w' => e = .returned (.bool true) ∧ Below W.heap.size W w' := by
  have HAL := Lib.hid (alive25 W hm)
  have HL := Lib.hid hL
  have HR := Lib.hid hR
  clear hm hL hR
  by_cases h1 : 8 < n
  · have h1I : (8 : Int) < (n : Int) := by omega
    go_enter Tryd.func7, Tryd.ntmps7
    go_wp2_with (go_at_call 25; refine HAL.out.mono ?_; rintro e w1 ⟨rfl, h0⟩; have H0 := Lib.hid h0; clear h0; simp only [])
    go_ret
    exact ⟨rfl, H0.out⟩
  have h1I : ¬ (8 : Int) < (n : Int) := by omega
  by_cases h2 : nr < n
  · have h2I : (nr : Int) < (n : Int) := by omega
    go_enter Tryd.func7, Tryd.ntmps7
    go_wp2_with (go_at_call 25; refine HAL.out.mono ?_; rintro e w1 ⟨rfl, h0⟩; have H0 := Lib.hid h0; clear h0; simp only [])
    go_ret
    exact ⟨rfl, H0.out⟩
  have h2I : ¬ (nr : Int) < (n : Int) := by omega
  have HN3 : Hid (n ≤ 8) := by rw [Hid]; omega
  have HNR : Hid (n ≤ nr) := by rw [Hid]; omega
  go_enter Tryd.func7, Tryd.ntmps7
  go_wp2_with (go_at_call 25; refine HAL.out.mono ?_; rintro e w1 ⟨rfl, h0⟩; have H0 := Lib.hid h0; clear h0; simp only [])
  obtain ⟨w0, hw0⟩ : ∃ w0, w1.alloc (.cells #[.slice none 0 0, .slice none 0 0] 45) = w0 := ⟨_, rfl⟩
  have hs0 : w0.heap.size = w1.heap.size + 1 := by rw [← hw0, size_alloc]
  have hb0 : Below w1.heap.size w1 w0 := hw0 ▸ below_alloc _ _
  have hz4 : w0.heap[w1.heap.size]? = some (.cells [.slice none 0 0, .slice none 0 0].toArray 45 (0, 0)) := by rw [← hw0]; exact heap_alloc_new _ _
  have HST : Hid (Ga w1 w0 w1.heap.size (.slice none 0 0) ls rb 0) := ⟨⟨_, hz4, ⟨[], rfl, World.ownsRow_nil _ _ _ _, fun i h => absurd h (by simp [gaL])⟩, World.ownsRow_nil _ _ _ _, hb0, Nat.le_refl _⟩, fun j hj => absurd hj (by omega)⟩
  have HB0 := Lib.hid hb0
  have HS0 := Lib.hid hs0
  rw [hw0]
  clear hz4 hb0 hs0 hw0
  obtain ⟨b6, hb6⟩ : ∃ b6, w1.heap.size = b6 := ⟨_, rfl⟩
  have HB6 := Lib.hid hb6
  rw [hb6] at HST HS0
  simp only [hb6]
  clear hb6
  go_loopw [7, 8, 9] (fun vq vl i wr => ∃ (k : Nat) (qa : Option Addr) (qc : Nat), k ≤ n ∧ vq = .slice qa (gaP (nfL ls) rb k).ns.length qc ∧ vl = .string (nameB (lastL rb k)) ∧ i = .int .i64 k ∧ Hid (Ga w1 wr b6 (.slice qa (gaP (nfL ls) rb k).ns.length qc) ls rb k)) (fun _ _ i _ => n - (intOf i).toNat)
  case atStart => exact ⟨0, none, 0, Nat.zero_le _, rfl, rfl, rfl, HST.out⟩
  case round =>
    obtain ⟨k, qa, qc, hk, rfl, rfl, rfl, HG⟩ := hrel
    clear HST
    obtain ⟨v, hgh⟩ := HG.out.gh
    have HGH := Lib.hid hgh
    have HFEW := Lib.hid HG.out.few
    have hq1 : wr.cell? ⟨b6, 1, none⟩ = some v := cell_of hgh.blk 1
    have hlb : b6 < wr.heap.size := (Array.getElem?_eq_some_iff.1 hgh.blk).1
    have HOW : Hid (Below W.heap.size W wr) := below_trans H0.out (hgh.old)
    have HWL := Lib.hid (gaP_ns_len ls rb k HG.out.few)
    clear hgh HG
    by_cases hlt : k < n
    · have hltI : (k : Int) < (n : Int) := by omega
      have hk0 : (0 : Int) ≤ (k : Int) := by omega
      obtain ⟨ab, ao, u, rfl, hab, hcu, htx, hsle⟩ := HL.out k hlt
      obtain ⟨rbb, ro, rfl, hrb, hcr⟩ := HR.out k (by have := HNR.out; omega)
      obtain ⟨ua, uc, hu, hux⟩ := htx.form
      subst hu
      have hcu2 := (HOW.out.cell (p := ⟨ab, ao + k, none⟩) hab).trans hcu
      have hcr2 := (HOW.out.cell (p := ⟨rbb, ro + k, none⟩) hrb).trans hcr
      have hab2 : ab < wr.heap.size := Nat.lt_of_lt_of_le hab HOW.out.size
      have hrb2 : rbb < wr.heap.size := Nat.lt_of_lt_of_le hrb HOW.out.size
      have HAB := Lib.hid hab
      clear hab hrb
      have hadd := addk ab ao k
      have hadr := addk rbb ro k
      by_cases h6 : 6 < (ls k).length
      · have h6I : (6 : Int) < ((ls k).length : Int) := by omega
        go_wp2_with fail
        go_ret
        exact ⟨rfl, HOW.out⟩
      · have h6I : ¬ (6 : Int) < ((ls k).length : Int) := by omega
        obtain ⟨m, hm⟩ : ∃ m, (ls k).length = m := ⟨_, rfl⟩
        rw [hm] at h6 h6I hcu hcu2 hsle
        have HM := Lib.hid hm
        have HUX : Hid (∀ i, i < m → ∃ b off, ua = some ⟨b, off, none⟩ ∧ b < W.heap.size ∧ W.cell? ⟨b, off + i, none⟩ = some (.string ((ls k).getD i ⟨#[]⟩))) := fun i hi => by
          obtain ⟨b, off, e1, e2, e3⟩ := hux i (by omega)
          exact ⟨b, off, e1, e2, by rw [e3, List.getD_eq_getElem?_getD, List.getElem?_eq_getElem (by omega)]; rfl⟩
        have HSLE : Hid (SlE w1 (.slice ua m uc) (nfL ls k)) := hsle.below H0.out
        have HCU := Lib.hid hcu2
        have HFK : Hid (∀ j, j < k + 1 → (ls j).length ≤ 6) := fun j hj => by
          by_cases e : j = k
          · subst e; have := HM.out; omega
          · exact HFEW.out j (by omega)
        obtain ⟨t, ht⟩ : ∃ t, rb k = t := ⟨_, rfl⟩
        rw [ht] at hcr2
        have HT := Lib.hid ht
        have HVQ : Hid (∀ g, Value.ownBlock (.slice qa (gaP (nfL ls) rb k).ns.length qc) = some g → g < wr.heap.size) := fun g hg => (HGH.out.want.lt g hg).2
        clear hux hsle htx ht hm hcr
        obtain ⟨M, hM⟩ : ∃ M, (gaP (nfL ls) rb k).ns.length = M := ⟨_, rfl⟩
        rw [hM] at HVQ HGH HWL
        have HMM := Lib.hid hM
        simp only [hM]
        clear hM
        have pab : (⟨#[97]⟩ : ByteArray) = nameB [97] := rfl
        have pbb : (⟨#[98]⟩ : ByteArray) = nameB [98] := rfl
        have HCW := Lib.hid hcu
        cases t with
        | false =>
          go_upto_region 16 with fail
          obtain ⟨wp, hwp⟩ : ∃ wp, (wr.alloc (.cells #[.string (nameB [97]), .string (nameB [98])] 9)).alloc (.cells #[.slice (some ⟨wr.heap.size, 0, none⟩) 2 2, .slice ua m uc, .slice none 0 0] 48) = wp := ⟨_, rfl⟩
          have hbp : Below wr.heap.size wr wp := hwp ▸ below_trans (below_alloc _ _) (below_alloc _ _)
          have hszp : wp.heap.size = wr.heap.size + 1 + 1 := by rw [← hwp]; simp only [size_alloc]
          have hsb : SB wp (.slice (some ⟨wr.heap.size, 0, none⟩) 2 2) [[97], [98]] := hwp ▸ (SB.two wr [97] [98]).below (below_alloc _ _)
          have hbx : wp.heap[wr.heap.size + 1]? = some (.cells [.slice (some ⟨wr.heap.size, 0, none⟩) 2 2, .slice ua m uc, .slice none 0 0].toArray 48 (0, 0)) := by
            rw [← hwp]
            have := heap_alloc_new (wr.alloc (.cells #[.string (nameB [97]), .string (nameB [98])] 9)) (.cells #[.slice (some ⟨wr.heap.size, 0, none⟩) 2 2, .slice ua m uc, .slice none 0 0] 48)
            rw [size_alloc] at this; exact this
          have hsc : SB wp (.slice none 0 0) [] := SB.nil _
          have hscb : ∀ g, Value.ownBlock (.slice none 0 0) = some g → g < wp.heap.size ∧ wr.heap.size ≤ g := fun g hg => by cases hg
          have e : gaR (nfL ls) rb k = ⟨[[97], [98]], nfL ls k, []⟩ := by unfold gaR; rw [HT.out]; rfl
          have hLS : lastL rb (k + 1) = lastL rb k := by rw [lastL, HT.out]; rfl
          have HRA : Hid (RA w1 wp (.slice qa M qc) (.slice (some ⟨wr.heap.size, 0, none⟩) 2 2, .slice ua m uc, .slice none 0 0) (gaR (nfL ls) rb k)) := by
            rw [e]
            refine ⟨hsb, HSLE.out, hsc, fun g hg => ?_, (fun g hg => ⟨(hscb g hg).1, fun e3 => by have := HVQ.out g e3; have := (hscb g hg).2; omega⟩), by show (nfL ls k).length ≤ 1000; rw [nfL_len, HM.out]; omega⟩
            have e2 : wr.heap.size = g := by injection hg
            exact ⟨by omega, fun e3 => by have := HVQ.out g e3; omega⟩
          have HGP : Hid (Gh w1 wp b6 v (.slice qa M qc) (gaL (nfL ls) rb k) (gaP (nfL ls) rb k).ns) := HGH.out.below hbp
          have cq1 : wp.cell? ⟨b6, 1, none⟩ = some v := cell_of HGP.out.blk 1
          obtain ⟨bx, hbxe⟩ : ∃ bx, wr.heap.size + 1 = bx := ⟨_, rfl⟩
          rw [hbxe] at hbx
          have c0 : wp.cell? ⟨bx, 0, none⟩ = some (.slice (some ⟨wr.heap.size, 0, none⟩) 2 2) := cell_of hbx 0
          have c1 : wp.cell? ⟨bx, 1, none⟩ = some (.slice ua m uc) := cell_of hbx 1
          have c2 : wp.cell? ⟨bx, 2, none⟩ = some (.slice none 0 0) := cell_of hbx 2
          rw [hwp]
          simp only [hbxe] at HRA ⊢
          have HLS := Lib.hid hLS
          clear hbp hszp hsb hbx hbxe hwp hLS hq1 hcu2 hcr2 hsc hscb e
          have HRUNG := HGP.out.push k (gaL_len _ _ _) (by have := HN3.out; omega) _ _ _ (gaR (nfL ls) rb k) HRA.out ⟨_, _, _, rfl⟩
          obtain ⟨v', w3, hrun, hb3, hf3, ⟨gv, cv, rfl⟩, hgr⟩ := HRUNG
          rw [← gaL_succ] at hgr
          have HRUN := Lib.hid hrun
          have HGR := Lib.hid hgr
          clear hrun hgr
          go_upto_region 17 with (at_builtin; refine wpList_run_append _ rfl _ _ 43 43 rfl _ _ rfl rfl HRUN.out ?_)
          obtain ⟨W4, hW4⟩ : ∃ W4, w3.setCell ⟨b6, 1, none⟩ (.slice (some ⟨gv, 0, none⟩) (k + 1) cv) = W4 := ⟨_, rfl⟩
          rw [hW4] at HGR ⊢
          clear hW4 hb3 hf3 c0 c1 c2 cq1
          go_wp2_with fail
          obtain ⟨N0, hN0⟩ : ∃ N0, (gaP (nfL ls) rb k).ns = N0 := ⟨_, rfl⟩
          have HN0 := Lib.hid hN0
          rw [hN0] at HGR HMM
          clear hN0
          have HWL' : Hid (M ≤ 48) := Nat.le_trans HWL.out (by have := HN3.out; omega)
          go_loopw [7, 11] (fun vq i wr => ∃ (j : Nat) (ja : Option Addr) (jm jc : Nat), j ≤ m ∧ vq = .slice ja jm jc ∧ i = .int .i64 j ∧ Hid ((addF N0 ((nfL ls k).take j)).length = jm) ∧ Hid (Gh w1 wr b6 (.slice (some ⟨gv, 0, none⟩) (k + 1) cv) (.slice ja jm jc) (gaL (nfL ls) rb (k + 1)) (addF N0 ((nfL ls k).take j)))) (fun _ i _ => m - (intOf i).toNat)
          case atStart => exact ⟨0, qa, M, qc, Nat.zero_le _, rfl, rfl, HMM.out, HGR.out⟩
          case round =>
            obtain ⟨j, ja, jm, jc, hj, rfl, rfl, HJM, HGJ⟩ := hrel
            clear HGR HRUN HGP HRA
            have HOX : Hid (Below W.heap.size W wr) := below_trans H0.out (HGJ.out.old)
            have hcux := (HOX.out.cell (p := ⟨ab, ao + k, none⟩) HAB.out).trans HCW.out
            have habx : ab < wr.heap.size := Nat.lt_of_lt_of_le HAB.out HOX.out.size
            by_cases hjlt : j < m
            · have hjI : (j : Int) < (m : Int) := by omega
              have hj0 : (0 : Int) ≤ (j : Int) := by omega
              obtain ⟨ub, uo, rfl, hub, hcx⟩ := HUX.out j hjlt
              obtain ⟨x, hx⟩ : ∃ x, (ls k).getD j ⟨#[]⟩ = x := ⟨_, rfl⟩
              rw [hx] at hcx
              have hjl : j < (nfL ls k).length := by rw [nfL_len, HM.out]; exact hjlt
              have HXE : Hid ((nfL ls k)[j] = x.data.toList) := nfL_get ls k j hjl x hx
              have HCX := Lib.hid hcx
              have HUB := Lib.hid hub
              have hadx := addk ub uo j
              clear hx hcx hub
              obtain ⟨LL, hLL⟩ : ∃ LL, addF N0 ((nfL ls k).take j) = LL := ⟨_, rfl⟩
              have HLL := Lib.hid hLL
              rw [hLL] at HJM HGJ
              clear hLL
              have HLE : Hid (LL.length ≤ 1000) := by
                have h1 := addF_len ((nfL ls k).take j) N0
                rw [HLL.out] at h1
                have h2 := HWL'.out
                have h3 := HMM.out
                have h4 : ((nfL ls k).take j).length ≤ j := by simp; omega
                show LL.length ≤ 1000
                omega
              have HJMB : Hid (jm ≤ 1000) := by have := HLE.out; have := HJM.out; show jm ≤ 1000; omega
              go_wp2_with fail
              go_loopw [12, 13] (fun is i wr => ∃ q : Nat, q ≤ jm ∧ i = .int .i64 q ∧ is = .bool ((LL.take q).contains x.data.toList) ∧ Hid (Gh w1 wr b6 (.slice (some ⟨gv, 0, none⟩) (k + 1) cv) (.slice ja jm jc) (gaL (nfL ls) rb (k + 1)) LL)) (fun _ i _ => jm - (intOf i).toNat)
              case atStart => exact ⟨0, Nat.zero_le _, rfl, by simp, HGJ.out⟩
              case round =>
                obtain ⟨q, hq, rfl, rfl, HGY⟩ := hrel
                have HOY : Hid (Below W.heap.size W wr) := below_trans H0.out (HGY.out.old)
                have hcux := (HOY.out.cell (p := ⟨ab, ao + k, none⟩) HAB.out).trans HCW.out
                have hcx := (HOY.out.cell (p := ⟨ub, uo + j, none⟩) HUB.out).trans HCX.out
                have habx : ab < wr.heap.size := Nat.lt_of_lt_of_le HAB.out HOY.out.size
                have hubx : ub < wr.heap.size := Nat.lt_of_lt_of_le HUB.out HOY.out.size
                by_cases hqlt : q < jm
                · have hqI : (q : Int) < (jm : Int) := by omega
                  have hq0 : (0 : Int) ≤ (q : Int) := by omega
                  have hqb : (q : Int) ≤ 1000 := by have := HJMB.out; omega
                  have hql : q < LL.length := by rw [HJM.out]; exact hqlt
                  obtain ⟨g, off, rfl, hgl, hc⟩ := strs_sl (HGY.out.wsl) (by omega)
                  have hcq := hc q hql
                  rw [show encStr LL[q] = .string (nameB LL[q]) from rfl] at hcq
                  have hadq := addk g off q
                  have hTK : LL.take (q + 1) = LL.take q ++ [LL[q]] := List.take_succ_eq_append_getElem hql
                  obtain ⟨S, hS⟩ : ∃ S, nameB LL[q] = S := ⟨_, rfl⟩
                  rw [hS] at hcq
                  have HGD := Lib.hid (fun mm => HGY.out.below (below_drewN (Below.refl wr.heap.size wr) mm))
                  obtain ⟨b, hb⟩ : ∃ b, (LL.take q).contains x.data.toList = b := ⟨_, rfl⟩
                  have HTK : Hid ((LL.take (q + 1)).contains x.data.toList = (b || decide (S = x))) := by
                    rw [Hid, hTK, List.contains_append, hb]
                    congr 1
                    by_cases e : S = x
                    · rw [decide_eq_true e]
                      have : LL[q] = x.data.toList := by rw [← e, ← hS]; unfold nameB; simp
                      rw [this]; simp
                    · rw [decide_eq_false e]
                      have : ¬ LL[q] = x.data.toList := fun e2 => e (by rw [← hS, e2, nameB_of])
                      simp only [List.contains_cons, List.contains_nil, Bool.or_false]
                      exact beq_false_of_ne (fun e3 => this e3.symm)
                  rw [hb]
                  clear hb hS hc hTK
                  cases b with
                  | true =>
                    go_wp2_with fail
                    go_quiet (fail)
                    go_wp2_with fail
                    exact ⟨⟨q + 1, by omega, by go_num, by rw [HTK.out]; rfl, HGD.out _⟩, by simp [intOf]; omega⟩
                  | false =>
                    by_cases hSx : S = x
                    · subst hSx
                      go_wp2_with fail
                      go_quiet (fail)
                      go_wp2_with fail
                      exact ⟨⟨q + 1, by omega, by go_num, by rw [HTK.out]; simp, HGD.out _⟩, by simp [intOf]; omega⟩
                    · have hSx2 : (S.toList == x.toList) = false := by
                        rw [beq_eq_false_iff_ne, Lib.toList_data, Lib.toList_data]
                        intro e
                        exact hSx (by rw [← nameB_of S, ← nameB_of x, e])
                      go_wp2_with fail
                      go_quiet (fail)
                      go_wp2_with fail
                      exact ⟨⟨q + 1, by omega, by go_num, by rw [HTK.out, decide_eq_false hSx]; rfl, HGD.out _⟩, by simp [intOf]; omega⟩
                · have hqI : ¬ (q : Int) < (jm : Int) := by omega
                  have hqe : LL.take q = LL := List.take_of_length_le (by rw [HJM.out]; omega)
                  rw [hqe]
                  obtain ⟨b, hb⟩ : ∃ b, LL.contains x.data.toList = b := ⟨_, rfl⟩
                  have HNX : Hid (addF N0 ((nfL ls k).take (j + 1)) = if b then LL else LL ++ [x.data.toList]) := by
                    rw [Hid, addF_take N0 (nfL ls k) j hjl b (by rw [HLL.out, HXE.out]; exact hb), HLL.out, HXE.out]
                  rw [hb]
                  clear hb hqe
                  cases b with
                  | true =>
                    go_wp2_with fail
                    exact ⟨⟨j + 1, ja, jm, jc, by omega, rfl, by go_num, by rw [HNX.out]; exact HJM.out, by rw [HNX.out]; exact HGY.out⟩, by simp [intOf]; omega⟩
                  | false =>
                    obtain ⟨na, nc2, w5, hrun5, hg5⟩ := HGY.out.wpush x.data.toList HLE.out
                    rw [nameB_of] at hrun5
                    rw [HJM.out] at hrun5 hg5
                    have HRUN5 := Lib.hid hrun5
                    have HG5 := Lib.hid hg5
                    clear hrun5 hg5
                    go_wp2_with (at_builtin; refine wpList_run_append _ rfl _ _ 29 29 rfl _ _ rfl rfl HRUN5.out ?_)
                    exact ⟨⟨j + 1, na, jm + 1, nc2, by omega, rfl, by go_num, by rw [HNX.out]; show (LL ++ [_]).length = _; rw [List.length_append, HJM.out]; rfl, by rw [HNX.out]; exact HG5.out⟩, by simp [intOf]; omega⟩
            · have hjI : ¬ (j : Int) < (m : Int) := by omega
              have hjm : (nfL ls k).take j = nfL ls k := List.take_of_length_le (by rw [nfL_len, HM.out]; omega)
              rw [hjm] at HJM HGJ
              have hns : (gaP (nfL ls) rb (k + 1)).ns = addF N0 (nfL ls k) := by rw [gaP_succ, HN0.out]
              have HGE : Hid (Ga w1 wr b6 (.slice ja jm jc) ls rb (k + 1)) := ⟨⟨_, by rw [hns]; exact HGJ.out⟩, HFK.out⟩
              have hjl2 : jm = (gaP (nfL ls) rb (k + 1)).ns.length := by rw [hns]; exact HJM.out.symm
              subst hjl2
              have HLSK := HLS
              clear hns hjm HGJ HJM
              go_wp2_with fail
              refine ⟨⟨k + 1, ja, jc, by omega, rfl, by rw [HLS.out], by go_num, HGE.out⟩, by simp [intOf]; omega⟩
        | true =>
          have HD := Lib.hid (fun w => Digits_any k (by have := HN3.out; omega) w)
          have e3 : (⟨#[114]⟩ : ByteArray) ++ nameB (dg k) = nameB (114 :: dg k) := nameB_app [114] (dg k)
          have hsD : (nameB (dg k)).size ≤ 2 := by rw [nameB_size]; exact dg_len _
          obtain ⟨D, hD⟩ : ∃ D, nameB (dg k) = D := ⟨_, rfl⟩
          rw [hD] at HD e3 hsD
          obtain ⟨LT, hLT⟩ : ∃ D, nameB (114 :: dg k) = D := ⟨_, rfl⟩
          rw [hLT] at e3
          have g1 : ¬ (9223372036854775807 < 1 + D.size) := by omega
          have HLTT := Lib.hid hLT
          clear hD hLT hsD
          go_upto_region 16 with (go_at_call 26; ((with_reducible refine (HD.out _).mono ?_)); rintro e w5 ⟨rfl, h5⟩; obtain rfl := h5.symm; simp only [])
          obtain ⟨wp, hwp⟩ : ∃ wp, ((wr.alloc (.cells #[.string (nameB [97]), .string (nameB [98])] 9)).alloc (.cells #[.slice (some ⟨wr.heap.size, 0, none⟩) 2 2, .slice ua m uc, .slice (some ⟨wr.heap.size + 1 + 1, 0, none⟩) 1 1] 48)).alloc (.cells #[.string LT] 9) = wp := ⟨_, rfl⟩
          have hbp : Below wr.heap.size wr wp := hwp ▸ below_trans (below_alloc _ _) (below_trans (below_alloc _ _) (below_alloc _ _))
          have hszp : wp.heap.size = wr.heap.size + 1 + 1 + 1 := by rw [← hwp]; simp only [size_alloc]
          have hsb : SB wp (.slice (some ⟨wr.heap.size, 0, none⟩) 2 2) [[97], [98]] := hwp ▸ (SB.two wr [97] [98]).below (below_trans (below_alloc _ _) (below_alloc _ _))
          have hbx : wp.heap[wr.heap.size + 1]? = some (.cells [.slice (some ⟨wr.heap.size, 0, none⟩) 2 2, .slice ua m uc, .slice (some ⟨wr.heap.size + 1 + 1, 0, none⟩) 1 1].toArray 48 (0, 0)) := by
            rw [← hwp, Below.heap_alloc _ _ _ (by rw [size_alloc, size_alloc]; omega)]
            have := heap_alloc_new (wr.alloc (.cells #[.string (nameB [97]), .string (nameB [98])] 9)) (.cells #[.slice (some ⟨wr.heap.size, 0, none⟩) 2 2, .slice ua m uc, .slice (some ⟨wr.heap.size + 1 + 1, 0, none⟩) 1 1] 48)
            rw [size_alloc] at this; exact this
          have hsc : SB wp (.slice (some ⟨wr.heap.size + 1 + 1, 0, none⟩) 1 1) [114 :: dg k] := by
            rw [← hwp, ← HLTT.out]
            have := SB.one ((wr.alloc (.cells #[.string (nameB [97]), .string (nameB [98])] 9)).alloc (.cells #[.slice (some ⟨wr.heap.size, 0, none⟩) 2 2, .slice ua m uc, .slice (some ⟨wr.heap.size + 1 + 1, 0, none⟩) 1 1] 48)) (114 :: dg k)
            simp only [size_alloc] at this
            exact this
          have hscb : ∀ g, Value.ownBlock (.slice (some ⟨wr.heap.size + 1 + 1, 0, none⟩) 1 1) = some g → g < wp.heap.size ∧ wr.heap.size ≤ g := fun g hg => by
            have e2 : wr.heap.size + 1 + 1 = g := by injection hg
            omega
          have e : gaR (nfL ls) rb k = ⟨[[97], [98]], nfL ls k, [114 :: dg k]⟩ := by unfold gaR; rw [HT.out]; rfl
          have hLS : nameB (lastL rb (k + 1)) = LT := by rw [lastL, HT.out, ← HLTT.out]; rfl
          have HRA : Hid (RA w1 wp (.slice qa M qc) (.slice (some ⟨wr.heap.size, 0, none⟩) 2 2, .slice ua m uc, .slice (some ⟨wr.heap.size + 1 + 1, 0, none⟩) 1 1) (gaR (nfL ls) rb k)) := by
            rw [e]
            refine ⟨hsb, HSLE.out, hsc, fun g hg => ?_, (fun g hg => ⟨(hscb g hg).1, fun e3 => by have := HVQ.out g e3; have := (hscb g hg).2; omega⟩), by show (nfL ls k).length ≤ 1000; rw [nfL_len, HM.out]; omega⟩
            have e2 : wr.heap.size = g := by injection hg
            exact ⟨by omega, fun e3 => by have := HVQ.out g e3; omega⟩
          have HGP : Hid (Gh w1 wp b6 v (.slice qa M qc) (gaL (nfL ls) rb k) (gaP (nfL ls) rb k).ns) := HGH.out.below hbp
          have cq1 : wp.cell? ⟨b6, 1, none⟩ = some v := cell_of HGP.out.blk 1
          obtain ⟨bx, hbxe⟩ : ∃ bx, wr.heap.size + 1 = bx := ⟨_, rfl⟩
          rw [hbxe] at hbx
          have c0 : wp.cell? ⟨bx, 0, none⟩ = some (.slice (some ⟨wr.heap.size, 0, none⟩) 2 2) := cell_of hbx 0
          have c1 : wp.cell? ⟨bx, 1, none⟩ = some (.slice ua m uc) := cell_of hbx 1
          have c2 : wp.cell? ⟨bx, 2, none⟩ = some (.slice (some ⟨bx + 1, 0, none⟩) 1 1) := cell_of hbx 2
          rw [hwp]
          simp only [hbxe] at HRA ⊢
          have HLS := Lib.hid hLS
          clear hbp hszp hsb hbx hbxe hwp hLS hq1 hcu2 hcr2 hsc hscb e
          have HRUNG := HGP.out.push k (gaL_len _ _ _) (by have := HN3.out; omega) _ _ _ (gaR (nfL ls) rb k) HRA.out ⟨_, _, _, rfl⟩
          obtain ⟨v', w3, hrun, hb3, hf3, ⟨gv, cv, rfl⟩, hgr⟩ := HRUNG
          rw [← gaL_succ] at hgr
          have HRUN := Lib.hid hrun
          have HGR := Lib.hid hgr
          clear hrun hgr
          go_upto_region 17 with (at_builtin; refine wpList_run_append _ rfl _ _ 43 43 rfl _ _ rfl rfl HRUN.out ?_)
          obtain ⟨W4, hW4⟩ : ∃ W4, w3.setCell ⟨b6, 1, none⟩ (.slice (some ⟨gv, 0, none⟩) (k + 1) cv) = W4 := ⟨_, rfl⟩
          rw [hW4] at HGR ⊢
          clear hW4 hb3 hf3 c0 c1 c2 cq1
          go_wp2_with fail
          obtain ⟨N0, hN0⟩ : ∃ N0, (gaP (nfL ls) rb k).ns = N0 := ⟨_, rfl⟩
          have HN0 := Lib.hid hN0
          rw [hN0] at HGR HMM
          clear hN0
          have HWL' : Hid (M ≤ 48) := Nat.le_trans HWL.out (by have := HN3.out; omega)
          go_loopw [7, 11] (fun vq i wr => ∃ (j : Nat) (ja : Option Addr) (jm jc : Nat), j ≤ m ∧ vq = .slice ja jm jc ∧ i = .int .i64 j ∧ Hid ((addF N0 ((nfL ls k).take j)).length = jm) ∧ Hid (Gh w1 wr b6 (.slice (some ⟨gv, 0, none⟩) (k + 1) cv) (.slice ja jm jc) (gaL (nfL ls) rb (k + 1)) (addF N0 ((nfL ls k).take j)))) (fun _ i _ => m - (intOf i).toNat)
          case atStart => exact ⟨0, qa, M, qc, Nat.zero_le _, rfl, rfl, HMM.out, HGR.out⟩
          case round =>
            obtain ⟨j, ja, jm, jc, hj, rfl, rfl, HJM, HGJ⟩ := hrel
            clear HGR HRUN HGP HRA
            have HOX : Hid (Below W.heap.size W wr) := below_trans H0.out (HGJ.out.old)
            have hcux := (HOX.out.cell (p := ⟨ab, ao + k, none⟩) HAB.out).trans HCW.out
            have habx : ab < wr.heap.size := Nat.lt_of_lt_of_le HAB.out HOX.out.size
            by_cases hjlt : j < m
            · have hjI : (j : Int) < (m : Int) := by omega
              have hj0 : (0 : Int) ≤ (j : Int) := by omega
              obtain ⟨ub, uo, rfl, hub, hcx⟩ := HUX.out j hjlt
              obtain ⟨x, hx⟩ : ∃ x, (ls k).getD j ⟨#[]⟩ = x := ⟨_, rfl⟩
              rw [hx] at hcx
              have hjl : j < (nfL ls k).length := by rw [nfL_len, HM.out]; exact hjlt
              have HXE : Hid ((nfL ls k)[j] = x.data.toList) := nfL_get ls k j hjl x hx
              have HCX := Lib.hid hcx
              have HUB := Lib.hid hub
              have hadx := addk ub uo j
              clear hx hcx hub
              obtain ⟨LL, hLL⟩ : ∃ LL, addF N0 ((nfL ls k).take j) = LL := ⟨_, rfl⟩
              have HLL := Lib.hid hLL
              rw [hLL] at HJM HGJ
              clear hLL
              have HLE : Hid (LL.length ≤ 1000) := by
                have h1 := addF_len ((nfL ls k).take j) N0
                rw [HLL.out] at h1
                have h2 := HWL'.out
                have h3 := HMM.out
                have h4 : ((nfL ls k).take j).length ≤ j := by simp; omega
                show LL.length ≤ 1000
                omega
              have HJMB : Hid (jm ≤ 1000) := by have := HLE.out; have := HJM.out; show jm ≤ 1000; omega
              go_wp2_with fail
              go_loopw [12, 13] (fun is i wr => ∃ q : Nat, q ≤ jm ∧ i = .int .i64 q ∧ is = .bool ((LL.take q).contains x.data.toList) ∧ Hid (Gh w1 wr b6 (.slice (some ⟨gv, 0, none⟩) (k + 1) cv) (.slice ja jm jc) (gaL (nfL ls) rb (k + 1)) LL)) (fun _ i _ => jm - (intOf i).toNat)
              case atStart => exact ⟨0, Nat.zero_le _, rfl, by simp, HGJ.out⟩
              case round =>
                obtain ⟨q, hq, rfl, rfl, HGY⟩ := hrel
                have HOY : Hid (Below W.heap.size W wr) := below_trans H0.out (HGY.out.old)
                have hcux := (HOY.out.cell (p := ⟨ab, ao + k, none⟩) HAB.out).trans HCW.out
                have hcx := (HOY.out.cell (p := ⟨ub, uo + j, none⟩) HUB.out).trans HCX.out
                have habx : ab < wr.heap.size := Nat.lt_of_lt_of_le HAB.out HOY.out.size
                have hubx : ub < wr.heap.size := Nat.lt_of_lt_of_le HUB.out HOY.out.size
                by_cases hqlt : q < jm
                · have hqI : (q : Int) < (jm : Int) := by omega
                  have hq0 : (0 : Int) ≤ (q : Int) := by omega
                  have hqb : (q : Int) ≤ 1000 := by have := HJMB.out; omega
                  have hql : q < LL.length := by rw [HJM.out]; exact hqlt
                  obtain ⟨g, off, rfl, hgl, hc⟩ := strs_sl (HGY.out.wsl) (by omega)
                  have hcq := hc q hql
                  rw [show encStr LL[q] = .string (nameB LL[q]) from rfl] at hcq
                  have hadq := addk g off q
                  have hTK : LL.take (q + 1) = LL.take q ++ [LL[q]] := List.take_succ_eq_append_getElem hql
                  obtain ⟨S, hS⟩ : ∃ S, nameB LL[q] = S := ⟨_, rfl⟩
                  rw [hS] at hcq
                  have HGD := Lib.hid (fun mm => HGY.out.below (below_drewN (Below.refl wr.heap.size wr) mm))
                  obtain ⟨b, hb⟩ : ∃ b, (LL.take q).contains x.data.toList = b := ⟨_, rfl⟩
                  have HTK : Hid ((LL.take (q + 1)).contains x.data.toList = (b || decide (S = x))) := by
                    rw [Hid, hTK, List.contains_append, hb]
                    congr 1
                    by_cases e : S = x
                    · rw [decide_eq_true e]
                      have : LL[q] = x.data.toList := by rw [← e, ← hS]; unfold nameB; simp
                      rw [this]; simp
                    · rw [decide_eq_false e]
                      have : ¬ LL[q] = x.data.toList := fun e2 => e (by rw [← hS, e2, nameB_of])
                      simp only [List.contains_cons, List.contains_nil, Bool.or_false]
                      exact beq_false_of_ne (fun e3 => this e3.symm)
                  rw [hb]
                  clear hb hS hc hTK
                  cases b with
                  | true =>
                    go_wp2_with fail
                    go_quiet (fail)
                    go_wp2_with fail
                    exact ⟨⟨q + 1, by omega, by go_num, by rw [HTK.out]; rfl, HGD.out _⟩, by simp [intOf]; omega⟩
                  | false =>
                    by_cases hSx : S = x
                    · subst hSx
                      go_wp2_with fail
                      go_quiet (fail)
                      go_wp2_with fail
                      exact ⟨⟨q + 1, by omega, by go_num, by rw [HTK.out]; simp, HGD.out _⟩, by simp [intOf]; omega⟩
                    · have hSx2 : (S.toList == x.toList) = false := by
                        rw [beq_eq_false_iff_ne, Lib.toList_data, Lib.toList_data]
                        intro e
                        exact hSx (by rw [← nameB_of S, ← nameB_of x, e])
                      go_wp2_with fail
                      go_quiet (fail)
                      go_wp2_with fail
                      exact ⟨⟨q + 1, by omega, by go_num, by rw [HTK.out, decide_eq_false hSx]; rfl, HGD.out _⟩, by simp [intOf]; omega⟩
                · have hqI : ¬ (q : Int) < (jm : Int) := by omega
                  have hqe : LL.take q = LL := List.take_of_length_le (by rw [HJM.out]; omega)
                  rw [hqe]
                  obtain ⟨b, hb⟩ : ∃ b, LL.contains x.data.toList = b := ⟨_, rfl⟩
                  have HNX : Hid (addF N0 ((nfL ls k).take (j + 1)) = if b then LL else LL ++ [x.data.toList]) := by
                    rw [Hid, addF_take N0 (nfL ls k) j hjl b (by rw [HLL.out, HXE.out]; exact hb), HLL.out, HXE.out]
                  rw [hb]
                  clear hb hqe
                  cases b with
                  | true =>
                    go_wp2_with fail
                    exact ⟨⟨j + 1, ja, jm, jc, by omega, rfl, by go_num, by rw [HNX.out]; exact HJM.out, by rw [HNX.out]; exact HGY.out⟩, by simp [intOf]; omega⟩
                  | false =>
                    obtain ⟨na, nc2, w5, hrun5, hg5⟩ := HGY.out.wpush x.data.toList HLE.out
                    rw [nameB_of] at hrun5
                    rw [HJM.out] at hrun5 hg5
                    have HRUN5 := Lib.hid hrun5
                    have HG5 := Lib.hid hg5
                    clear hrun5 hg5
                    go_wp2_with (at_builtin; refine wpList_run_append _ rfl _ _ 29 29 rfl _ _ rfl rfl HRUN5.out ?_)
                    exact ⟨⟨j + 1, na, jm + 1, nc2, by omega, rfl, by go_num, by rw [HNX.out]; show (LL ++ [_]).length = _; rw [List.length_append, HJM.out]; rfl, by rw [HNX.out]; exact HG5.out⟩, by simp [intOf]; omega⟩
            · have hjI : ¬ (j : Int) < (m : Int) := by omega
              have hjm : (nfL ls k).take j = nfL ls k := List.take_of_length_le (by rw [nfL_len, HM.out]; omega)
              rw [hjm] at HJM HGJ
              have hns : (gaP (nfL ls) rb (k + 1)).ns = addF N0 (nfL ls k) := by rw [gaP_succ, HN0.out]
              have HGE : Hid (Ga w1 wr b6 (.slice ja jm jc) ls rb (k + 1)) := ⟨⟨_, by rw [hns]; exact HGJ.out⟩, HFK.out⟩
              have hjl2 : jm = (gaP (nfL ls) rb (k + 1)).ns.length := by rw [hns]; exact HJM.out.symm
              subst hjl2
              have HLSK := HLS
              clear hns hjm HGJ HJM
              go_wp2_with fail
              refine ⟨⟨k + 1, ja, jc, by omega, rfl, by rw [HLS.out], by go_num, HGE.out⟩, by simp [intOf]; omega⟩
    · have hltI : ¬ (k : Int) < (n : Int) := by omega
      have hkN : k = n := by omega
      subst hkN
      have hgh := HGH.out
      have hrv : RsV wr v (gaL (nfL ls) rb k) := hgh.rsv (by rw [gaL_len]; have := HN3.out; omega)
      obtain ⟨ra, rc, hvf⟩ := hrv.len
      rw [gaL_len] at hvf
      subst hvf
      have hq0 : wr.cell? ⟨b6, 0, none⟩ = some (.slice none 0 0) := cell_of hgh.blk 0
      have HCC : Hid (∀ w' : World, Below wr.heap.size wr w' → w'.cell? ⟨b6, 0, none⟩ = some (.slice none 0 0) ∧ w'.cell? ⟨b6, 1, none⟩ = some (.slice ra k rc)) := fun w' hb => ⟨(hb.cell (p := ⟨b6, 0, none⟩) hlb).trans hq0, (hb.cell (p := ⟨b6, 1, none⟩) hlb).trans hq1⟩
      have HNEW := Lib.hid (fun w => New_sx 1 1 (by omega) (by omega) (by omega) (by omega) w)
      have HPR0 : Hid (Below wr.heap.size wr wr) := Below.refl _ _
      have hrule := gaP_rule (nfL ls) rb k
      have hrcl := gaP_rc (nfL ls) rb k
      have hno := ga_norc (nfL ls) rb k
      have HWS : Hid (SlS wr (.slice qa (gaP (nfL ls) rb k).ns.length qc) (gaP (nfL ls) rb k).ns) := hgh.wsl
      have HPLN : Hid (∀ (w1 : World) (f : Nat), Below wr.heap.size wr w1 → Calls Tryd.prog 27 #[.agg #[.slice none 0 0, .slice ra k rc], .pointer (some ⟨f, 0, none⟩), .string ⟨#[47]⟩, .string ⟨#[98]⟩] w1 fun e w' => ∃ na nc xa xc, e = .returned (.agg #[.slice na (gaP (nfL ls) rb k).ns.length nc, .slice xa (gaP (nfL ls) rb k).rc.length xc, .string ⟨#[]⟩, .bool (gaP (nfL ls) rb k).rule]) ∧ SlS w' (.slice na (gaP (nfL ls) rb k).ns.length nc) (gaP (nfL ls) rb k).ns ∧ SlS w' (.slice xa (gaP (nfL ls) rb k).rc.length xc) (gaP (nfL ls) rb k).rc ∧ Below w1.heap.size w1 w' ∧ ∀ g, Value.ownBlock (.slice na (gaP (nfL ls) rb k).ns.length nc) = some g → w1.heap.size ≤ g) := fun w1 f hb => by
        have hpl : planL (plainF (gaL (nfL ls) rb k) (⟨#[98]⟩ : ByteArray).data.toList) = gaP (nfL ls) rb k := by
          rw [show (⟨#[98]⟩ : ByteArray).data.toList = [98] from rfl, ga_plain]; rfl
        have h := Plan_plain f ⟨#[47]⟩ ⟨#[98]⟩ (.slice none 0 0) (.slice ra k rc) (gaL (nfL ls) rb k) w1 (hrv.below hb) (by rw [gaL_len]; have := HN3.out; omega) (fun r hr => by
            unfold gaL at hr
            obtain ⟨i, hi, rfl⟩ := List.mem_map.1 hr
            have := HFEW.out i (by simpa using hi)
            show (nfL ls i).length ≤ 100
            rw [nfL_len]; omega) (by decide) ⟨_, _, _, rfl⟩ (by
            rw [hpl]
            by_cases e : lastL rb k = []
            · exact .inr (hno e)
            · left; rw [hrcl, if_neg e]; simp)
        rw [hpl] at h
        refine h.mono ?_
        rintro e w' ⟨nv, rv, rfl, h1, h2, h3, h6⟩
        obtain ⟨na, nc, h4⟩ := h1.len
        obtain ⟨xa, xc, h5⟩ := h2.len
        subst h4
        subst h5
        exact ⟨na, nc, xa, xc, rfl, h1, h2, h3, h6⟩
      obtain ⟨NS, hNS⟩ : ∃ NS, (gaP (nfL ls) rb k).ns = NS := ⟨_, rfl⟩
      rw [hNS] at HPLN HWS HWL
      simp only [hNS]
      obtain ⟨M, hM⟩ : ∃ M, NS.length = M := ⟨_, rfl⟩
      rw [hM] at HPLN HWS HWL
      simp only [hM]
      have HMM := Lib.hid hM
      rw [hrule, hrcl] at HPLN
      clear hrv hq0 hgh hno hrule hrcl hM hNS HGH
      rcases Nat.eq_zero_or_pos k with hz | hz
      · have hkI : ¬ (0 : Int) < (k : Int) := by omega
        have hlz : lastL rb k = [] := by rw [hz]; rfl
        rw [show decide (0 < k) = false by simp; omega, if_pos hlz, List.length_nil] at HPLN
        have hle : nameB (lastL rb k) = ⟨#[]⟩ := by rw [hlz]; rfl
        rw [hle]
        clear hlz hle hz
        go_wp2_with fail
        go_region_held3 (fun w' => w'.cell? ⟨b6, 0, none⟩ = some (.slice none 0 0) ∧ w'.cell? ⟨b6, 1, none⟩ = some (.slice ra k rc)) (first | exact HCC.out _ hbw | exact HCC.out _ (below_trans hbw (below_alloc _ _)) | exact HCC.out _ (below_set (below_set (below_set (below_set hbw (by first | exact hbq.size | exact Nat.le_refl _ | exact hbw.size) _ _) (by first | exact hbq.size | exact Nat.le_refl _ | exact hbw.size) _ _) (by first | exact hbq.size | exact Nat.le_refl _ | exact hbw.size) _ _) (by first | exact hbq.size | exact Nat.le_refl _ | exact hbw.size) _ _) | exact HCC.out _ (HPR0.out.drew) | exact HCC.out _ (below_trans HPR0.out.drew hbq) | exact HCC.out _ (below_trans HPR0.out.drew (below_alloc _ _)) | exact HCC.out _ (below_trans (below_trans HPR0.out (below_alloc _ _)).drew hbq) | exact HCC.out _ (below_trans HPR0.out.drew (below_trans (below_alloc _ _) hbq)) | exact HCC.out _ (below_trans HPR0.out (below_alloc _ _)).drew | exact HCC.out _ (below_trans HPR0.out (below_alloc _ _)) | exact HCC.out _ HPR0.out | exact HCC.out _ (below_trans HPR0.out.drew (below_trans hbq (below_alloc _ _)))) (first
          | (go_at_call 13; ((with_reducible refine (HNEW.out _).mono ?_)); rintro e wq ⟨f, rfl, hsx, hbq⟩)
          | (go_at_call 27; ((with_reducible refine (HPLN.out _ _ (below_trans HPR0.out.drew hbq)).mono ?_)); rintro e w3 ⟨na, nc, xa, xc, rfl, hn3, hx3, hb3, hnb⟩; have hbw : Below wr.heap.size wr w3 := below_trans (below_trans HPR0.out.drew hbq) hb3)
          | (go_at_call 27; ((with_reducible refine (HPLN.out _ _ (below_trans HPR0.out.drew (below_trans hbq (below_alloc _ _)))).mono ?_)); rintro e w3 ⟨na, nc, xa, xc, rfl, hn3, hx3, hb3, hnb⟩; have hbw : Below wr.heap.size wr w3 := below_trans (below_trans HPR0.out.drew (below_trans hbq (below_alloc _ _))) hb3; have hbx := ga_bx1 hb3; obtain ⟨z0, z1, z2, z3, y0, y1, y2, y3⟩ := box50 hbx)
          | (go_at_call 27; ((with_reducible refine (HPLN.out _ _ (below_trans HPR0.out.drew (below_trans (below_alloc _ _) hbq))).mono ?_)); rintro e w3 ⟨na, nc, xa, xc, rfl, hn3, hx3, hb3, hnb⟩; have hbw : Below wr.heap.size wr w3 := below_trans (below_trans HPR0.out.drew (below_trans (below_alloc _ _) hbq)) hb3; have hbx := ga_bx2 hbq hb3; obtain ⟨z0, z1, z2, z3, y0, y1, y2, y3⟩ := box50 hbx)
          | (go_at_call 27; ((with_reducible refine (HPLN.out _ _ (below_trans (below_trans HPR0.out (below_alloc _ _)).drew hbq)).mono ?_)); rintro e w3 ⟨na, nc, xa, xc, rfl, hn3, hx3, hb3, hnb⟩; have hbw : Below wr.heap.size wr w3 := below_trans (below_trans (below_trans HPR0.out (below_alloc _ _)).drew hbq) hb3; have hbx := ga_bx3 hbq hb3; obtain ⟨z0, z1, z2, z3, y0, y1, y2, y3⟩ := box50 hbx))
        · have HZ := Lib.hid (pb_one hbw hn3 hx3 (v2 := .string ⟨#[]⟩) (v3 := .bool false))
          clear hn3 hx3 hnb
          generalize w3.alloc (.cells #[.slice na M nc, .slice xa 0 xc, .string ⟨#[]⟩, .bool false] 50) = W8 at HZ ⊢
          generalize w3.heap.size = b8 at HZ ⊢
          clear hbw hb3 hbq hsx
          obtain ⟨i0, i1, i2, i3, _, _, _, _⟩ := box50 HZ.out.blk
          have HSA : Hid (Calls Tryd.prog 28 #[.slice na M nc, .slice qa M qc] W8 fun e w' => e = .returned (.bool true) ∧ Below W8.heap.size W8 w') := by
            have h := Same_any na qa NS NS nc qc W8 (by have h2 := HWL.out; have h3 := HN3.out; have := HMM.out; omega) (by have := HZ.out.ns; exact strs_sl this) (by have := HWS.out.below HZ.out.old; exact strs_sl this) true (by simp [Hid])
            rw [HMM.out] at h
            refine h.mono ?_
            rintro e w' ⟨rfl, mm, rfl⟩
            exact ⟨rfl, below_drewN (Below.refl _ _) _⟩
          have HI2 := Lib.hid i2
          have HB8 : Hid (b8 < W8.heap.size) := (Array.getElem?_eq_some_iff.1 HZ.out.blk).1

          go_wp2_with (go_at_call 28; ((with_reducible refine (HSA.out).mono ?_)); rintro e w6 ⟨rfl, h6⟩; have q6 : w6.cell? ⟨b8, 2, none⟩ = some (.string ⟨#[]⟩) := (h6.cell (p := ⟨b8, 2, none⟩) HB8.out).trans HI2.out; have H6 := Lib.hid h6; clear h6; simp only [])
          go_ret
          exact ⟨rfl, below_trans HOW.out (below_trans HZ.out.old H6.out)⟩
        · have HZ := Lib.hid (pb_two hbx (show wr.heap.size ≤ wq.heap.size from hbq.size) hbw hn3 hx3 (ga_sz2 (w3 := w3) hnb) (fun x hx => absurd hx (by simp)) (v2 := .string ⟨#[]⟩) (v3 := .bool false))
          clear hn3 hx3 hnb z0 z1 z2 z3 y0 y1 y2 y3 hbx
          generalize (((w3.setCell ⟨wq.heap.size, 0, none⟩ (.slice na M nc)).setCell ⟨wq.heap.size, 1, none⟩ (.slice xa 0 xc)).setCell ⟨wq.heap.size, 2, none⟩ (.string ⟨#[]⟩)).setCell ⟨wq.heap.size, 3, none⟩ (.bool false) = W8 at HZ ⊢
          generalize wq.heap.size = b8 at HZ ⊢
          clear hbw hb3 hbq hsx
          obtain ⟨i0, i1, i2, i3, _, _, _, _⟩ := box50 HZ.out.blk
          have HSA : Hid (Calls Tryd.prog 28 #[.slice na M nc, .slice qa M qc] W8 fun e w' => e = .returned (.bool true) ∧ Below W8.heap.size W8 w') := by
            have h := Same_any na qa NS NS nc qc W8 (by have h2 := HWL.out; have h3 := HN3.out; have := HMM.out; omega) (by have := HZ.out.ns; exact strs_sl this) (by have := HWS.out.below HZ.out.old; exact strs_sl this) true (by simp [Hid])
            rw [HMM.out] at h
            refine h.mono ?_
            rintro e w' ⟨rfl, mm, rfl⟩
            exact ⟨rfl, below_drewN (Below.refl _ _) _⟩
          have HI2 := Lib.hid i2
          have HB8 : Hid (b8 < W8.heap.size) := (Array.getElem?_eq_some_iff.1 HZ.out.blk).1

          go_wp2_with (go_at_call 28; ((with_reducible refine (HSA.out).mono ?_)); rintro e w6 ⟨rfl, h6⟩; have q6 : w6.cell? ⟨b8, 2, none⟩ = some (.string ⟨#[]⟩) := (h6.cell (p := ⟨b8, 2, none⟩) HB8.out).trans HI2.out; have H6 := Lib.hid h6; clear h6; simp only [])
          go_ret
          exact ⟨rfl, below_trans HOW.out (below_trans HZ.out.old H6.out)⟩
        · have HZ := Lib.hid (pb_two hbx (Nat.le_refl _) hbw hn3 hx3 (fun j hj => by have h1 := hnb j hj; have h2 := ga_sz3 hbq; omega) (fun x hx => absurd hx (by simp)) (v2 := .string ⟨#[]⟩) (v3 := .bool false))
          clear hn3 hx3 hnb z0 z1 z2 z3 y0 y1 y2 y3 hbx
          generalize (((w3.setCell ⟨wr.heap.size, 0, none⟩ (.slice na M nc)).setCell ⟨wr.heap.size, 1, none⟩ (.slice xa 0 xc)).setCell ⟨wr.heap.size, 2, none⟩ (.string ⟨#[]⟩)).setCell ⟨wr.heap.size, 3, none⟩ (.bool false) = W8 at HZ ⊢
          clear hbw hb3 hbq hsx
          obtain ⟨b8, hb8⟩ : ∃ b8, wr.heap.size = b8 := ⟨_, rfl⟩
          have HB88 := Lib.hid hb8
          have HZO := Lib.hid HZ.out.old
          rw [hb8] at HZ
          simp only [hb8]
          clear hb8
          obtain ⟨i0, i1, i2, i3, _, _, _, _⟩ := box50 HZ.out.blk
          have HSA : Hid (Calls Tryd.prog 28 #[.slice na M nc, .slice qa M qc] W8 fun e w' => e = .returned (.bool true) ∧ Below W8.heap.size W8 w') := by
            have h := Same_any na qa NS NS nc qc W8 (by have h2 := HWL.out; have h3 := HN3.out; have := HMM.out; omega) (by have := HZ.out.ns; exact strs_sl this) (by have := HWS.out.below HZ.out.old; exact strs_sl this) true (by simp [Hid])
            rw [HMM.out] at h
            refine h.mono ?_
            rintro e w' ⟨rfl, mm, rfl⟩
            exact ⟨rfl, below_drewN (Below.refl _ _) _⟩
          have HI2 := Lib.hid i2
          have HB8 : Hid (b8 < W8.heap.size) := (Array.getElem?_eq_some_iff.1 HZ.out.blk).1

          go_wp2_with (go_at_call 28; ((with_reducible refine (HSA.out).mono ?_)); rintro e w6 ⟨rfl, h6⟩; have q6 : w6.cell? ⟨b8, 2, none⟩ = some (.string ⟨#[]⟩) := (h6.cell (p := ⟨b8, 2, none⟩) HB8.out).trans HI2.out; have H6 := Lib.hid h6; clear h6; simp only [])
          go_ret
          exact ⟨rfl, below_trans HOW.out (below_trans HZ.out.old H6.out)⟩
      · have hkI : (0 : Int) < (k : Int) := by omega
        rw [show decide (0 < k) = true by simp; omega] at HPLN
        by_cases hlz : lastL rb k = []
        · rw [if_pos hlz, List.length_nil] at HPLN
          have hle : nameB (lastL rb k) = ⟨#[]⟩ := by rw [hlz]; rfl
          rw [hle]
          clear hlz hle hz
          go_wp2_with fail
          go_region_held3 (fun w' => w'.cell? ⟨b6, 0, none⟩ = some (.slice none 0 0) ∧ w'.cell? ⟨b6, 1, none⟩ = some (.slice ra k rc)) (first | exact HCC.out _ hbw | exact HCC.out _ (below_trans hbw (below_alloc _ _)) | exact HCC.out _ (below_set (below_set (below_set (below_set hbw (by first | exact hbq.size | exact Nat.le_refl _ | exact hbw.size) _ _) (by first | exact hbq.size | exact Nat.le_refl _ | exact hbw.size) _ _) (by first | exact hbq.size | exact Nat.le_refl _ | exact hbw.size) _ _) (by first | exact hbq.size | exact Nat.le_refl _ | exact hbw.size) _ _) | exact HCC.out _ (HPR0.out.drew) | exact HCC.out _ (below_trans HPR0.out.drew hbq) | exact HCC.out _ (below_trans HPR0.out.drew (below_alloc _ _)) | exact HCC.out _ (below_trans (below_trans HPR0.out (below_alloc _ _)).drew hbq) | exact HCC.out _ (below_trans HPR0.out.drew (below_trans (below_alloc _ _) hbq)) | exact HCC.out _ (below_trans HPR0.out (below_alloc _ _)).drew | exact HCC.out _ (below_trans HPR0.out (below_alloc _ _)) | exact HCC.out _ HPR0.out | exact HCC.out _ (below_trans HPR0.out.drew (below_trans hbq (below_alloc _ _)))) (first
            | (go_at_call 13; ((with_reducible refine (HNEW.out _).mono ?_)); rintro e wq ⟨f, rfl, hsx, hbq⟩)
            | (go_at_call 27; ((with_reducible refine (HPLN.out _ _ (below_trans HPR0.out.drew hbq)).mono ?_)); rintro e w3 ⟨na, nc, xa, xc, rfl, hn3, hx3, hb3, hnb⟩; have hbw : Below wr.heap.size wr w3 := below_trans (below_trans HPR0.out.drew hbq) hb3)
            | (go_at_call 27; ((with_reducible refine (HPLN.out _ _ (below_trans HPR0.out.drew (below_trans hbq (below_alloc _ _)))).mono ?_)); rintro e w3 ⟨na, nc, xa, xc, rfl, hn3, hx3, hb3, hnb⟩; have hbw : Below wr.heap.size wr w3 := below_trans (below_trans HPR0.out.drew (below_trans hbq (below_alloc _ _))) hb3; have hbx := ga_bx1 hb3; obtain ⟨z0, z1, z2, z3, y0, y1, y2, y3⟩ := box50 hbx)
            | (go_at_call 27; ((with_reducible refine (HPLN.out _ _ (below_trans HPR0.out.drew (below_trans (below_alloc _ _) hbq))).mono ?_)); rintro e w3 ⟨na, nc, xa, xc, rfl, hn3, hx3, hb3, hnb⟩; have hbw : Below wr.heap.size wr w3 := below_trans (below_trans HPR0.out.drew (below_trans (below_alloc _ _) hbq)) hb3; have hbx := ga_bx2 hbq hb3; obtain ⟨z0, z1, z2, z3, y0, y1, y2, y3⟩ := box50 hbx)
            | (go_at_call 27; ((with_reducible refine (HPLN.out _ _ (below_trans (below_trans HPR0.out (below_alloc _ _)).drew hbq)).mono ?_)); rintro e w3 ⟨na, nc, xa, xc, rfl, hn3, hx3, hb3, hnb⟩; have hbw : Below wr.heap.size wr w3 := below_trans (below_trans (below_trans HPR0.out (below_alloc _ _)).drew hbq) hb3; have hbx := ga_bx3 hbq hb3; obtain ⟨z0, z1, z2, z3, y0, y1, y2, y3⟩ := box50 hbx))
          · have HZ := Lib.hid (pb_one hbw hn3 hx3 (v2 := .string ⟨#[]⟩) (v3 := .bool true))
            clear hn3 hx3 hnb
            generalize w3.alloc (.cells #[.slice na M nc, .slice xa 0 xc, .string ⟨#[]⟩, .bool true] 50) = W8 at HZ ⊢
            generalize w3.heap.size = b8 at HZ ⊢
            clear hbw hb3 hbq hsx
            obtain ⟨i0, i1, i2, i3, _, _, _, _⟩ := box50 HZ.out.blk
            have HSA : Hid (Calls Tryd.prog 28 #[.slice na M nc, .slice qa M qc] W8 fun e w' => e = .returned (.bool true) ∧ Below W8.heap.size W8 w') := by
              have h := Same_any na qa NS NS nc qc W8 (by have h2 := HWL.out; have h3 := HN3.out; have := HMM.out; omega) (by have := HZ.out.ns; exact strs_sl this) (by have := HWS.out.below HZ.out.old; exact strs_sl this) true (by simp [Hid])
              rw [HMM.out] at h
              refine h.mono ?_
              rintro e w' ⟨rfl, mm, rfl⟩
              exact ⟨rfl, below_drewN (Below.refl _ _) _⟩
            have HI2 := Lib.hid i2
            have HB8 : Hid (b8 < W8.heap.size) := (Array.getElem?_eq_some_iff.1 HZ.out.blk).1

            go_wp2_with (go_at_call 28; ((with_reducible refine (HSA.out).mono ?_)); rintro e w6 ⟨rfl, h6⟩; have q6 : w6.cell? ⟨b8, 2, none⟩ = some (.string ⟨#[]⟩) := (h6.cell (p := ⟨b8, 2, none⟩) HB8.out).trans HI2.out; have H6 := Lib.hid h6; clear h6; simp only [])
            go_ret
            exact ⟨rfl, below_trans HOW.out (below_trans HZ.out.old H6.out)⟩
          · have HZ := Lib.hid (pb_two hbx (show wr.heap.size ≤ wq.heap.size from hbq.size) hbw hn3 hx3 (ga_sz2 (w3 := w3) hnb) (fun x hx => absurd hx (by simp)) (v2 := .string ⟨#[]⟩) (v3 := .bool true))
            clear hn3 hx3 hnb z0 z1 z2 z3 y0 y1 y2 y3 hbx
            generalize (((w3.setCell ⟨wq.heap.size, 0, none⟩ (.slice na M nc)).setCell ⟨wq.heap.size, 1, none⟩ (.slice xa 0 xc)).setCell ⟨wq.heap.size, 2, none⟩ (.string ⟨#[]⟩)).setCell ⟨wq.heap.size, 3, none⟩ (.bool true) = W8 at HZ ⊢
            generalize wq.heap.size = b8 at HZ ⊢
            clear hbw hb3 hbq hsx
            obtain ⟨i0, i1, i2, i3, _, _, _, _⟩ := box50 HZ.out.blk
            have HSA : Hid (Calls Tryd.prog 28 #[.slice na M nc, .slice qa M qc] W8 fun e w' => e = .returned (.bool true) ∧ Below W8.heap.size W8 w') := by
              have h := Same_any na qa NS NS nc qc W8 (by have h2 := HWL.out; have h3 := HN3.out; have := HMM.out; omega) (by have := HZ.out.ns; exact strs_sl this) (by have := HWS.out.below HZ.out.old; exact strs_sl this) true (by simp [Hid])
              rw [HMM.out] at h
              refine h.mono ?_
              rintro e w' ⟨rfl, mm, rfl⟩
              exact ⟨rfl, below_drewN (Below.refl _ _) _⟩
            have HI2 := Lib.hid i2
            have HB8 : Hid (b8 < W8.heap.size) := (Array.getElem?_eq_some_iff.1 HZ.out.blk).1

            go_wp2_with (go_at_call 28; ((with_reducible refine (HSA.out).mono ?_)); rintro e w6 ⟨rfl, h6⟩; have q6 : w6.cell? ⟨b8, 2, none⟩ = some (.string ⟨#[]⟩) := (h6.cell (p := ⟨b8, 2, none⟩) HB8.out).trans HI2.out; have H6 := Lib.hid h6; clear h6; simp only [])
            go_ret
            exact ⟨rfl, below_trans HOW.out (below_trans HZ.out.old H6.out)⟩
          · have HZ := Lib.hid (pb_two hbx (Nat.le_refl _) hbw hn3 hx3 (fun j hj => by have h1 := hnb j hj; have h2 := ga_sz3 hbq; omega) (fun x hx => absurd hx (by simp)) (v2 := .string ⟨#[]⟩) (v3 := .bool true))
            clear hn3 hx3 hnb z0 z1 z2 z3 y0 y1 y2 y3 hbx
            generalize (((w3.setCell ⟨wr.heap.size, 0, none⟩ (.slice na M nc)).setCell ⟨wr.heap.size, 1, none⟩ (.slice xa 0 xc)).setCell ⟨wr.heap.size, 2, none⟩ (.string ⟨#[]⟩)).setCell ⟨wr.heap.size, 3, none⟩ (.bool true) = W8 at HZ ⊢
            clear hbw hb3 hbq hsx
            obtain ⟨b8, hb8⟩ : ∃ b8, wr.heap.size = b8 := ⟨_, rfl⟩
            have HB88 := Lib.hid hb8
            have HZO := Lib.hid HZ.out.old
            rw [hb8] at HZ
            simp only [hb8]
            clear hb8
            obtain ⟨i0, i1, i2, i3, _, _, _, _⟩ := box50 HZ.out.blk
            have HSA : Hid (Calls Tryd.prog 28 #[.slice na M nc, .slice qa M qc] W8 fun e w' => e = .returned (.bool true) ∧ Below W8.heap.size W8 w') := by
              have h := Same_any na qa NS NS nc qc W8 (by have h2 := HWL.out; have h3 := HN3.out; have := HMM.out; omega) (by have := HZ.out.ns; exact strs_sl this) (by have := HWS.out.below HZ.out.old; exact strs_sl this) true (by simp [Hid])
              rw [HMM.out] at h
              refine h.mono ?_
              rintro e w' ⟨rfl, mm, rfl⟩
              exact ⟨rfl, below_drewN (Below.refl _ _) _⟩
            have HI2 := Lib.hid i2
            have HB8 : Hid (b8 < W8.heap.size) := (Array.getElem?_eq_some_iff.1 HZ.out.blk).1

            go_wp2_with (go_at_call 28; ((with_reducible refine (HSA.out).mono ?_)); rintro e w6 ⟨rfl, h6⟩; have q6 : w6.cell? ⟨b8, 2, none⟩ = some (.string ⟨#[]⟩) := (h6.cell (p := ⟨b8, 2, none⟩) HB8.out).trans HI2.out; have H6 := Lib.hid h6; clear h6; simp only [])
            go_ret
            exact ⟨rfl, below_trans HOW.out (below_trans HZ.out.old H6.out)⟩
        · rw [if_neg hlz, show [lastL rb k].length = 1 from rfl] at HPLN
          obtain ⟨LS, hLS⟩ : ∃ LS, lastL rb k = LS := ⟨_, rfl⟩
          rw [hLS] at HPLN hlz
          rw [hLS]
          have HLZ := Lib.hid hlz
          obtain ⟨LT, hLT⟩ : ∃ LT, nameB LS = LT := ⟨_, rfl⟩
          have hLTne : ¬ LT = ⟨#[]⟩ := fun e => by
            rw [← hLT] at e
            exact hlz (by have := congrArg (fun y : ByteArray => y.data.toList) e; rw [nameB_list] at this; simpa using this)
          rw [hLT]
          have HLT := Lib.hid hLT
          have hne2 : (LT.toList == (⟨#[]⟩ : ByteArray).toList) = false := by
            rw [beq_eq_false_iff_ne, Lib.toList_data, Lib.toList_data]
            intro e
            exact hLTne (by rw [← nameB_of LT, e]; rfl)
          have hne3 : ¬ LT.toList = (⟨#[]⟩ : ByteArray).toList := by simpa using hne2
          have hnil : (⟨#[]⟩ : ByteArray).toList = [] := by rw [Lib.toList_data]
          have hne4 : ¬ LT.toList = [] := fun e => hne3 (e.trans hnil.symm)
          have hne5 : (LT.toList == []) = false := by rw [beq_eq_false_iff_ne]; exact hne4
          clear hnil
          clear hLS hLT hlz hz
          go_wp2_with fail
          go_region_held3 (fun w' => w'.cell? ⟨b6, 0, none⟩ = some (.slice none 0 0) ∧ w'.cell? ⟨b6, 1, none⟩ = some (.slice ra k rc)) (first | exact HCC.out _ hbw | exact HCC.out _ (below_trans hbw (below_alloc _ _)) | exact HCC.out _ (below_set (below_set (below_set (below_set hbw (by first | exact hbq.size | exact Nat.le_refl _ | exact hbw.size) _ _) (by first | exact hbq.size | exact Nat.le_refl _ | exact hbw.size) _ _) (by first | exact hbq.size | exact Nat.le_refl _ | exact hbw.size) _ _) (by first | exact hbq.size | exact Nat.le_refl _ | exact hbw.size) _ _) | exact HCC.out _ (HPR0.out.drew) | exact HCC.out _ (below_trans HPR0.out.drew hbq) | exact HCC.out _ (below_trans HPR0.out.drew (below_alloc _ _)) | exact HCC.out _ (below_trans (below_trans HPR0.out (below_alloc _ _)).drew hbq) | exact HCC.out _ (below_trans HPR0.out.drew (below_trans (below_alloc _ _) hbq)) | exact HCC.out _ (below_trans HPR0.out (below_alloc _ _)).drew | exact HCC.out _ (below_trans HPR0.out (below_alloc _ _)) | exact HCC.out _ HPR0.out | exact HCC.out _ (below_trans HPR0.out.drew (below_trans hbq (below_alloc _ _)))) (first
            | (go_at_call 13; ((with_reducible refine (HNEW.out _).mono ?_)); rintro e wq ⟨f, rfl, hsx, hbq⟩)
            | (go_at_call 27; ((with_reducible refine (HPLN.out _ _ (below_trans HPR0.out.drew hbq)).mono ?_)); rintro e w3 ⟨na, nc, xa, xc, rfl, hn3, hx3, hb3, hnb⟩; have hbw : Below wr.heap.size wr w3 := below_trans (below_trans HPR0.out.drew hbq) hb3)
            | (go_at_call 27; ((with_reducible refine (HPLN.out _ _ (below_trans HPR0.out.drew (below_trans hbq (below_alloc _ _)))).mono ?_)); rintro e w3 ⟨na, nc, xa, xc, rfl, hn3, hx3, hb3, hnb⟩; have hbw : Below wr.heap.size wr w3 := below_trans (below_trans HPR0.out.drew (below_trans hbq (below_alloc _ _))) hb3; have hbx := ga_bx1 hb3; obtain ⟨z0, z1, z2, z3, y0, y1, y2, y3⟩ := box50 hbx)
            | (go_at_call 27; ((with_reducible refine (HPLN.out _ _ (below_trans HPR0.out.drew (below_trans (below_alloc _ _) hbq))).mono ?_)); rintro e w3 ⟨na, nc, xa, xc, rfl, hn3, hx3, hb3, hnb⟩; have hbw : Below wr.heap.size wr w3 := below_trans (below_trans HPR0.out.drew (below_trans (below_alloc _ _) hbq)) hb3; have hbx := ga_bx2 hbq hb3; obtain ⟨z0, z1, z2, z3, y0, y1, y2, y3⟩ := box50 hbx)
            | (go_at_call 27; ((with_reducible refine (HPLN.out _ _ (below_trans (below_trans HPR0.out (below_alloc _ _)).drew hbq)).mono ?_)); rintro e w3 ⟨na, nc, xa, xc, rfl, hn3, hx3, hb3, hnb⟩; have hbw : Below wr.heap.size wr w3 := below_trans (below_trans (below_trans HPR0.out (below_alloc _ _)).drew hbq) hb3; have hbx := ga_bx3 hbq hb3; obtain ⟨z0, z1, z2, z3, y0, y1, y2, y3⟩ := box50 hbx))
          · have HZ := Lib.hid (pb_one hbw hn3 hx3 (v2 := .string ⟨#[]⟩) (v3 := .bool true))
            clear hn3 hx3 hnb
            generalize w3.alloc (.cells #[.slice na M nc, .slice xa 1 xc, .string ⟨#[]⟩, .bool true] 50) = W8 at HZ ⊢
            generalize w3.heap.size = b8 at HZ ⊢
            clear hbw hb3 hbq hsx
            obtain ⟨i0, i1, i2, i3, _, _, _, _⟩ := box50 HZ.out.blk
            have HSA : Hid (Calls Tryd.prog 28 #[.slice na M nc, .slice qa M qc] W8 fun e w' => e = .returned (.bool true) ∧ Below W8.heap.size W8 w') := by
              have h := Same_any na qa NS NS nc qc W8 (by have h2 := HWL.out; have h3 := HN3.out; have := HMM.out; omega) (by have := HZ.out.ns; exact strs_sl this) (by have := HWS.out.below HZ.out.old; exact strs_sl this) true (by simp [Hid])
              rw [HMM.out] at h
              refine h.mono ?_
              rintro e w' ⟨rfl, mm, rfl⟩
              exact ⟨rfl, below_drewN (Below.refl _ _) _⟩
            have HI2 := Lib.hid i2
            have HB8 : Hid (b8 < W8.heap.size) := (Array.getElem?_eq_some_iff.1 HZ.out.blk).1
            obtain ⟨gx, ox, rfl, hcl⟩ := HZ.out.rc LS rfl
            rw [HLT.out] at hcl
            go_wp2_with (go_at_call 28; ((with_reducible refine (HSA.out).mono ?_)); rintro e w6 ⟨rfl, h6⟩; have q6 : w6.cell? ⟨b8, 2, none⟩ = some (.string ⟨#[]⟩) := (h6.cell (p := ⟨b8, 2, none⟩) HB8.out).trans HI2.out; have H6 := Lib.hid h6; clear h6; simp only [])
            go_ret
            exact ⟨rfl, below_trans HOW.out (below_trans HZ.out.old H6.out)⟩
          · have HZ := Lib.hid (pb_two hbx (show wr.heap.size ≤ wq.heap.size from hbq.size) hbw hn3 hx3 (ga_sz2 (w3 := w3) hnb) (fun x hx => by obtain rfl : LS = x := (by simpa using hx); exact HLZ.out) (v2 := .string ⟨#[]⟩) (v3 := .bool true))
            clear hn3 hx3 hnb z0 z1 z2 z3 y0 y1 y2 y3 hbx
            generalize (((w3.setCell ⟨wq.heap.size, 0, none⟩ (.slice na M nc)).setCell ⟨wq.heap.size, 1, none⟩ (.slice xa 1 xc)).setCell ⟨wq.heap.size, 2, none⟩ (.string ⟨#[]⟩)).setCell ⟨wq.heap.size, 3, none⟩ (.bool true) = W8 at HZ ⊢
            generalize wq.heap.size = b8 at HZ ⊢
            clear hbw hb3 hbq hsx
            obtain ⟨i0, i1, i2, i3, _, _, _, _⟩ := box50 HZ.out.blk
            have HSA : Hid (Calls Tryd.prog 28 #[.slice na M nc, .slice qa M qc] W8 fun e w' => e = .returned (.bool true) ∧ Below W8.heap.size W8 w') := by
              have h := Same_any na qa NS NS nc qc W8 (by have h2 := HWL.out; have h3 := HN3.out; have := HMM.out; omega) (by have := HZ.out.ns; exact strs_sl this) (by have := HWS.out.below HZ.out.old; exact strs_sl this) true (by simp [Hid])
              rw [HMM.out] at h
              refine h.mono ?_
              rintro e w' ⟨rfl, mm, rfl⟩
              exact ⟨rfl, below_drewN (Below.refl _ _) _⟩
            have HI2 := Lib.hid i2
            have HB8 : Hid (b8 < W8.heap.size) := (Array.getElem?_eq_some_iff.1 HZ.out.blk).1
            obtain ⟨gx, ox, rfl, hcl⟩ := HZ.out.rc LS rfl
            rw [HLT.out] at hcl
            go_wp2_with (go_at_call 28; ((with_reducible refine (HSA.out).mono ?_)); rintro e w6 ⟨rfl, h6⟩; have q6 : w6.cell? ⟨b8, 2, none⟩ = some (.string ⟨#[]⟩) := (h6.cell (p := ⟨b8, 2, none⟩) HB8.out).trans HI2.out; have H6 := Lib.hid h6; clear h6; simp only [])
            go_ret
            exact ⟨rfl, below_trans HOW.out (below_trans HZ.out.old H6.out)⟩
          · have HZ := Lib.hid (pb_two hbx (Nat.le_refl _) hbw hn3 hx3 (fun j hj => by have h1 := hnb j hj; have h2 := ga_sz3 hbq; omega) (fun x hx => by obtain rfl : LS = x := (by simpa using hx); exact HLZ.out) (v2 := .string ⟨#[]⟩) (v3 := .bool true))
            clear hn3 hx3 hnb z0 z1 z2 z3 y0 y1 y2 y3 hbx
            generalize (((w3.setCell ⟨wr.heap.size, 0, none⟩ (.slice na M nc)).setCell ⟨wr.heap.size, 1, none⟩ (.slice xa 1 xc)).setCell ⟨wr.heap.size, 2, none⟩ (.string ⟨#[]⟩)).setCell ⟨wr.heap.size, 3, none⟩ (.bool true) = W8 at HZ ⊢
            clear hbw hb3 hbq hsx
            obtain ⟨b8, hb8⟩ : ∃ b8, wr.heap.size = b8 := ⟨_, rfl⟩
            have HB88 := Lib.hid hb8
            have HZO := Lib.hid HZ.out.old
            rw [hb8] at HZ
            simp only [hb8]
            clear hb8
            obtain ⟨i0, i1, i2, i3, _, _, _, _⟩ := box50 HZ.out.blk
            have HSA : Hid (Calls Tryd.prog 28 #[.slice na M nc, .slice qa M qc] W8 fun e w' => e = .returned (.bool true) ∧ Below W8.heap.size W8 w') := by
              have h := Same_any na qa NS NS nc qc W8 (by have h2 := HWL.out; have h3 := HN3.out; have := HMM.out; omega) (by have := HZ.out.ns; exact strs_sl this) (by have := HWS.out.below HZ.out.old; exact strs_sl this) true (by simp [Hid])
              rw [HMM.out] at h
              refine h.mono ?_
              rintro e w' ⟨rfl, mm, rfl⟩
              exact ⟨rfl, below_drewN (Below.refl _ _) _⟩
            have HI2 := Lib.hid i2
            have HB8 : Hid (b8 < W8.heap.size) := (Array.getElem?_eq_some_iff.1 HZ.out.blk).1
            obtain ⟨gx, ox, rfl, hcl⟩ := HZ.out.rc LS rfl
            rw [HLT.out] at hcl
            go_wp2_with (go_at_call 28; ((with_reducible refine (HSA.out).mono ?_)); rintro e w6 ⟨rfl, h6⟩; have q6 : w6.cell? ⟨b8, 2, none⟩ = some (.string ⟨#[]⟩) := (h6.cell (p := ⟨b8, 2, none⟩) HB8.out).trans HI2.out; have H6 := Lib.hid h6; clear h6; simp only [])
            go_ret
            exact ⟨rfl, below_trans HOW.out (below_trans HZ.out.old H6.out)⟩
end Go.Proofs.YtjagnihkpgbjeaaDoor
