import Derived.Test.YtpgaeldjiiaoiaaT
import Derived.OwnWalk
import Derived.BigQuiet
import Derived.Deep.RegionHeld3
import Derived.Test.YtpgaeldjiiaoiaaV
import Derived.IntWalk
namespace Go.Proofs.Ytpgaeldjiiaoiaa
open Go.RowKit
theorem info4 : (Try.prog.info? 4).map (fun i => (i.zero, i.size, i.bytes)) = some (some (.bool false), 1, 1) := by kernel_rfl

def rowB (n : Nat) (f : Nat → Bool) : List Value := (List.range n).map fun k => .bool (f k)
theorem rowB_at {n k : Nat} (f : Nat → Bool) (h : k < n) : (rowB n f)[k]? = some (.bool (f k)) := by simp [rowB, h]
def upB (f : Nat → Bool) (k j : Nat) (b : Bool) : Bool := if j = k then b else f j
theorem rowB_set {n : Nat} (f g : Nat → Bool) (k : Nat) (b : Bool) (h : ∀ j, j < n → g j = if j = k then b else f j) : (rowB n f).set k (.bool b) = rowB n g := by
  apply List.ext_getElem
  · simp [rowB]
  · intro i h1 h2
    simp only [rowB, List.length_map, List.length_range, List.length_set] at h1 h2
    rw [List.getElem_set]
    simp only [rowB, List.getElem_map, List.getElem_range]
    rw [h i h1]
    by_cases hik : k = i
    · rw [if_pos hik, if_pos hik.symm]
    · rw [if_neg hik, if_neg (fun e => hik e.symm)]
theorem rowB_zero (n : Nat) : rowB n (fun _ => false) = List.replicate n (.bool false) := by simp [rowB, List.map_const']

/-- A row of bools of the call's own. -/
def Fr (w wr : World) (g n : Nat) (f : Nat → Bool) : Prop := wr.ownsRow w.heap.size 4 1 (.slice (some ⟨g, 0, none⟩) n n) n (rowB n f)
theorem Fr.cell {w wr : World} {g n : Nat} {f : Nat → Bool} (h : Fr w wr g n f) {k : Nat} (hk : k < n) : wr.cell? ⟨g, k, none⟩ = some (.bool (f k)) := by
  have := World.ownsRow.cellAt h k (by omega)
  rw [this, rowB_at f hk]
theorem Fr.free {w wr : World} {g n : Nat} {f : Nat → Bool} (h : Fr w wr g n f) (k : Nat) : wr.frozen? ⟨g, k, none⟩ = false := World.ownsRow.frozenAt h k
theorem Fr.base {w wr : World} {g n : Nat} {f : Nat → Bool} (h : Fr w wr g n f) : w.heap.size ≤ g ∧ g < wr.heap.size := World.ownsRow.lt h g rfl
theorem Fr.below {w wr w' : World} {g n : Nat} {f : Nat → Bool} (h : Fr w wr g n f) (hb : Below wr.heap.size wr w') : Fr w w' g n f := World.ownsRow.kept h (gb_below hb) (own_em _)
theorem Fr.set {w wr : World} {g n : Nat} {f f' : Nat → Bool} (h : Fr w wr g n f) (k : Nat) (b : Bool) (e : ∀ j, j < n → f' j = if j = k then b else f j) : Fr w (wr.setCell ⟨g, k, none⟩ (.bool b)) g n f' := by
  have := (World.ownsRow.stored h k (.bool b)).1
  rw [rowB_set f f' k b e] at this
  exact this
theorem Fr.other {w wr : World} {g g' n k : Nat} {f : Nat → Bool} {v : Value} (h : Fr w wr g n f) (hne : g' ≠ g) : Fr w (wr.setCell ⟨g', k, none⟩ v) g n f :=
  World.ownsRow.kept (row := some g') h ⟨rfl, rfl, rfl, by simp, fun j _ hj => heap_setCell_other wr ⟨g', k, none⟩ j v (fun e => hj (by rw [e]))⟩ (.inr (by simp [Value.ownBlock]; exact fun e => hne e.symm))

theorem Fr.congr {w wr : World} {g n : Nat} {f f' : Nat → Bool} (h : Fr w wr g n f) (e : ∀ j, j < n → f j = f' j) : Fr w wr g n f' := by
  have : rowB n f = rowB n f' := by
    unfold rowB
    apply List.map_congr_left
    intro j hj
    rw [e j (List.mem_range.1 hj)]
  unfold Fr at h ⊢
  rw [← this]; exact h
def Rows2 (w wr : World) (g gn n k : Nat) (f f' : Nat → Bool) : Prop := Fr w wr g n f ∧ Fr w wr gn n (fun j => if j < k then f' j else false) ∧ Below w.heap.size w wr
theorem fr_next {w wr : World} {g gn n k : Nat} {f f' : Nat → Bool} (h : Fr w wr g n f ∧ Fr w wr gn n (fun j => if j < k then f' j else false) ∧ Below w.heap.size w wr) (hne : g ≠ gn) (b : Bool) (hb : f' k = b) :
    Fr w (wr.setCell ⟨gn, k, none⟩ (.bool b)) g n f ∧ Fr w (wr.setCell ⟨gn, k, none⟩ (.bool b)) gn n (fun j => if j < k + 1 then f' j else false) ∧ Below w.heap.size w (wr.setCell ⟨gn, k, none⟩ (.bool b)) := by
  refine ⟨h.1.other (Ne.symm hne), h.2.1.set k b (fun j _ => ?_), h.2.2.setCell h.2.1.base.1 _⟩
  by_cases hj : j = k
  · subst hj; rw [if_pos (by omega), if_pos rfl]; exact hb
  · rw [if_neg hj]
    by_cases h1 : j < k
    · rw [if_pos h1, if_pos (by omega)]
    · rw [if_neg h1, if_neg (by omega)]

/-- The items lie in w behind A. -/
def Its (w : World) (A : Option Addr) (xs : List RI) : Prop := 0 < xs.length → ∃ g, A = some ⟨g, 0, none⟩ ∧ g < w.heap.size ∧ ∀ i (h : i < xs.length), (∀ q, q < 5 → w.cell? ⟨g, i * 5 + q, none⟩ = xs[i].cs[q]?) ∧ xs[i].Ok w
theorem add5 (g i : Nat) : (⟨g, 0, none⟩ : Addr).add (i * 5) = ⟨g, i * 5, none⟩ := by unfold Addr.add; by_cases h : i * 5 = 0 <;> simp [h]
theorem addn (g i : Nat) : (⟨g, 0, none⟩ : Addr).add i = ⟨g, i, none⟩ := by unfold Addr.add; by_cases h : i = 0 <;> simp [h]

set_option maxRecDepth 100000 in
set_option maxHeartbeats 8000000 in
theorem fronts_core (s : ByteArray) (w : World) (A : Option Addr) (C : Nat) (xs : List RI) (P : List It) (hs : s.size ≤ 100000) (hx : xs.length ≤ 100000) (hP : Hid (xs.map semR = P)) (hI : Hid (Its w A xs)) :
    Calls Try.prog 18 #[.slice A xs.length C, .string s] w fun e w' => ∃ g, e = .returned (.slice (some ⟨g, 0, none⟩) (s.size + 1) (s.size + 1)) ∧ Fr w w' g (s.size + 1) (dp s P xs.length) ∧ Below w.heap.size w w' := by
  obtain ⟨i4, hi4, hz4, hs4, hb4⟩ := info_parts info4
  go_enter Try.func18, Try.ntmps18
  go_wp2_with (refine wpList_make_full _ rfl _ _ 31 rfl w.heap.size 4 i4 (.bool false) 1 Try.underlying31 hi4 hz4 hs4 .i64 .i64 _ _ (s.size + 1) rfl rfl (by simp) (by simp) (by rw [hb4]; omega) (by unfold maxLen; omega) (Nat.le_refl _) ?_)
  intro w1 hown hg
  have hF0 : Fr w w1 w.heap.size (s.size + 1) (fun _ => false) := by
    unfold Fr; rw [rowB_zero, ← toList_madeCells_one]; simpa using hown
  have hB1 : Below w.heap.size w w1 := (Below.refl _ w).grown hg (Nat.le_refl _) (fun k h => by cases h)
  have c0 := hF0.cell (k := 0) (by omega)
  have y0 := hF0.free 0
  have HF1 := Lib.hid (hF0.set (f' := dp s P 0) 0 true (fun j _ => by rw [dp_zero]; by_cases h : j = 0 <;> simp [h]))
  have HB1 := Lib.hid (hB1.setCell (p := ⟨w.heap.size, 0, none⟩) (Nat.le_refl _) (.bool true))
  clear hown hg hF0 hB1
  go_wp2_with fail
  go_loopw [5, 6] (fun a b wr => ∃ (g i : Nat), a = .slice (some ⟨g, 0, none⟩) (s.size + 1) (s.size + 1) ∧ b = .int .i64 i ∧ i ≤ xs.length ∧ Hid (Fr w wr g (s.size + 1) (dp s P i) ∧ Below w.heap.size w wr)) (fun _ b _ => xs.length - (intOf b).toNat)
  case atStart => exact ⟨_, 0, rfl, rfl, by omega, HF1.out, HB1.out⟩
  case round =>
    obtain ⟨g, i, rfl, rfl, hi, HG⟩ := hrel
    by_cases hlt : i < xs.length
    · obtain ⟨gl, rfl, hgl, hit⟩ := hI.out (by omega)
      obtain ⟨hcs, hok⟩ := hit i hlt
      have HPI : Hid (P[i]? = some (semR xs[i])) := by unfold Hid; rw [← hP.out]; simp [hlt]
      generalize xs[i] = x at *
      have HCS := Lib.hid hcs
      have HOK := Lib.hid hok
      clear hcs hok hit
      have hbw := HG.out.2.size
      go_wp2_with (refine wpList_make_full _ rfl _ _ 31 rfl w.heap.size 4 i4 (.bool false) 1 Try.underlying31 hi4 hz4 hs4 .i64 .i64 _ _ (s.size + 1) rfl rfl (by simp) (by simp) (by rw [hb4]; omega) (by unfold maxLen; omega) hbw ?_)
      intro w2 hown hg
      have hF2 : Fr w w2 wr.heap.size (s.size + 1) (fun _ => false) := by
        unfold Fr; rw [rowB_zero, ← toList_madeCells_one]; simpa using hown
      have hB2 : Below w.heap.size w w2 := HG.out.2.grown hg hbw (fun k h => by cases h)
      have hF1 : Fr w w2 g (s.size + 1) (dp s P i) := HG.out.1.kept hg (own_em _)
      have hne : g ≠ wr.heap.size := by have := HG.out.1.base; omega
      have HS := Lib.hid (And.intro hF1 (And.intro hF2 hB2))
      clear hown hg hF2 hB2 hF1
      generalize wr.heap.size = gn at *
      go_wp2_with fail
      go_loopw [8] (fun b wy => ∃ k : Nat, b = .int .i64 k ∧ k ≤ s.size + 1 ∧ Hid (Fr w wy g (s.size + 1) (dp s P i) ∧ Fr w wy gn (s.size + 1) (fun j => if j < k then dp s P (i + 1) j else false) ∧ Below w.heap.size w wy)) (fun b _ => s.size + 1 - (intOf b).toNat)
      case atStart => exact ⟨0, rfl, by omega, Lib.hid (by simpa using HS.out)⟩
      case round =>
        obtain ⟨k, rfl, hk, HK⟩ := hrel
        by_cases hks : k ≤ s.size
        · have hkI : (k : Int) ≤ (s.size : Int) := by omega
          have e0 : wr.cell? ⟨gl, i * 5, none⟩ = some (.int .i64 x.k) := by
            rw [HK.out.2.2.cell (p := ⟨gl, i * 5, none⟩) hgl]
            exact HCS.out 0 (by decide)
          have hadd := add5 gl i
          have hk1 : dp s P i k = dp s P i k := rfl
          have c1 := HK.out.1.cell (k := k) (by omega)
          have c2 := HK.out.2.1.cell (k := k) (by omega)
          have y2 := HK.out.2.1.free k
          have a1 := addn g k
          have a2 := addn gn k
          by_cases hx1 : x.k = 1
          · have hx1' : ((x.k : Int) == 1) = true := by simp [hx1]
            have HD := Lib.hid (dp_star (s := s) HPI.out (semR_star hx1) k)
            clear hx1
            generalize hb : dp s P i k = b at *
            have HBB := Lib.hid hb
            clear hb hk1
            cases b
            · by_cases hk0 : 0 < k
              · obtain ⟨k1, rfl⟩ : ∃ k1, k = k1 + 1 := ⟨k - 1, by omega⟩
                have c3 := HK.out.2.1.cell (k := k1) (by omega)
                have a3 := addn gn k1
                rw [if_pos (Nat.lt_succ_self k1)] at c3
                have HV : Hid (dp s P (i + 1) (k1 + 1) = dp s P (i + 1) k1) := by unfold Hid; rw [HD.out]; simp
                go_wp2_with fail
                exact ⟨⟨k1 + 1 + 1, by go_num, by omega, fr_next HK.out hne _ HV.out⟩, by simp [intOf]; omega⟩
              · obtain rfl : k = 0 := by omega
                have HV : Hid (dp s P (i + 1) 0 = false) := by unfold Hid; rw [HD.out]; simp
                go_wp2_with fail
                exact ⟨⟨1, by go_num, by omega, fr_next HK.out hne _ HV.out⟩, by simp [intOf]⟩
            · have HV : Hid (dp s P (i + 1) k = true) := by unfold Hid; rw [HD.out]; simp
              go_wp2_with fail
              exact ⟨⟨k + 1, by go_num, by omega, fr_next HK.out hne _ HV.out⟩, by simp [intOf]; omega⟩
          · have hx1' : ((x.k : Int) == 1) = false := by rw [beq_eq_false_iff_ne]; omega
            have HD := Lib.hid (dp_step (s := s) HPI.out (semR_step hx1) k)
            by_cases hk0 : 0 < k
            · obtain ⟨k1, rfl⟩ : ∃ k1, k = k1 + 1 := ⟨k - 1, by omega⟩
              have HSI : Hid (dp s P (i + 1) (k1 + 1) = (dp s P i k1 && isB x.k x.c x.nb x.ps (gb s k1))) := by
                unfold Hid; rw [HD.out, semR_is hx1 HOK.out.k3]; simp
              have hd : decide (0 < k1 + 1) = true := by simp
              have h0i : (0 : Int) ≤ (k1 : Int) := by omega
              have hki2 : (k1 : Int) < (s.size : Int) + 1 := by omega
              have hki3 : (k1 : Int) < (s.size : Int) := by omega
              have hks' : k1 < s.size := by omega
              have hgb := gb_eq s k1 hks'
              have e1 : IntKind.i64.wrap ((k1 : Int) + 1 - 1) = (k1 : Int) := by unfold IntKind.wrap; simp [IntKind.bits, IntKind.signed]; omega
              have a5 := addn g k1
              clear hk1 hk0 c1 c2
              have y3 : ∀ b : Bw wr, b.v.frozen? ⟨gn, k1 + 1, none⟩ = false := fun b => (HK.out.2.1.below b.h).free _
              have c3 : ∀ b : Bw wr, b.v.cell? ⟨gn, k1 + 1, none⟩ = some (.bool false) := fun b => by
                rw [(HK.out.2.1.below b.h).cell (by omega), if_neg (Nat.lt_irrefl _)]
              have c5 : ∀ b : Bw wr, b.v.cell? ⟨g, k1, none⟩ = some (.bool (dp s P i k1)) := fun b => (HK.out.1.below b.h).cell (by omega)
              generalize dp s P i k1 = d at *
              cases d
              · have HV : Hid (dp s P (i + 1) (k1 + 1) = false) := by unfold Hid; rw [HSI.out]; simp
                go_wp2_with fail
                refine wp_region_quiet_tail 23 (fun w' => ∃ b : Bw wr, w' = b.v) (by kernel_rfl) (by kernel_rfl) (bwC_drawn _) ?_
                simp only [List.take_succ_cons, List.take_zero, List.drop_succ_cons, List.drop_zero]
                repeat (go_big_quiet_step (fail))
                refine wpQuiet_nil ?_
                rintro _ ⟨b, rfl⟩
                have y4 := y3 b
                have c4 := c3 b
                have HN := Lib.hid (fr_next ⟨HK.out.1.below b.h, HK.out.2.1.below b.h, HK.out.2.2.trans (b.h.mono HK.out.2.2.size)⟩ hne _ HV.out)
                clear y3 c3
                generalize b.v = wz at *
                go_wp2_with fail
                exact ⟨⟨k1 + 1 + 1, by go_num, by omega, HN.out⟩, by simp [intOf]; omega⟩
              · have HV : Hid (dp s P (i + 1) (k1 + 1) = isB x.k x.c x.nb x.ps (gb s k1)) := by unfold Hid; rw [HSI.out]; simp
                have HCALL : Hid (∀ b : Bw wr, Calls Try.prog 27 #[.agg #[.int .i64 x.k, .int .u8 x.c.toNat, .bool x.nb, .slice x.A1 x.ps.length x.C1, .slice x.A2 x.ps.length x.C2], .int .u8 (gb s k1).toNat] b.v fun e w' => e = .returned (.bool (isB x.k x.c x.nb x.ps (gb s k1))) ∧ ∃ b' : Bw wr, w' = b'.v) := fun b =>
                  (is_any x.k x.c x.nb x.A1 x.A2 x.C1 x.C2 x.ps (gb s k1) b.v HOK.out.le ((HOK.out.lo.below (HK.out.2.2.trans (b.h.mono HK.out.2.2.size))).rd) ((HOK.out.hi.below (HK.out.2.2.trans (b.h.mono HK.out.2.2.size))).rd)).mono
                    fun e w' ⟨he, hb⟩ => ⟨he, ⟨w', b.h.trans (hb.mono b.h.size)⟩, rfl⟩
                have hlc : ∀ (q : Nat) (v : Value), q < 5 → x.cs[q]? = some v → ∀ b : Bw wr, b.v.cell? ⟨gl, i * 5 + q, none⟩ = some v := by
                  intro q v hq hv b
                  have h1 := HK.out.2.2.trans (b.h.mono HK.out.2.2.size)
                  rw [h1.cell (p := ⟨gl, i * 5 + q, none⟩) hgl, HCS.out q hq, hv]
                have l0 := hlc 0 _ (by omega) rfl
                have l1 := hlc 1 _ (by omega) rfl
                have l2 := hlc 2 _ (by omega) rfl
                have l3 := hlc 3 _ (by omega) rfl
                have l4 := hlc 4 _ (by omega) rfl
                rw [Nat.add_zero] at l0
                clear hlc
                go_wp2_with fail
                refine wp_region_quiet_tail 23 (fun w' => ∃ b : Bw wr, w' = b.v) (by kernel_rfl) (by kernel_rfl) (bwC_drawn _) ?_
                simp only [List.take_succ_cons, List.take_zero, List.drop_succ_cons, List.drop_zero]
                repeat (go_big_quiet_step (exact HCALL.out _))
                refine wpQuiet_nil ?_
                rintro _ ⟨b, rfl⟩
                have y4 := y3 b
                have c4 := c3 b
                have HN := Lib.hid (fr_next ⟨HK.out.1.below b.h, HK.out.2.1.below b.h, HK.out.2.2.trans (b.h.mono HK.out.2.2.size)⟩ hne _ HV.out)
                clear y3 c3
                generalize b.v = wz at *
                go_wp2_with fail
                exact ⟨⟨k1 + 1 + 1, by go_num, by omega, HN.out⟩, by simp [intOf]; omega⟩
            · have HV : Hid (dp s P (i + 1) k = false) := by unfold Hid; rw [HD.out]; simp [hk0]
              have hd : decide ((0 : Int) < (k : Int)) = false := by simp; omega
              have h0i : (0 : Int) ≤ (k : Int) := by omega
              have hki2 : (k : Int) < (s.size : Int) + 1 := by omega
              have hdn : decide (0 < k) = false := by simp; omega
              clear hk1 hk0 c1 c2
              have y3 : ∀ b : Bw wr, b.v.frozen? ⟨gn, k, none⟩ = false := fun b => (HK.out.2.1.below b.h).free k
              have c3 : ∀ b : Bw wr, b.v.cell? ⟨gn, k, none⟩ = some (.bool false) := fun b => by
                rw [(HK.out.2.1.below b.h).cell (by omega), if_neg (Nat.lt_irrefl k)]
              go_wp2_with fail
              refine wp_region_quiet_tail 23 (fun w' => ∃ b : Bw wr, w' = b.v) (by kernel_rfl) (by kernel_rfl) (bwC_drawn _) ?_
              simp only [List.take_succ_cons, List.take_zero, List.drop_succ_cons, List.drop_zero]
              repeat (go_big_quiet_step (fail))
              refine wpQuiet_nil ?_
              rintro _ ⟨b, rfl⟩
              have y4 := y3 b
              have c4 := c3 b
              have HN := Lib.hid (fr_next ⟨HK.out.1.below b.h, HK.out.2.1.below b.h, HK.out.2.2.trans (b.h.mono HK.out.2.2.size)⟩ hne _ HV.out)
              clear y3 c3
              generalize b.v = wz at *
              go_wp2_with fail
              exact ⟨⟨k + 1, by go_num, by omega, HN.out⟩, by simp [intOf]; omega⟩
        · have hkn : k = s.size + 1 := by omega
          have HE : Hid (Fr w wr gn (s.size + 1) (dp s P (i + 1)) ∧ Below w.heap.size w wr) := by
            refine ⟨HK.out.2.1.congr fun j hj => ?_, HK.out.2.2⟩
            rw [if_pos (by omega)]
          go_wp2_with fail
          go_roundw
          case rel => exact ⟨gn, i + 1, rfl, by go_num, by omega, HE.out⟩
          case measure => simp [intOf]; omega
    · have hin : i = xs.length := by omega
      subst hin
      go_wp2_with fail
      go_ret
      exact ⟨g, rfl, HG.out.1, HG.out.2⟩
end Go.Proofs.Ytpgaeldjiiaoiaa
