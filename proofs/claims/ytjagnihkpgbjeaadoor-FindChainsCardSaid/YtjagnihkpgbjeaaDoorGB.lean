import Derived.Test.YtjagnihkpgbjeaaDoorGA
import Derived.BigQuiet
import Derived.Deep.QuietTactic
import Derived.Deep.RegionHeld3
namespace Go.Proofs.YtjagnihkpgbjeaaDoor
open Go.RowKit Go.Maps Go.ChangeMaps
set_option linter.unusedVariables false
/-! Clone, Newer. -/
def StrP (L : List Bs) (w : World) (e : Ending) (w' : World) : Prop := ∃ v, e = .returned v ∧ StrO w w' v L
theorem Clone_any (v : Value) (L : List Bs) (w : World) (hv : SlS w v L) (hl : L.length ≤ 1000000) : Calls Tryd.prog 54 #[v] w (StrP L w) := by
  rcases hv with ⟨rfl, rfl⟩ | ⟨g, off, c, rfl, h1, h2, h3, h4⟩
  · refine (Tryd.slices_Clone_string_nil 0 0 w).mono ?_
    rintro e w' ⟨rfl, rfl⟩
    exact ⟨_, rfl, StrO.nil _ _ (Below.refl _ _)⟩
  · refine (Tryd.slices_Clone_string g off L.length c (L.map fun b => ⟨b.toArray⟩) w (by simp) (by omega) (fun j hj => ?_)).mono ?_
    · have hj' : j < L.length := by simpa using hj
      rw [h4 j hj', List.getD_eq_getElem?_getD, List.getElem?_map, List.getElem?_eq_getElem hj']; rfl
    · rintro e w' ⟨v', rfl, h5, _, h6⟩
      refine ⟨_, rfl, ?_, h6⟩
      rw [List.take_of_length_le (by simp)] at h5
      simpa [List.map_map, Function.comp_def] using h5
def newerF (T : Tr) (tg : Bs) (L : List Bs) : List Bs := if thF T tg then L.filter (fun x => decide (tmF T tg < tmF T x)) else L
theorem filter_take {p : Bs → Bool} (L : List Bs) (k : Nat) (h : k < L.length) (b : Bool) (hb : p L[k] = b) : (L.take (k + 1)).filter p = if b then (L.take k).filter p ++ [L[k]] else (L.take k).filter p := by
  rw [List.take_succ_eq_append_getElem h, List.filter_append]
  cases b <;> simp [hb]
section
variable {w : World} {B N f : Nat} {c : Cn} {T : Tr} {F : Nat → Prop} {s : Bz}
set_option maxRecDepth 100000 in
set_option maxHeartbeats 4000000 in
theorem Newer_no (hF : Fs w B N f c T F) (hs : Nm s) (v : Value) (L : List Bs) (hv : SlS w v L) (hl : L.length ≤ 1000) (ht : thF T s = false) :
    Calls Tryd.prog 35 #[.pointer (some ⟨f, 0, none⟩), .string ⟨#[47]⟩, .string (nameB s), v] w (StrP L w) := by
  have hba := below_alloc w (.cells #[.pointer (some ⟨f, 0, none⟩), .string ⟨#[47]⟩] 104)
  have HTH := Lib.hid (there_any (hF.below hba) hs false ht)
  have HC := Lib.hid (fun (w' : World) (hb : Below w.heap.size w w') => Clone_any v L w' (hv.below hb) (by omega))
  obtain ⟨a, d, rfl⟩ := hv.len
  obtain ⟨nb, hnb⟩ : ∃ nb, nameB s = nb := ⟨_, rfl⟩
  rw [hnb] at HTH ⊢
  clear hF hs hv ht hnb hba
  go_enter Tryd.func35, Tryd.ntmps35
  go_wp2_with (first
    | (go_at_call 62; refine HTH.out.mono ?_; rintro e w1 ⟨rfl, h1⟩; have H1 := Lib.hid (box2 h1); clear h1; simp only [])
    | (go_at_call 54; refine (HC.out _ H1.out.2.2).mono ?_; rintro e w2 ⟨u, rfl, h2⟩; have H2 := Lib.hid h2; clear h2; simp only []))
  go_ret
  exact ⟨_, rfl, H2.out.weak H1.out.2.2⟩
/-- The string's cell, and the slice that holds it alone. -/
theorem push_one {w0 w : World} {v : Value} {L : List Bs} (h : StrO w0 w v L) (b : Bs) (hl : L.length ≤ 1000000) :
    ∃ v' w', (Builtin.append_ #[29, 29] 29 #[v, .slice (some ⟨w.heap.size, 0, none⟩) 1 1]).run Tryd.prog (w.alloc (.cells #[.string ⟨b.toArray⟩] 9)) = .ok v' w' ∧ StrO w0 w' v' (L ++ [b]) := by
  have hb := below_alloc w (.cells #[.string ⟨b.toArray⟩] 9)
  refine (h.below hb).app (M := [b]) (.inr ⟨w.heap.size, 0, 1, rfl, by simp, by omega, by simp, fun i hi => ?_⟩) (by simp; omega)
  obtain rfl : i = 0 := by simpa using hi
  simp only [World.cell?, Nat.add_zero, heap_alloc_new w]; rfl
set_option maxRecDepth 100000 in
set_option maxHeartbeats 4000000 in
theorem Newer_yes (hF : Fs w B N f c T F) (hs : Nm s) (v : Value) (L : List Bs) (hv : SlS w v L) (hl : L.length ≤ 1000) (hL : ∀ x ∈ L, Nm x) (ht : thF T s = true) :
    Calls Tryd.prog 35 #[.pointer (some ⟨f, 0, none⟩), .string ⟨#[47]⟩, .string (nameB s), v] w (StrP (L.filter (fun x => decide (tmF T s < tmF T x))) w) := by
  have hba := below_alloc w (.cells #[.pointer (some ⟨f, 0, none⟩), .string ⟨#[47]⟩] 104)
  have HTH := Lib.hid (there_any (hF.below hba) hs true ht)
  obtain ⟨ta, hta⟩ : ∃ ta, tmF T s = ta := ⟨_, rfl⟩
  have HTM := Lib.hid (fun (w' : World) (x : Bs) (hx : Nm x) (k : Int) (hk : tmF T x = k) (hb : Below w.heap.size w w') => time_any (hF.below hb) hx k hk)
  have HTS := Lib.hid (fun (w' : World) (hb : Below w.heap.size w w') => time_any (hF.below hb) hs ta hta)
  have HL := Lib.hid hL
  have HSL := Lib.hid hv
  obtain ⟨a, d, rfl⟩ := hv.len
  obtain ⟨nb, hnb⟩ : ∃ nb, nameB s = nb := ⟨_, rfl⟩
  rw [hnb] at HTH HTS ⊢
  rw [hta]
  obtain ⟨n, hn⟩ : ∃ n, L.length = n := ⟨_, rfl⟩
  rw [hn] at hl HSL ⊢
  have HN := Lib.hid hn
  clear hF hs hv ht hnb hba hta hL hn
  go_enter Tryd.func35, Tryd.ntmps35
  go_wp2_with (go_at_call 62; refine HTH.out.mono ?_; rintro e w1 ⟨rfl, h1⟩; have H1 := Lib.hid (box2 h1); clear h1; simp only [])
  go_loopw [10, 24] (fun l i wr => ∃ k : Nat, k ≤ n ∧ i = .int .i64 k ∧ Hid (StrO w1 wr l ((L.take k).filter (fun x => decide (ta < tmF T x))))) (fun _ i _ => n - (intOf i).toNat)
  case atStart => exact ⟨0, by omega, rfl, StrO.nil _ _ (Below.refl _ _)⟩
  case round =>
    obtain ⟨k, hk, rfl, HR⟩ := hrel
    by_cases hlt : k < n
    · have hltI : (k : Int) < (n : Int) := by omega
      have h0 : (0 : Int) ≤ (k : Int) := by omega
      have hlr : k < L.length := by rw [HN.out]; exact hlt
      have HB : Hid (Below w.heap.size w wr) := H1.out.2.2.trans (HR.out.old.mono H1.out.2.2.size)
      obtain ⟨g, off, rfl, _, hc⟩ := strs_sl (HSL.out.below HB.out) (by omega)
      have hck := hc k hlr
      have hadd := addk g off k
      have p0 : wr.cell? ⟨w.heap.size, 0, none⟩ = some (.pointer (some ⟨f, 0, none⟩)) := by
        have hw1 : w.heap.size < w1.heap.size := World.block_lt_of_cell? _ _ H1.out.1
        rw [HR.out.old.cell (p := ⟨w.heap.size, 0, none⟩) hw1]; exact H1.out.1
      have p1 : wr.cell? ⟨w.heap.size, 1, none⟩ = some (.string ⟨#[47]⟩) := by
        have hw1 : w.heap.size < w1.heap.size := World.block_lt_of_cell? _ _ H1.out.1
        rw [HR.out.old.cell (p := ⟨w.heap.size, 1, none⟩) hw1]; exact H1.out.2.1
      clear hc
      obtain ⟨tx, htx⟩ : ∃ tx, tmF T L[k] = tx := ⟨_, rfl⟩
      have HX := Lib.hid (fun w' => HTM.out w' L[k] (HL.out _ (List.getElem_mem hlr)) tx htx)
      rw [show encStr L[k] = .string (nameB L[k]) from rfl] at hck
      have HNB : Hid (nameB L[k] = ⟨L[k].toArray⟩) := rfl
      obtain ⟨xb, hxb⟩ : ∃ xb, nameB L[k] = xb := ⟨_, rfl⟩
      rw [hxb] at HX hck HNB
      have hlw := World.block_lt_of_cell? _ _ p0
      have HCC : Hid (∀ w' : World, Below wr.heap.size wr w' → w'.cell? ⟨w.heap.size, 0, none⟩ = some (.pointer (some ⟨f, 0, none⟩)) ∧ w'.cell? ⟨w.heap.size, 1, none⟩ = some (.string ⟨#[47]⟩)) :=
        fun w' hb => ⟨(hb.cell (p := ⟨w.heap.size, 0, none⟩) hlw).trans p0, (hb.cell (p := ⟨w.heap.size, 1, none⟩) hlw).trans p1⟩
      have HFT : Hid (∀ b, decide (ta < tx) = b → (L.take (k + 1)).filter (fun x => decide (ta < tmF T x)) = if b then (L.take k).filter (fun x => decide (ta < tmF T x)) ++ [L[k]] else (L.take k).filter (fun x => decide (ta < tmF T x))) :=
        fun b hb => filter_take L k hlr b (by rw [htx]; exact hb)
      have HLT : Hid (((L.take k).filter (fun x => decide (ta < tmF T x))).length ≤ 1000000) := Nat.le_trans (List.length_filter_le _ _) (by simp; omega)
      clear htx hxb
      by_cases hcm : ta < tx
      · go_wp2_with fail
        go_region_held3 (fun w' => w'.cell? ⟨w.heap.size, 0, none⟩ = some (.pointer (some ⟨f, 0, none⟩)) ∧ w'.cell? ⟨w.heap.size, 1, none⟩ = some (.string ⟨#[47]⟩)) (first | exact HCC.out _ ((Below.refl _ _).drew.trans (hbq.trans (hbz.mono hbq.size))) | exact HCC.out _ ((Below.refl _ _).drew.trans hbq) | exact HCC.out _ (Below.refl _ _).drew) (first
          | (go_at_call 63; ((with_reducible refine (HX.out _ HB.out.drew).mono ?_)); rintro e wq ⟨rfl, hbq⟩)
          | (go_at_call 63; ((with_reducible refine (HTS.out _ (HB.out.drew.trans (hbq.mono HB.out.drew.size))).mono ?_)); rintro e wz ⟨rfl, hbz⟩))
        all_goals
          have HBZ : Hid (Below wr.heap.size wr wz) := (Below.refl _ _).drew.trans (hbq.trans (hbz.mono hbq.size))
          clear hbq hbz
          obtain ⟨v', w', hrun, hro⟩ := push_one (HR.out.below HBZ.out) L[k] HLT.out
          rw [← HNB.out] at hrun
          have HRO := Lib.hid hro
          have HRUN := Lib.hid hrun
          clear hrun hro
          go_wp2_with (at_builtin; refine wpList_run_append _ rfl _ _ 29 29 rfl _ _ rfl rfl HRUN.out ?_)
          exact ⟨⟨k + 1, by omega, by go_num, by rw [HFT.out true (decide_eq_true hcm)]; exact HRO.out⟩, by simp [intOf]; omega⟩
      · go_wp2_with fail
        go_region_held3 (fun w' => w'.cell? ⟨w.heap.size, 0, none⟩ = some (.pointer (some ⟨f, 0, none⟩)) ∧ w'.cell? ⟨w.heap.size, 1, none⟩ = some (.string ⟨#[47]⟩)) (first | exact HCC.out _ ((Below.refl _ _).drew.trans (hbq.trans (hbz.mono hbq.size))) | exact HCC.out _ ((Below.refl _ _).drew.trans hbq) | exact HCC.out _ (Below.refl _ _).drew) (first
          | (go_at_call 63; ((with_reducible refine (HX.out _ HB.out.drew).mono ?_)); rintro e wq ⟨rfl, hbq⟩)
          | (go_at_call 63; ((with_reducible refine (HTS.out _ (HB.out.drew.trans (hbq.mono HB.out.drew.size))).mono ?_)); rintro e wz ⟨rfl, hbz⟩))
        all_goals
          have HBZ : Hid (Below wr.heap.size wr wz) := (Below.refl _ _).drew.trans (hbq.trans (hbz.mono hbq.size))
          clear hbq hbz
          go_wp2_with fail
          exact ⟨⟨k + 1, by omega, by go_num, by rw [HFT.out false (decide_eq_false (Int.not_lt.2 hcm))]; exact HR.out.below HBZ.out⟩, by simp [intOf]; omega⟩
    · have hltI : ¬ (k : Int) < (n : Int) := by omega
      go_wp2_with fail
      go_ret
      refine ⟨_, rfl, ?_⟩
      have := HR.out
      rw [List.take_of_length_le (by rw [HN.out]; omega)] at this
      exact this.weak H1.out.2.2
end
end Go.Proofs.YtjagnihkpgbjeaaDoor
