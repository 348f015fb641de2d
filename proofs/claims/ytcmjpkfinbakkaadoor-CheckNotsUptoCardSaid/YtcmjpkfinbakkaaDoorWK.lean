import Derived.Test.YtcmjpkfinbakkaaDoorVT
import Derived.BigQuiet
import Derived.Deep.QuietTactic
import Derived.Deep.RegionHeld3
import Derived.Test.YtcmjpkfinbakkaaDoorXR
import Derived.Test.YtcmjpkfinbakkaaDoorVM
namespace Go.Proofs.YtcmjpkfinbakkaaDoor
set_option maxRecDepth 100000
open Go.RowKit Go.Maps Go.ChangeMaps
set_option linter.unusedVariables false
/-- The file system of VfsErrors is laid. -/
structure Laid3 (W w : World) (B N f : Nat) : Prop where
  fs : Fs w B N f c3 T3 (fun j => B ≤ j ∧ j < w.heap.size)
  old : Below W.heap.size W w
  le : W.heap.size ≤ B ∧ B ≤ w.heap.size
  n : N ≤ 10
theorem New_small (n m : Int) (hn0 : 0 ≤ n) (hn : n ≤ 10000) (hm0 : 0 ≤ m) (hm : m ≤ 1048576) (w : World) : Calls Tryd.prog 6 #[.int .i64 n, .int .i64 m] w fun e w1 => ∃ f, e = .returned (.pointer (some ⟨f, 0, none⟩)) ∧ Fs w1 w.heap.size 0 f ⟨n, m, 0, 0, 0⟩ newT (fun j => w.heap.size ≤ j ∧ j < w1.heap.size) ∧ Below w.heap.size w w1 := by
  refine (New_any n m w (B := w.heap.size) (N := 0) (Nat.le_refl _)).mono ?_
  rintro e w1 ⟨f, h1, h2, h3⟩
  rw [show min (max n 0) 10000 = n by omega, show min (max m 0) 1048576 = m by omega] at h2
  exact ⟨f, h1, h2.cap, h3⟩
/-- A changing call on a file system whose blocks are all from B on. -/
theorem mut_sx {w w' : World} {B N f : Nat} {c' : Cn} {T' : Tr} {er : Int} {e : Ending} (hB : B ≤ w.heap.size) (h : MutP w B N f (fun j => B ≤ j ∧ j < w.heap.size) er T' c' e w') :
    e = .returned (.int .i64 er) ∧ Fs w' B (N + 1) f c' T' (fun j => B ≤ j ∧ j < w'.heap.size) ∧ Below B w w' := by
  obtain ⟨h1, h2, h3⟩ := h
  refine ⟨h1, h2.cap.imp (fun j hj => ⟨?_, hj.2⟩), h3.below (fun k hk => hk.1) hB⟩
  rcases hj.1 with h | h
  · exact h.1
  · exact Nat.le_trans hB h
theorem fs_below {w w' : World} {B N f : Nat} {c : Cn} {T : Tr} (h : Fs w B N f c T (fun j => B ≤ j ∧ j < w.heap.size)) (hb : Below w.heap.size w w') : Fs w' B N f c T (fun j => B ≤ j ∧ j < w'.heap.size) :=
  (h.below hb).imp fun j hj => ⟨hj.1, Nat.lt_of_lt_of_le hj.2 hb.size⟩
theorem path_d' : findL ⟨#[47, 100]⟩ = [[100]] ∧ (∀ T, findE T ⟨#[47, 100]⟩ = (wayE T [] [[100]] : Nat)) ∧ PathOk ⟨#[47, 100]⟩ := pth _ _ (by decide +kernel) (by unfold Good; decide +kernel) (by decide +kernel)
theorem path_df : findL ⟨#[47, 100, 47, 102]⟩ = [[100], [102]] ∧ (∀ T, findE T ⟨#[47, 100, 47, 102]⟩ = (wayE T [] [[100], [102]] : Nat)) ∧ PathOk ⟨#[47, 100, 47, 102]⟩ := pth _ _ (by decide +kernel) (by unfold Good; decide +kernel) (by decide +kernel)
theorem path_de : findL ⟨#[47, 100, 47, 101]⟩ = [[100], [101]] ∧ (∀ T, findE T ⟨#[47, 100, 47, 101]⟩ = (wayE T [] [[100], [101]] : Nat)) ∧ PathOk ⟨#[47, 100, 47, 101]⟩ := pth _ _ (by decide +kernel) (by unfold Good; decide +kernel) (by decide +kernel)
theorem lay_d (w : World) {B f : Nat} (hB : B ≤ w.heap.size) (h : Fs w B 0 f ⟨9, 90, 0, 0, 0⟩ newT (fun j => B ≤ j ∧ j < w.heap.size)) :
    Calls Tryd.prog 7 #[.pointer (some ⟨f, 0, none⟩), .string ⟨#[47, 100]⟩] w fun e w' => e = .returned (.int .i64 0) ∧ Fs w' B 1 f ⟨9, 90, 1, 0, 1⟩ (setF newT [[100]] (some ⟨false, [], 1⟩)) (fun j => B ≤ j ∧ j < w'.heap.size) ∧ Below B w w' :=
  (Mkdir_any w _ h path_d'.2.2 ⟨by decide, by decide, by decide, by decide, by decide⟩ (by decide) hB 0 _ _ (by
    show mkdirF newT ⟨9, 90, 0, 0, 0⟩ ⟨#[47, 100]⟩ = _
    unfold mkdirF
    rw [if_neg (by rw [path_d'.2.1]; decide +kernel), path_d'.1, if_neg (by decide +kernel), if_neg (by decide)]
    rfl)).mono fun e w' hm => mut_sx hB hm
def T2 : Tr := setF (setF newT [[100]] (some ⟨false, [], 1⟩)) [[100], [102]] (some ⟨true, [120], 2⟩)
theorem lay_f (w : World) {B f : Nat} (hB : B ≤ w.heap.size) (h : Fs w B 1 f ⟨9, 90, 1, 0, 1⟩ (setF newT [[100]] (some ⟨false, [], 1⟩)) (fun j => B ≤ j ∧ j < w.heap.size)) :
    Calls Tryd.prog 8 #[.pointer (some ⟨f, 0, none⟩), .string ⟨#[47, 100, 47, 102]⟩, .slice (some ⟨w.heap.size, 0, none⟩) 1 1, .bool false] (w.alloc (.cells #[.int .u8 120] 5 (1, 2))) fun e w' => e = .returned (.int .i64 0) ∧ Fs w' B 2 f ⟨9, 90, 2, 1, 2⟩ T2 (fun j => B ≤ j ∧ j < w'.heap.size) ∧ Below B w w' := by
  have hb2 : Below w.heap.size w (w.alloc (.cells #[.int .u8 120] 5 (1, 2))) := (Below.refl _ _).alloc (Nat.le_refl _) _
  have hF2 := h.below hb2
  have hbin : Bin (w.alloc (.cells #[.int .u8 120] 5 (1, 2))) (.slice (some ⟨w.heap.size, 0, none⟩) ([120] : Bz).length 1) [120] := by
    refine ⟨_, _, rfl, fun i hi => ?_⟩
    have hi0 : i = 0 := by simp at hi; omega
    subst hi0
    exact ⟨w.heap.size, 0, rfl, by simp, World.cell?_alloc_mark w #[.int .u8 120] 5 (1, 2) 0⟩
  have hE : findE (setF newT [[100]] (some ⟨false, [], 1⟩)) ⟨#[47, 100, 47, 102]⟩ = 0 := by rw [path_df.2.1]; decide +kernel
  have hn : (setF newT [[100]] (some ⟨false, [], 1⟩)) (findL ⟨#[47, 100, 47, 102]⟩) = none := by rw [path_df.1]; rfl
  have HW := Write_new _ ⟨#[47, 100, 47, 102]⟩ false hF2 path_df.2.2 ⟨by decide, by decide, by decide, by decide, by decide⟩ (by decide) (Nat.le_trans hB hb2.size) hE hn [120] _ _ hbin (fun a ha hF => by cases ha; exact Nat.lt_irrefl _ hF.2) (by decide) (by decide) (by decide)
  rw [path_df.1] at HW
  refine HW.mono fun e w' hm => ?_
  obtain ⟨h1, h2, h3⟩ := hm
  refine ⟨h1, h2.cap.imp (fun j hj => ⟨?_, hj.2⟩), (hb2.mono hB |>.trans (h3.below (fun k hk => hk.1) (Nat.le_trans hB hb2.size)))⟩
  rcases hj.1 with h | h
  · exact h.1
  · exact Nat.le_trans (Nat.le_trans hB hb2.size) h
theorem lay_e (w : World) {B f : Nat} (hB : B ≤ w.heap.size) (h : Fs w B 2 f ⟨9, 90, 2, 1, 2⟩ T2 (fun j => B ≤ j ∧ j < w.heap.size)) :
    Calls Tryd.prog 7 #[.pointer (some ⟨f, 0, none⟩), .string ⟨#[47, 100, 47, 101]⟩] w fun e w' => e = .returned (.int .i64 0) ∧ Fs w' B 3 f c3 T3 (fun j => B ≤ j ∧ j < w'.heap.size) ∧ Below B w w' :=
  (Mkdir_any w _ h path_de.2.2 ⟨by decide, by decide, by decide, by decide, by decide⟩ (by decide) hB 0 _ _ (by
    show mkdirF T2 ⟨9, 90, 2, 1, 2⟩ ⟨#[47, 100, 47, 101]⟩ = _
    unfold mkdirF
    rw [if_neg (by rw [path_de.2.1]; decide +kernel), path_de.1, if_neg (by decide +kernel), if_neg (by decide)]
    rfl)).mono fun e w' hm => mut_sx hB hm
theorem fold_alloc : ∀ (l : List Obj) (w : World), (l.foldl World.alloc w).heap.size = w.heap.size + l.length ∧ (∀ i, i < l.length → (l.foldl World.alloc w).heap[w.heap.size + i]? = l[i]?) ∧ Below w.heap.size w (l.foldl World.alloc w)
  | [], w => ⟨rfl, fun i h => absurd h (by simp), Below.refl _ _⟩
  | o :: l, w => by
    obtain ⟨h1, h2, h3⟩ := fold_alloc l (w.alloc o)
    have hs : (w.alloc o).heap.size = w.heap.size + 1 := by simp
    have hb : Below w.heap.size w (w.alloc o) := (Below.refl _ _).alloc (Nat.le_refl _) _
    refine ⟨by show (l.foldl World.alloc (w.alloc o)).heap.size = _; rw [h1, hs]; simp; omega, fun i hi => ?_, hb.trans (h3.mono hb.size)⟩
    show (l.foldl World.alloc (w.alloc o)).heap[w.heap.size + i]? = _
    cases i with
    | zero =>
      rw [Nat.add_zero, h3.block _ (by rw [hs]; omega)]
      exact (MapKept.heap_alloc w o).1
    | succ i =>
      have := h2 i (by simpa using hi)
      rw [hs, show w.heap.size + 1 + i = w.heap.size + (i + 1) by omega] at this
      exact this
def strT : Array Value := #[.string ⟨#[47, 100, 47, 102, 47, 120]⟩, .string ⟨#[47, 110, 47, 120]⟩, .string ⟨#[47, 110]⟩, .string ⟨#[47, 100]⟩, .string ⟨#[47, 100, 47, 102]⟩, .string ⟨#[47]⟩, .string ⟨#[]⟩, .string ⟨#[47, 100, 47, 101]⟩]
def intT (l : List Int) : Array Value := (l.map (Value.int .i64)).toArray
def tabs : List Obj := [.cells strT 9, .cells (intT [11, 6, 6, 10, 0, 10, 1, 10]) 3, .cells (intT [11, 6, 6, 0, 11, 0, 1, 0]) 3, .cells (intT [11, 6, 0, 10, 0, 10, 1, 10]) 3, .cells (intT [11, 6, 0, 12, 12, 12, 1, 12]) 3, .cells (intT [11, 6, 6, 14, 0, 1, 1, 0]) 3, .cells (intT [11, 6, 0, 0, 0, 0, 1, 0]) 3]
theorem tab_cell {w : World} {i k : Nat} {a : Array Value} {t : TypeId} {v : Value} (hi : i < 7) (ho : tabs[i]? = some (.cells a t)) (hv : a[k]? = some v) : ∀ w', Below (w.heap.size + 7) (tabs.foldl World.alloc w) w' → w'.cell? ⟨w.heap.size + i, k, none⟩ = some v := by
  intro w' hb
  have h := (fold_alloc tabs w).2.1 i (by simpa [tabs] using hi)
  rw [ho, ← hb.block _ (by omega)] at h
  simp only [World.cell?, h]
  exact hv
/-- What stands in the six tables. -/
def Six (w : World) (b : Nat) (k : Nat) (ra rb rc rd re rg : Int) : Prop :=
  w.cell? ⟨b + 1, k, none⟩ = some (.int .i64 ra) ∧ w.cell? ⟨b + 2, k, none⟩ = some (.int .i64 rb) ∧ w.cell? ⟨b + 3, k, none⟩ = some (.int .i64 rc) ∧ w.cell? ⟨b + 4, k, none⟩ = some (.int .i64 rd) ∧ w.cell? ⟨b + 5, k, none⟩ = some (.int .i64 re) ∧ w.cell? ⟨b + 6, k, none⟩ = some (.int .i64 rg)
structure Row (k : Nat) (p : ByteArray) (ra rb rc rd re rg : Int) : Prop where
  p : strT[k]? = some (.string p)
  a : (intT [11, 6, 6, 10, 0, 10, 1, 10])[k]? = some (.int .i64 ra)
  b : (intT [11, 6, 6, 0, 11, 0, 1, 0])[k]? = some (.int .i64 rb)
  c : (intT [11, 6, 0, 10, 0, 10, 1, 10])[k]? = some (.int .i64 rc)
  d : (intT [11, 6, 0, 12, 12, 12, 1, 12])[k]? = some (.int .i64 rd)
  e : (intT [11, 6, 6, 14, 0, 1, 1, 0])[k]? = some (.int .i64 re)
  g : (intT [11, 6, 0, 0, 0, 0, 1, 0])[k]? = some (.int .i64 rg)
theorem six_of {k : Nat} {p : ByteArray} {ra rb rc rd re rg : Int} (h : Row k p ra rb rc rd re rg) {w w' : World} (hb : Below (w.heap.size + 7) (tabs.foldl World.alloc w) w') : Six w' w.heap.size k ra rb rc rd re rg :=
  ⟨tab_cell (by decide) rfl h.a w' hb, tab_cell (by decide) rfl h.b w' hb, tab_cell (by decide) rfl h.c w' hb, tab_cell (by decide) rfl h.d w' hb, tab_cell (by decide) rfl h.e w' hb, tab_cell (by decide) rfl h.g w' hb⟩
theorem copy_old {w0 w w' : World} {N f : Nat} {c : Cn} {T : Tr} {B : Nat} {F : Nat → Prop} (hF : Fs w0 B N f c T F) (hb : Below w0.heap.size w0 w) (hB : B ≤ w0.heap.size) (hN : N < 1000000) (hd : ∀ p n, T p = some n → n.data.length ≤ 1000000) : Calls Tryd.prog 11 #[.pointer (some ⟨f, 0, none⟩)] w (CopyFP w N c T) :=
  Copy_any (hF.below hb) (Nat.le_trans hB hb.size) hN hd
theorem Fs.only {w w' : World} {B N f : Nat} {c : Cn} {T : Tr} {F X : Nat → Prop} (h : Fs w B N f c T F) (ho : Only X w w') (hx : ∀ k, X k → ¬ F k) : Fs w' B N f c T F := by
  obtain ⟨A, M, V, hT, hft, hr⟩ := h
  exact ⟨A, M, V, hT.only ho (fun k hk hf => hx k hk (hft k hf)), hft, hr⟩
set_option pp.maxSteps 6000 in
set_option maxHeartbeats 8000000 in
theorem errs_setup (k : Nat) (hk : k < 8) (p : ByteArray) (ra rb rc rd re rg : Int) (ht : Tells p ra rb rc rd re rg) (hrow : Row k p ra rb rc rd re rg) (W : World) :
    Calls Tryd.prog 3 #[.int .i64 k] W fun e w' => e = .returned (.bool true) ∧ Below W.heap.size W w' := by
  have HA := Lib.hid (alive_any W)
  have HNEW := Lib.hid (fun w => New_small 9 90 (by decide) (by decide) (by decide) (by decide) w)
  go_enter Tryd.func3, Tryd.ntmps3
  go_upto_region 13 with (first
    | (go_at_call 5; refine HA.out.mono ?_; rintro e w0 ⟨rfl, h0⟩; have H0 := Lib.hid h0; clear h0; simp only [])
    | (go_at_call 6; refine (HNEW.out _).mono ?_; rintro e w1 ⟨f, rfl, h1, h1b⟩; have HL0 := Lib.hid h1b.size; have HB1 := Lib.hid (H0.out.trans (h1b.mono H0.out.size)); have HM := Lib.hid (lay_d w1 h1b.size h1); clear h1 h1b; simp only [])
    | (go_at_call 7; first
        | ((with_reducible refine HM.out.mono ?_); rintro e w2 ⟨rfl, h2, h2b⟩; have HB2 := Lib.hid (HB1.out.trans (h2b.mono H0.out.size)); have HL2 := Lib.hid (Nat.le_trans HL0.out h2b.size); have HWF := Lib.hid (lay_f w2 (Nat.le_trans HL0.out h2b.size) h2); have hcv := Lib.run_convert_bytes_const w2 28 5 #[.int .u8 120] 1 1 Tryd.underlying28 Tryd.underlying5; clear h2 h2b; simp only [])
        | ((with_reducible refine HM2.out.mono ?_); rintro e w4 ⟨rfl, h4, h4b⟩; have HF4 := Lib.hid h4; have HB4 := Lib.hid (HB3.out.trans (h4b.mono H0.out.size)); have HL4 := Lib.hid (Nat.le_trans HL3.out h4b.size); clear h4 h4b; simp only []))
    | (go_at_call 8; refine HWF.out.mono ?_; rintro e w3 ⟨rfl, h3, h3b⟩; have HB3 := Lib.hid (HB2.out.trans (h3b.mono H0.out.size)); have HL3 := Lib.hid (Nat.le_trans HL2.out h3b.size); have HM2 := Lib.hid (lay_e w3 (Nat.le_trans HL2.out h3b.size) h3); clear h3 h3b hcv; simp only []))
  obtain ⟨W7, hW7⟩ : ∃ W7, tabs.foldl World.alloc w4 = W7 := ⟨_, rfl⟩
  have hfa := fold_alloc tabs w4
  rw [hW7] at hfa
  obtain ⟨hs7, _, hb7⟩ := hfa
  have hs7 : W7.heap.size = w4.heap.size + 7 := hs7
  have HS : Hid (∀ w', Below W7.heap.size W7 w' → Six w' w4.heap.size k ra rb rc rd re rg) := fun w' hb => six_of hrow (by rw [hW7, ← hs7]; exact hb)
  have hp5 : W7.cell? ⟨w4.heap.size, k, none⟩ = some (.string p) := by
    have := tab_cell (w := w4) (i := 0) (by decide) rfl hrow.p W7 (by rw [hW7]; exact Below.refl _ _)
    simpa using this
  unfold tabs strT intT at hW7
  simp only [List.foldl, List.map] at hW7
  rw [hW7]
  have HF7 := Lib.hid (HF4.out.below hb7)
  have HB7 := Lib.hid (HB4.out.trans (hb7.mono HB4.out.size))
  have HL7 : Hid (w0.heap.size ≤ W7.heap.size) := Nat.le_trans HL4.out hb7.size
  have HRD := Lib.hid (ht.read W7 _ _ _ _ HF7.out)
  have HLS : Hid (∀ w', Below W7.heap.size W7 w' → Calls Tryd.prog 10 #[.pointer (some ⟨f, 0, none⟩), .string p] w' fun e w2 => ∃ a n c, e = .returned (.tuple #[.slice a n c, .int .i64 rb]) ∧ Below w'.heap.size w' w2) := fun w' hb => ht.list w' _ _ _ _ (HF7.out.below hb) (by decide)
  have HCP : Hid (∀ w', Below W7.heap.size W7 w' → Calls Tryd.prog 11 #[.pointer (some ⟨f, 0, none⟩)] w' (CopyFP w' 3 c3 T3)) := fun w' hb => Copy_any (HF7.out.below hb) (Nat.le_trans HL7.out hb.size) (by decide) T3_data
  have HS7 := Lib.hid hs7
  generalize w4.heap.size = b0 at hp5 HS HS7 ⊢
  have k0 : decide ((k : Int) < 0) = false := decide_eq_false (by omega)
  have k8 : decide ((8 : Int) ≤ (k : Int)) = false := decide_eq_false (by omega)
  have k8I : ¬ (8 : Int) ≤ (k : Int) := by omega
  have k0I : (0 : Int) ≤ (k : Int) := by omega
  have kI : (k : Int) < 8 := by omega
  have HTl := Lib.hid ht
  clear hW7 hs7 hb7 ht hrow
  go_upto_region 22 with (first
    | (go_at_call 9; refine HRD.out.mono ?_; rintro e w8 ⟨ra_, rn_, rc_, rfl, h8⟩; have HB8 := Lib.hid h8; clear h8; simp only [])
    | (go_at_call 10; refine (HLS.out _ HB8.out).mono ?_; rintro e w9 ⟨la_, ln_, lc_, rfl, h9⟩; have HB9 := Lib.hid (HB8.out.trans (h9.mono HB8.out.size)); clear h9; simp only [])
    | (go_at_call 11; have hz := HWe.out; clear hz; refine (HCP.out _ HWe.out).mono ?_; rintro e wg ⟨fg, rfl, h1, h2⟩; have HFg := Lib.hid h1; have HBg := Lib.hid h2; have HWg := Lib.hid (HWe.out.trans (h2.mono HWe.out.size)); clear h1 h2; simp only [])
    | (go_at_call 11; have hz := HWd.out; clear hz; refine (HCP.out _ HWd.out).mono ?_; rintro e we ⟨fe, rfl, h1, h2⟩; have HFe := Lib.hid h1; have HBe := Lib.hid h2; have HWe := Lib.hid (HWd.out.trans (h2.mono HWd.out.size)); clear h1 h2; simp only [])
    | (go_at_call 11; have hz := HWc.out; clear hz; refine (HCP.out _ HWc.out).mono ?_; rintro e wd ⟨fd, rfl, h1, h2⟩; have HFd := Lib.hid h1; have HBd := Lib.hid h2; have HWd := Lib.hid (HWc.out.trans (h2.mono HWc.out.size)); clear h1 h2; simp only [])
    | (go_at_call 11; refine (HCP.out _ HB9.out).mono ?_; rintro e wc ⟨fc, rfl, h1, h2⟩; have HFc := Lib.hid h1; have HBc := Lib.hid h2; have HWc := Lib.hid (HB9.out.trans (h2.mono HB9.out.size)); clear h1 h2; simp only []))
  obtain ⟨b1, hb1⟩ : ∃ b1, b0 + 1 = b1 := ⟨_, rfl⟩
  rw [hb1]
  obtain ⟨b2, hb2⟩ : ∃ b2, b1 + 1 = b2 := ⟨_, rfl⟩
  rw [hb2]
  obtain ⟨b3, hb3⟩ : ∃ b3, b2 + 1 = b3 := ⟨_, rfl⟩
  rw [hb3]
  obtain ⟨b4, hb4⟩ : ∃ b4, b3 + 1 = b4 := ⟨_, rfl⟩
  rw [hb4]
  obtain ⟨b5, hb5⟩ : ∃ b5, b4 + 1 = b5 := ⟨_, rfl⟩
  rw [hb5]
  obtain ⟨b6, hb6⟩ : ∃ b6, b5 + 1 = b6 := ⟨_, rfl⟩
  rw [hb6]
  have hs9 : W7.heap.size ≤ w9.heap.size := HB9.out.size
  have hsc : w9.heap.size ≤ wc.heap.size := HBc.out.size
  have hsd : wc.heap.size ≤ wd.heap.size := HBd.out.size
  have hse : wd.heap.size ≤ we.heap.size := HBe.out.size
  have hsg : we.heap.size ≤ wg.heap.size := HBg.out.size
  have hs7 : W7.heap.size = b0 + 7 := HS7.out
  have HCC : Hid (∀ w', Below w9.heap.size wg w' → w'.cell? ⟨b1, k, none⟩ = some (.int .i64 ra) ∧ w'.cell? ⟨b2, k, none⟩ = some (.int .i64 rb) ∧ w'.cell? ⟨b3, k, none⟩ = some (.int .i64 rc) ∧ w'.cell? ⟨b4, k, none⟩ = some (.int .i64 rd) ∧ w'.cell? ⟨b5, k, none⟩ = some (.int .i64 re) ∧ w'.cell? ⟨b6, k, none⟩ = some (.int .i64 rg)) := fun w' hb => by
    obtain ⟨h1, h2, h3, h4, h5, h6⟩ := HS.out wg HWg.out
    rw [show b0 + 1 = b1 by omega] at h1
    rw [show b0 + 2 = b2 by omega] at h2
    rw [show b0 + 3 = b3 by omega] at h3
    rw [show b0 + 4 = b4 by omega] at h4
    rw [show b0 + 5 = b5 by omega] at h5
    rw [show b0 + 6 = b6 by omega] at h6
    exact ⟨(hb.cell (p := ⟨b1, _, none⟩) (show b1 < w9.heap.size by omega)).trans h1, (hb.cell (p := ⟨b2, _, none⟩) (show b2 < w9.heap.size by omega)).trans h2, (hb.cell (p := ⟨b3, _, none⟩) (show b3 < w9.heap.size by omega)).trans h3, (hb.cell (p := ⟨b4, _, none⟩) (show b4 < w9.heap.size by omega)).trans h4, (hb.cell (p := ⟨b5, _, none⟩) (show b5 < w9.heap.size by omega)).trans h5, (hb.cell (p := ⟨b6, _, none⟩) (show b6 < w9.heap.size by omega)).trans h6⟩
  have hde : Below wd.heap.size wd wg := HBe.out.trans (HBg.out.mono hse)
  have hce : Below wc.heap.size wc wg := HBd.out.trans (hde.mono hsd)
  have HC8 : Hid (∀ w', Below wg.heap.size wg w' → Calls Tryd.prog 8 #[.pointer (some ⟨fc, 0, none⟩), .string p, .slice none 0 0, .bool false] w' fun e w2 => e = .returned (.int .i64 rc) ∧ Only (fun j => w9.heap.size ≤ j ∧ j < wc.heap.size) wg w2 ∧ Below w9.heap.size wg w2) := fun w' hb => by
    refine (HTl.out.write w' _ _ _ _ ((HFc.out.below hce).below hb) (by decide) (by have := hb.size; omega)).mono ?_
    rintro e w2 ⟨rfl, h2⟩
    have h3 : Only (fun j => w9.heap.size ≤ j ∧ j < wc.heap.size) wg w2 := (Only.of_below hb).trans h2 (fun _ h => h) (fun _ _ h => h)
    exact ⟨rfl, h3, h3.below (fun k hk => hk.1) (by omega)⟩
  have HC7 : Hid (∀ w', Only (fun j => w9.heap.size ≤ j ∧ j < wc.heap.size) wg w' → Calls Tryd.prog 7 #[.pointer (some ⟨fd, 0, none⟩), .string p] w' fun e w2 => e = .returned (.int .i64 rd) ∧ Only (fun j => w9.heap.size ≤ j ∧ j < wd.heap.size) wg w2 ∧ Below w9.heap.size wg w2) := fun w' ho => by
    refine (HTl.out.mkdir w' _ _ _ _ ((HFd.out.below hde).only ho (fun k hk hf => by omega)) (by decide) (by have := ho.size; omega)).mono ?_
    rintro e w2 ⟨rfl, h2⟩
    have h3 : Only (fun j => w9.heap.size ≤ j ∧ j < wd.heap.size) wg w2 := ho.trans h2 (fun j h => ⟨h.1, by omega⟩) (fun j _ h => ⟨by omega, h.2⟩)
    exact ⟨rfl, h3, h3.below (fun k hk => hk.1) (by omega)⟩
  have HC13 : Hid (∀ w', Only (fun j => w9.heap.size ≤ j ∧ j < wd.heap.size) wg w' → Calls Tryd.prog 13 #[.pointer (some ⟨fe, 0, none⟩), .string p] w' fun e w2 => e = .returned (.int .i64 re) ∧ Only (fun j => w9.heap.size ≤ j ∧ j < we.heap.size) wg w2 ∧ Below w9.heap.size wg w2) := fun w' ho => by
    refine (HTl.out.remove w' _ _ _ _ ((HFe.out.below HBg.out).only ho (fun k hk hf => by omega)) (by decide) (by have := ho.size; omega)).mono ?_
    rintro e w2 ⟨rfl, h2⟩
    have h3 : Only (fun j => w9.heap.size ≤ j ∧ j < we.heap.size) wg w2 := ho.trans h2 (fun j h => ⟨h.1, by omega⟩) (fun j _ h => ⟨by omega, h.2⟩)
    exact ⟨rfl, h3, h3.below (fun k hk => hk.1) (by omega)⟩
  have HC14 : Hid (∀ w', Only (fun j => w9.heap.size ≤ j ∧ j < we.heap.size) wg w' → Calls Tryd.prog 14 #[.pointer (some ⟨fg, 0, none⟩), .string p] w' fun e w2 => e = .returned (.int .i64 rg) ∧ Only (fun j => w9.heap.size ≤ j ∧ j < wg.heap.size) wg w2 ∧ Below w9.heap.size wg w2) := fun w' ho => by
    refine (HTl.out.touch w' _ _ _ _ (HFg.out.only ho (fun k hk hf => by omega)) (by decide) (by have := ho.size; omega)).mono ?_
    rintro e w2 ⟨rfl, h2⟩
    have h3 : Only (fun j => w9.heap.size ≤ j ∧ j < wg.heap.size) wg w2 := ho.trans h2 (fun j h => ⟨h.1, by omega⟩) (fun j _ h => ⟨by omega, h.2⟩)
    exact ⟨rfl, h3, h3.below (fun k hk => hk.1) (by omega)⟩
  obtain ⟨c1, c2, c3_, c4, c5, c6⟩ := HCC.out wg (Below.refl _ _)
  have HFIN : Hid (∀ w', Below w9.heap.size wg w' → Below W.heap.size W w') := fun w' hb => (HB7.out.trans (HWg.out.mono HB7.out.size)).trans (hb.mono (Nat.le_trans HB7.out.size hs9))
  have HNUM := Lib.hid num_any
  clear hb1 hb2 hb3 hb4 hb5 hb6 hs9 hsc hsd hse hsg hs7 hde hce
  go_region_held3 (fun w' => w'.cell? ⟨b1, k, none⟩ = some (.int .i64 ra) ∧ w'.cell? ⟨b2, k, none⟩ = some (.int .i64 rb) ∧ w'.cell? ⟨b3, k, none⟩ = some (.int .i64 rc) ∧ w'.cell? ⟨b4, k, none⟩ = some (.int .i64 rd) ∧ w'.cell? ⟨b5, k, none⟩ = some (.int .i64 re) ∧ w'.cell? ⟨b6, k, none⟩ = some (.int .i64 rg)) (first | exact HCC.out _ hbq14 | exact HCC.out _ hbq13 | exact HCC.out _ hbq7 | exact HCC.out _ hbq8 | exact HCC.out _ (Below.refl _ _).drew) (first
    | (go_at_call 12; ((with_reducible refine (HNUM.out _ _).mono ?_)); rintro e wq ⟨rfl, rfl⟩)
    | (go_at_call 8; ((with_reducible refine (HC8.out _ (Below.refl _ _).drew).mono ?_)); rintro e wq8 ⟨rfl, hoq8, hbq8⟩)
    | (go_at_call 7; ((with_reducible refine (HC7.out _ hoq8).mono ?_)); rintro e wq7 ⟨rfl, hoq7, hbq7⟩)
    | (go_at_call 13; ((with_reducible refine (HC13.out _ hoq7).mono ?_)); rintro e wq13 ⟨rfl, hoq13, hbq13⟩)
    | (go_at_call 14; ((with_reducible refine (HC14.out _ hoq13).mono ?_)); rintro e wq14 ⟨rfl, hoq14, hbq14⟩))
  all_goals
    have HZ := Lib.hid (HFIN.out _ hbq14)
    clear hbq14 hbq13 hbq7 hbq8 hoq14 hoq13 hoq7 hoq8
    go_wp2_with fail
    go_ret
    exact ⟨rfl, HZ.out⟩
set_option maxHeartbeats 8000000 in
theorem errs_out (n : Int) (h : n < 0 ∨ 8 ≤ n) (W : World) :
    Calls Tryd.prog 3 #[.int .i64 n] W fun e w' => e = .returned (.bool true) ∧ Below W.heap.size W w' := by
  by_cases h0 : n < 0
  · have d0 : decide (n < 0) = true := decide_eq_true h0
    clear h
    have HA := Lib.hid (alive_any W)
    have HNEW := Lib.hid (fun w => New_small 9 90 (by decide) (by decide) (by decide) (by decide) w)
    go_enter Tryd.func3, Tryd.ntmps3
    go_wp2_with (first
      | (go_at_call 5; refine HA.out.mono ?_; rintro e w0 ⟨rfl, h0⟩; have H0 := Lib.hid h0; clear h0; simp only [])
      | (go_at_call 6; refine (HNEW.out _).mono ?_; rintro e w1 ⟨f, rfl, h1, h1b⟩; have HL0 := Lib.hid h1b.size; have HB1 := Lib.hid (H0.out.trans (h1b.mono H0.out.size)); have HM := Lib.hid (lay_d w1 h1b.size h1); clear h1 h1b; simp only [])
      | (go_at_call 7; first
          | ((with_reducible refine HM.out.mono ?_); rintro e w2 ⟨rfl, h2, h2b⟩; have HB2 := Lib.hid (HB1.out.trans (h2b.mono H0.out.size)); have HL2 := Lib.hid (Nat.le_trans HL0.out h2b.size); have HWF := Lib.hid (lay_f w2 (Nat.le_trans HL0.out h2b.size) h2); have hcv := Lib.run_convert_bytes_const w2 28 5 #[.int .u8 120] 1 1 Tryd.underlying28 Tryd.underlying5; clear h2 h2b; simp only [])
          | ((with_reducible refine HM2.out.mono ?_); rintro e w4 ⟨rfl, h4, h4b⟩; have HF4 := Lib.hid h4; have HB4 := Lib.hid (HB3.out.trans (h4b.mono H0.out.size)); have HL4 := Lib.hid (Nat.le_trans HL3.out h4b.size); clear h4 h4b; simp only []))
      | (go_at_call 8; refine HWF.out.mono ?_; rintro e w3 ⟨rfl, h3, h3b⟩; have HB3 := Lib.hid (HB2.out.trans (h3b.mono H0.out.size)); have HL3 := Lib.hid (Nat.le_trans HL2.out h3b.size); have HM2 := Lib.hid (lay_e w3 (Nat.le_trans HL2.out h3b.size) h3); clear h3 h3b hcv; simp only []))
    go_ret
    exact ⟨rfl, ((((((HB4.out.alloc (HB4.out.size) _).alloc (by have := HB4.out.size; simp; omega) _).alloc (by have := HB4.out.size; simp; omega) _).alloc (by have := HB4.out.size; simp; omega) _).alloc (by have := HB4.out.size; simp; omega) _).alloc (by have := HB4.out.size; simp; omega) _).alloc (by have := HB4.out.size; simp; omega) _⟩
  · have d0 : decide (n < 0) = false := decide_eq_false h0
    have d8 : decide ((8 : Int) ≤ n) = true := decide_eq_true (by omega)
    have d8I : (8 : Int) ≤ n := by omega
    clear h
    have HA := Lib.hid (alive_any W)
    have HNEW := Lib.hid (fun w => New_small 9 90 (by decide) (by decide) (by decide) (by decide) w)
    go_enter Tryd.func3, Tryd.ntmps3
    go_wp2_with (first
      | (go_at_call 5; refine HA.out.mono ?_; rintro e w0 ⟨rfl, h0⟩; have H0 := Lib.hid h0; clear h0; simp only [])
      | (go_at_call 6; refine (HNEW.out _).mono ?_; rintro e w1 ⟨f, rfl, h1, h1b⟩; have HL0 := Lib.hid h1b.size; have HB1 := Lib.hid (H0.out.trans (h1b.mono H0.out.size)); have HM := Lib.hid (lay_d w1 h1b.size h1); clear h1 h1b; simp only [])
      | (go_at_call 7; first
          | ((with_reducible refine HM.out.mono ?_); rintro e w2 ⟨rfl, h2, h2b⟩; have HB2 := Lib.hid (HB1.out.trans (h2b.mono H0.out.size)); have HL2 := Lib.hid (Nat.le_trans HL0.out h2b.size); have HWF := Lib.hid (lay_f w2 (Nat.le_trans HL0.out h2b.size) h2); have hcv := Lib.run_convert_bytes_const w2 28 5 #[.int .u8 120] 1 1 Tryd.underlying28 Tryd.underlying5; clear h2 h2b; simp only [])
          | ((with_reducible refine HM2.out.mono ?_); rintro e w4 ⟨rfl, h4, h4b⟩; have HF4 := Lib.hid h4; have HB4 := Lib.hid (HB3.out.trans (h4b.mono H0.out.size)); have HL4 := Lib.hid (Nat.le_trans HL3.out h4b.size); clear h4 h4b; simp only []))
      | (go_at_call 8; refine HWF.out.mono ?_; rintro e w3 ⟨rfl, h3, h3b⟩; have HB3 := Lib.hid (HB2.out.trans (h3b.mono H0.out.size)); have HL3 := Lib.hid (Nat.le_trans HL2.out h3b.size); have HM2 := Lib.hid (lay_e w3 (Nat.le_trans HL2.out h3b.size) h3); clear h3 h3b hcv; simp only []))
    go_ret
    exact ⟨rfl, ((((((HB4.out.alloc (HB4.out.size) _).alloc (by have := HB4.out.size; simp; omega) _).alloc (by have := HB4.out.size; simp; omega) _).alloc (by have := HB4.out.size; simp; omega) _).alloc (by have := HB4.out.size; simp; omega) _).alloc (by have := HB4.out.size; simp; omega) _).alloc (by have := HB4.out.size; simp; omega) _⟩
theorem vfserrors_walk (n : Int) (W : World) : Calls Tryd.prog 3 #[.int .i64 n] W fun e w' => e = .returned (.bool true) ∧ Below W.heap.size W w' := by
  by_cases h : n < 0 ∨ 8 ≤ n
  · exact errs_out n h W
  · obtain ⟨k, rfl⟩ : ∃ k : Nat, n = k := ⟨n.toNat, by omega⟩
    have hk : k < 8 := by omega
    match k, hk with
    | 0, _ => exact errs_setup 0 (by decide) _ _ _ _ _ _ _ tells0 ⟨rfl, rfl, rfl, rfl, rfl, rfl, rfl⟩ W
    | 1, _ => exact errs_setup 1 (by decide) _ _ _ _ _ _ _ tells1 ⟨rfl, rfl, rfl, rfl, rfl, rfl, rfl⟩ W
    | 2, _ => exact errs_setup 2 (by decide) _ _ _ _ _ _ _ tells2 ⟨rfl, rfl, rfl, rfl, rfl, rfl, rfl⟩ W
    | 3, _ => exact errs_setup 3 (by decide) _ _ _ _ _ _ _ tells3 ⟨rfl, rfl, rfl, rfl, rfl, rfl, rfl⟩ W
    | 4, _ => exact errs_setup 4 (by decide) _ _ _ _ _ _ _ tells4 ⟨rfl, rfl, rfl, rfl, rfl, rfl, rfl⟩ W
    | 5, _ => exact errs_setup 5 (by decide) _ _ _ _ _ _ _ tells5 ⟨rfl, rfl, rfl, rfl, rfl, rfl, rfl⟩ W
    | 6, _ => exact errs_setup 6 (by decide) _ _ _ _ _ _ _ tells6 ⟨rfl, rfl, rfl, rfl, rfl, rfl, rfl⟩ W
    | 7, _ => exact errs_setup 7 (by decide) _ _ _ _ _ _ _ tells7 ⟨rfl, rfl, rfl, rfl, rfl, rfl, rfl⟩ W
end Go.Proofs.YtcmjpkfinbakkaaDoor

namespace Go.Proofs.YtcmjpkfinbakkaaDoor
set_option maxRecDepth 100000
open Go.RowKit Go.Maps Go.ChangeMaps
set_option linter.unusedVariables false

/-- A path that Abs tells. -/
theorem abs_path (x : ByteArray) (rs : Bs) (h : abs_ root1 x = (rs, 0)) : PathOk ⟨rs.toArray⟩ := by
  unfold abs_ at h
  split at h
  · cases h
  · rename_i hz
    split at h
    · cases h
    · rename_i hs
      split at h
      · cases h
      · rename_i hf
        injection h with h1 h2
        subst h1
        obtain ⟨L, hL⟩ : ∃ L, parts root1 x = L := ⟨_, rfl⟩
        have hG := parts_good root1 x
        rw [hL] at hs hf hG ⊢
        have hw : (⟨(written L).toArray⟩ : ByteArray).data.toList = written L := by simp
        have hsz : (⟨(written L).toArray⟩ : ByteArray).size = (written L).length := rfl
        have hpos : 0 < (written L).length := by
          cases L with
          | nil => decide
          | cons a r => unfold written; rw [if_neg (by simp), joined_cons]; omega
        refine (path_of (p := ⟨(written L).toArray⟩) (L := L) ?_ hG (fun y hy => ?_) (by omega) (by omega) (by omega) (by omega) ?_).2.2
        · rw [parts_eq, hw]
          exact partsL_written _ hG
        · by_cases hh : 60 < y.length
          · exact absurd ⟨y, hy, hh⟩ hs
          · omega
        · rw [hw]
          intro c hc hc0
          subst hc0
          rcases written_bytes hc with e | ⟨y, hy, hyc⟩
          · cases e
          · rw [← hL, parts_eq] at hy
            rcases partsL_bytes hy 0 hyc with e | e
            · exact absurd e (by decide)
            · exact hz (.inr (.inl ((at_mem x 0).2 e)))
section
variable {f : Nat} {p : ByteArray} {w : World} {B N : Nat} {tl : List Value} {T : Tr} {A : Pth → Nat} {M : Pth → Option Nat} {V : Pth → Value} {r0 : Nd}
theorem find_some {n : Nd} (hT : TreeAt w B N f 47 tl T A M V) (h0 : T [] = some r0) (hr0 : r0.file = false) (hp : PathOk p) (hE : findE T p = 0) (hn : T (findL p) = some n) :
    Calls Tryd.prog 20 #[.pointer (some ⟨f, 0, none⟩), .string p] w fun e w' => (∃ a b c d l, e = .returned (.tuple #[.agg #[.pointer a, .string b, .pointer (some ⟨A (findL p), 0, none⟩), .slice c l d], .int .i64 0])) ∧ Below w.heap.size w w' := by
  rcases List.eq_nil_or_concat (findL p) with hL | ⟨d, k, hL⟩
  · refine (find_root hT h0 hr0 hp hE hL).mono ?_
    rintro e w' ⟨rfl, h2⟩
    rw [hL, hT.a0]
    exact ⟨⟨none, ⟨#[]⟩, none, 0, 0, rfl⟩, h2⟩
  · have hL : findL p = d ++ [k] := by rw [hL]; simp
    rw [hL] at hn
    refine (find_good hT h0 hr0 hp hE hL).mono ?_
    rintro e w' ⟨dn, g, c, h3, h4, rfl, h5, h2⟩
    rw [hL]
    have hk : kidsOf T A d k = some (A (d ++ [k])) := by unfold kidsOf; rw [hn]; rfl
    rw [hk]
    exact ⟨⟨_, _, _, _, _, rfl⟩, h2⟩
theorem find_none (hT : TreeAt w B N f 47 tl T A M V) (h0 : T [] = some r0) (hr0 : r0.file = false) (hp : PathOk p) (hE : findE T p = 0) (hn : T (findL p) = none) :
    Calls Tryd.prog 20 #[.pointer (some ⟨f, 0, none⟩), .string p] w fun e w' => (∃ a b c d l, e = .returned (.tuple #[.agg #[.pointer a, .string b, .pointer none, .slice c l d], .int .i64 0])) ∧ Below w.heap.size w w' := by
  rcases List.eq_nil_or_concat (findL p) with hL | ⟨d, k, hL⟩
  · rw [hL, h0] at hn; cases hn
  · have hL : findL p = d ++ [k] := by rw [hL]; simp
    rw [hL] at hn
    refine (find_good hT h0 hr0 hp hE hL).mono ?_
    rintro e w' ⟨dn, g, c, h3, h4, rfl, h5, h2⟩
    have hk : kidsOf T A d k = none := by unfold kidsOf; rw [hn]; rfl
    rw [hk]
    exact ⟨⟨_, _, _, _, _, rfl⟩, h2⟩
end
/-- What stands at a path: 0 nothing, 1 a file, 2 a directory. -/
def kindT (T : Tr) (p : ByteArray) : Int := if findE T p ≠ 0 then 0 else match T (findL p) with
  | none => 0
  | some n => if n.file = true then 1 else 2
def timeT (T : Tr) (p : ByteArray) : Int := if findE T p ≠ 0 then 0 else match T (findL p) with
  | none => 0
  | some n => n.time
section
variable {w : World} {B N f : Nat} {c : Cn} {T : Tr} {F : Nat → Prop} {p : ByteArray}
set_option maxHeartbeats 4000000 in
theorem Kind_any (hF : Fs w B N f c T F) (hp : PathOk p) :
    Calls Tryd.prog 50 #[.pointer (some ⟨f, 0, none⟩), .string p] w fun e w' => e = .returned (.int .i64 (kindT T p)) ∧ Below w.heap.size w w' := by
  obtain ⟨A, M, V, hT, hft, r0, h0, hr0⟩ := hF
  by_cases hE : findE T p = 0
  · cases hn : T (findL p) with
    | none =>
      have hk : kindT T p = 0 := by unfold kindT; rw [if_neg (by simpa using hE), hn]
      rw [hk]
      have HB := Lib.hid (find_none hT h0 hr0 hp hE hn)
      clear hT hft h0 hr0 hp hE hn hk
      go_enter Tryd.func50, Tryd.ntmps50
      go_wp2_with (go_at_call 20; refine HB.out.mono ?_; rintro e w1 ⟨⟨a, b, c, d, l, rfl⟩, h1⟩; have H1 := Lib.hid h1; clear h1; simp only [])
      go_ret
      exact ⟨rfl, H1.out.alloc H1.out.size _⟩
    | some n =>
      have hk : kindT T p = if n.file = true then 1 else 2 := by unfold kindT; rw [if_neg (by simpa using hE), hn]
      rw [hk]
      have HB := Lib.hid (find_some hT h0 hr0 hp hE hn)
      have HT := Lib.hid hT
      have HN := Lib.hid hn
      obtain ⟨L, hL⟩ : ∃ L, findL p = L := ⟨_, rfl⟩
      rw [hL] at HB HN
      obtain ⟨fl, hfl⟩ : ∃ fl, n.file = fl := ⟨_, rfl⟩
      rw [hfl]
      have HFL := Lib.hid hfl
      clear hT hft h0 hr0 hp hE hn hL hk hfl
      go_enter Tryd.func50, Tryd.ntmps50
      cases fl
      all_goals
        go_wp2_with (go_at_call 20; refine HB.out.mono ?_; rintro e w1 ⟨⟨a, b, c, d, l, rfl⟩, h1⟩; have H1 := Lib.hid h1; have h2 := (HT.out.only (X := fun _ => False) (Only.of_below (h1.alloc h1.size (.cells #[.pointer a, .string b, .pointer (some ⟨A L, 0, none⟩), .slice c l d] 50))) (fun _ h => h.elim)).blk _ n HN.out; have q0 : (w1.alloc (.cells #[.pointer a, .string b, .pointer (some ⟨A L, 0, none⟩), .slice c l d] 50)).cell? ⟨A L, 0, none⟩ = some (.bool n.file) := cell_of h2 0; rw [HFL.out] at q0; clear h1 h2; simp only [])
        go_ret
        exact ⟨rfl, H1.out.alloc H1.out.size _⟩
  · have hk : kindT T p = 0 := by unfold kindT; rw [if_pos hE]
    rw [hk]
    have HB := Lib.hid (find_bad hT h0 hr0 hp hE)
    obtain ⟨er, her⟩ : ∃ er, findE T p = er := ⟨_, rfl⟩
    rw [her] at HB hE
    have hne : (er != 0) = true := by simpa using hE
    clear hT hft h0 hr0 hp hE hk her
    unfold spot0 spotV at HB
    go_enter Tryd.func50, Tryd.ntmps50
    go_wp2_with (go_at_call 20; refine HB.out.mono ?_; rintro e w1 ⟨rfl, h1⟩; have H1 := Lib.hid h1; clear h1; simp only [])
    go_ret
    exact ⟨rfl, H1.out.alloc H1.out.size _⟩
set_option maxHeartbeats 4000000 in
theorem Time_any (hF : Fs w B N f c T F) (hp : PathOk p) :
    Calls Tryd.prog 19 #[.pointer (some ⟨f, 0, none⟩), .string p] w fun e w' => e = .returned (.int .i64 (timeT T p)) ∧ Below w.heap.size w w' := by
  by_cases hP : presE T p = 0
  · have hE : findE T p = 0 := by
      by_cases h : findE T p = 0
      · exact h
      · rw [presE, if_pos h] at hP; exact hP
    cases hn : T (findL p) with
    | none => rw [presE, if_neg (fun e => e hE), hn] at hP; simp at hP
    | some n =>
      have hk : timeT T p = n.time := by unfold timeT; rw [if_neg (by simpa using hE), hn]
      rw [hk]
      exact Time_ok hF hp hE hn
  · have hk : timeT T p = 0 := by
      unfold timeT
      by_cases h : findE T p = 0
      · rw [if_neg (by simpa using h)]
        cases hn : T (findL p) with
        | none => rfl
        | some n => exact absurd (by rw [presE, if_neg (fun e => e h), hn]; rfl) hP
      · rw [if_pos h]
    rw [hk]
    obtain ⟨A, M, V, hT, hft, r0, h0, hr0⟩ := hF
    have HB := Lib.hid (present_err hT h0 hr0 hp hP)
    obtain ⟨er, her⟩ : ∃ er, presE T p = er := ⟨_, rfl⟩
    rw [her] at HB hP
    have hne : (er != 0) = true := by simpa using hP
    clear hT hft h0 hr0 hp hP hk her
    go_enter Tryd.func19, Tryd.ntmps19
    go_wp2_with (go_at_call 24; refine HB.out.mono ?_; rintro e w1 ⟨⟨a, b, c, d, l, rfl⟩, h1⟩; have H1 := Lib.hid h1; clear h1; simp only [])
    go_ret
    exact ⟨rfl, H1.out.alloc H1.out.size _⟩
end
end Go.Proofs.YtcmjpkfinbakkaaDoor
