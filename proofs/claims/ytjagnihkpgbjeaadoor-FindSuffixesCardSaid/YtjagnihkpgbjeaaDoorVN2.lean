import Derived.Test.YtjagnihkpgbjeaaDoorFC
import Derived.Lib.SlBytesConst
import Derived.Lib.SmallJoins
import Derived.BigQuiet
import Derived.Deep.QuietTactic
import Derived.Deep.RegionHeld3
namespace Go.Proofs.YtjagnihkpgbjeaaDoor
open Go.RowKit Go.Maps Go.ChangeMaps
set_option linter.unusedVariables false
section
variable {f : Nat} {p : ByteArray} {w : World} {B N : Nat} {tl : List Value} {T : Tr} {A : Pth → Nat} {M : Pth → Option Nat} {V : Pth → Value} {r0 : Nd}
theorem present_err (hT : TreeAt w B N f 71 tl T A M V) (h0 : T [] = some r0) (hr0 : r0.file = false) (hp : PathOk p) (hE : presE T p ≠ 0) :
    Calls Tryd.prog 42 #[.pointer (some ⟨f, 0, none⟩), .string p] w fun e w' => (∃ a b c d l, e = .returned (.tuple #[.agg #[.pointer a, .string b, .pointer none, .slice c l d], .int .i64 (presE T p)])) ∧ Below w.heap.size w w' := by
  by_cases h : findE T p = 0
  · cases hx : T (findL p) with
    | some n => exact absurd (by rw [presE, if_neg (fun e => e h), hx]; rfl) hE
    | none =>
      have : presE T p = 6 := by rw [presE, if_neg (fun e => e h), hx]; rfl
      rw [this]
      exact present_none hT h0 hr0 hp h hx
  · have : presE T p = findE T p := by rw [presE, if_pos h]
    rw [this]
    refine (present_bad1 hT h0 hr0 hp h).mono ?_
    rintro e w' ⟨rfl, h2⟩
    exact ⟨⟨none, ⟨#[]⟩, none, 0, 0, rfl⟩, h2⟩
theorem present_ok {n : Nd} (hT : TreeAt w B N f 71 tl T A M V) (h0 : T [] = some r0) (hr0 : r0.file = false) (hp : PathOk p) (hE : findE T p = 0) (hn : T (findL p) = some n) :
    Calls Tryd.prog 42 #[.pointer (some ⟨f, 0, none⟩), .string p] w fun e w' => (∃ a b c d l, e = .returned (.tuple #[.agg #[.pointer a, .string b, .pointer (some ⟨A (findL p), 0, none⟩), .slice c l d], .int .i64 0])) ∧ Below w.heap.size w w' := by
  rcases List.eq_nil_or_concat (findL p) with hL | ⟨d, k, hL⟩
  · refine (present_root hT h0 hr0 hp hE hL).mono ?_
    rintro e w' ⟨rfl, h2⟩
    rw [hL, hT.a0]
    exact ⟨⟨none, ⟨#[]⟩, none, 0, 0, rfl⟩, h2⟩
  · have hL : findL p = d ++ [k] := by rw [hL]; simp
    rw [hL] at hn
    refine (present_good hT h0 hr0 hp hE hL hn).mono ?_
    rintro e w' ⟨⟨g, c, l, rfl⟩, h2⟩
    rw [hL]
    exact ⟨⟨_, _, _, _, _, rfl⟩, h2⟩
end
end Go.Proofs.YtjagnihkpgbjeaaDoor

namespace Go.Proofs.YtjagnihkpgbjeaaDoor
open Go.RowKit Go.Maps Go.ChangeMaps
set_option linter.unusedVariables false
theorem Fs.cap {w : World} {B N f : Nat} {c : Cn} {T : Tr} {F : Nat → Prop} (h : Fs w B N f c T F) : Fs w B N f c T (fun j => F j ∧ j < w.heap.size) := by
  obtain ⟨A, M, V, h1, h2, h3⟩ := h
  exact ⟨A, M, V, h1, fun j hj => ⟨h2 j hj, h1.lt hj⟩, h3⟩
theorem Fs.imp {w : World} {B N f : Nat} {c : Cn} {T : Tr} {F F' : Nat → Prop} (h : Fs w B N f c T F) (hF : ∀ j, F j → F' j) : Fs w B N f c T F' := by
  obtain ⟨A, M, V, h1, h2, h3⟩ := h
  exact ⟨A, M, V, h1, fun j hj => hF j (h2 j hj), h3⟩
set_option maxRecDepth 100000 in
set_option maxHeartbeats 1000000 in
theorem num_any (n : Int) (w : World) : Calls Tryd.prog 19 #[.int .i64 n] w fun e w' => e = .returned (.int .i64 n) ∧ w' = w := by
  go_enter Tryd.func19, Tryd.ntmps19
  go_wp2_with fail
  go_ret
  exact ⟨rfl, rfl⟩
section
variable {w : World} {B N f : Nat} {c : Cn} {T : Tr} {F : Nat → Prop} {p : ByteArray}
set_option maxRecDepth 100000 in
set_option maxHeartbeats 1000000 in
theorem Clock_any (hF : Fs w B N f c T F) : Calls Tryd.prog 36 #[.pointer (some ⟨f, 0, none⟩)] w fun e w' => e = .returned (.int .i64 c.clock) ∧ w' = w := by
  obtain ⟨A, M, V, hT, hft, r0, h0, hr0⟩ := hF
  have q8 : w.cell? ⟨f, 8, none⟩ = some (.int .i64 c.clock) := cell_of (hT.rootBlk h0) 8
  have HHE := Lib.hid (fun w => here_any f w)
  clear hT hft h0 hr0
  go_enter Tryd.func36, Tryd.ntmps36
  go_wp2_with (go_at_call 39; refine (HHE.out _).mono ?_; rintro e w2 ⟨rfl, h2⟩; obtain rfl := h2.symm; simp only [])
  go_ret
  exact ⟨rfl, rfl⟩
set_option maxRecDepth 100000 in
set_option maxHeartbeats 4000000 in
theorem Time_ok {n : Nd} (hF : Fs w B N f c T F) (hp : PathOk p) (hE : findE T p = 0) (hn : T (findL p) = some n) :
    Calls Tryd.prog 37 #[.pointer (some ⟨f, 0, none⟩), .string p] w fun e w' => e = .returned (.int .i64 n.time) ∧ Below w.heap.size w w' := by
  obtain ⟨A, M, V, hT, hft, r0, h0, hr0⟩ := hF
  have HB := Lib.hid (present_ok hT h0 hr0 hp hE hn)
  have HT := Lib.hid hT
  have HN := Lib.hid hn
  obtain ⟨L, hL⟩ : ∃ L, findL p = L := ⟨_, rfl⟩
  rw [hL] at HB HN
  clear hT hft h0 hr0 hp hE hn hL
  go_enter Tryd.func37, Tryd.ntmps37
  go_wp2_with (go_at_call 42; refine HB.out.mono ?_; rintro e w1 ⟨⟨a, b, c, d, l, rfl⟩, h1⟩; have H1 := Lib.hid h1; have h2 := (HT.out.only (X := fun _ => False) (Only.of_below (h1.alloc h1.size (.cells #[.pointer a, .string b, .pointer (some ⟨A L, 0, none⟩), .slice c l d] 74))) (fun _ h => h.elim)).blk _ n HN.out; have q0 : (w1.alloc (.cells #[.pointer a, .string b, .pointer (some ⟨A L, 0, none⟩), .slice c l d] 74)).cell? ⟨A L, 2, none⟩ = some (.int .i64 n.time) := cell_of h2 2; clear h1 h2; simp only [])
  go_ret
  exact ⟨rfl, H1.out.alloc H1.out.size _⟩
end
end Go.Proofs.YtjagnihkpgbjeaaDoor

namespace Go.Proofs.YtjagnihkpgbjeaaDoor
open Go.RowKit Go.Maps Go.ChangeMaps
set_option linter.unusedVariables false
theorem new_at {w w' : World} {B N f : Nat} {c c' : Cn} {F : Nat → Prop} (h : Fs w B N f c newT F) (hc : c = c') : Fs w B N f c' newT F := hc ▸ h
set_option maxRecDepth 100000 in
set_option maxHeartbeats 4000000 in
theorem alive_any (w : World) : Calls Tryd.prog 12 #[] w fun e w' => e = .returned (.bool true) ∧ Below w.heap.size w w' := by
  have HNEW : Hid (Calls Tryd.prog 13 #[.int .i64 3, .int .i64 10] w fun e w1 => ∃ f, e = .returned (.pointer (some ⟨f, 0, none⟩)) ∧ Fs w1 w.heap.size 0 f ⟨3, 10, 0, 0, 0⟩ newT (fun j => w.heap.size ≤ j ∧ j < w1.heap.size) ∧ Below w.heap.size w w1) := by
    rw [Hid]
    refine (New_any 3 10 w (B := w.heap.size) (N := 0) (Nat.le_refl _)).mono ?_
    rintro e w1 ⟨f, h1, h2, h3⟩
    rw [show min (max (3 : Int) 0) 10000 = 3 by decide, show min (max (10 : Int) 0) 1048576 = 10 by decide] at h2
    exact ⟨f, h1, h2.cap, h3⟩
  have HNUM := Lib.hid num_any
  go_enter Tryd.func12, Tryd.ntmps12
  go_wp2_with (go_at_call 13; refine HNEW.out.mono ?_; rintro e w1 ⟨f, rfl, hf, h1⟩; have HF := Lib.hid hf; have H1 := Lib.hid h1; clear hf h1; have hcv := Lib.run_convert_bytes_const w1 28 5 #[.int .u8 120] 1 1 Tryd.underlying28 Tryd.underlying5; simp only [])
  have hb2 : Below w1.heap.size w1 (w1.alloc (.cells #[.int .u8 120] 5 (1, 2))) := (Below.refl _ _).alloc (Nat.le_refl _) _
  have hF2 := HF.out.below hb2
  have hbin : Bin (w1.alloc (.cells #[.int .u8 120] 5 (1, 2))) (.slice (some ⟨w1.heap.size, 0, none⟩) ([120] : Bz).length 1) [120] := by
    refine ⟨_, _, rfl, fun i hi => ?_⟩
    have hi0 : i = 0 := by simp at hi; omega
    subst hi0
    exact ⟨w1.heap.size, 0, rfl, by simp, World.cell?_alloc_mark w1 #[.int .u8 120] 5 (1, 2) 0⟩
  have hw1 : w.heap.size ≤ w1.heap.size := H1.out.size
  have hE : findE newT ⟨#[47, 97]⟩ = 0 := path_a.2.1 _
  have hn : newT (findL ⟨#[47, 97]⟩) = none := by rw [path_a.1]; rfl
  have HW := Write_new _ ⟨#[47, 97]⟩ false hF2 path_a.2.2 ⟨by decide, by decide, by decide, by decide, by decide⟩ (by decide) (by simp; omega) hE hn [120] _ _ hbin (fun a ha hF => by cases ha; exact Nat.lt_irrefl _ hF.2) (by decide) (by decide) (by decide)
  have HW := Lib.hid HW
  clear hb2 hF2 hbin hE hn
  go_wp2_with (first
    | (go_at_call 15; refine HW.out.mono ?_; rintro e w3 ⟨rfl, hf3, ho3⟩; have HF3 := Lib.hid hf3; have HO3 := Lib.hid ho3; clear hf3 ho3; simp only [])
    | (go_at_call 19; refine (HNUM.out _ _).mono ?_; rintro e w4 ⟨rfl, h4⟩; obtain rfl := h4.symm; simp only [])
    | (go_at_call 36; refine (Clock_any HF3.out).mono ?_; rintro e w4 ⟨rfl, h4⟩; obtain rfl := h4.symm; simp only [])
    | (go_at_call 37; refine (Time_ok HF3.out path_a.2.2 (path_a.2.1 _) (by rw [path_a.1]; exact setF_same _ _ _)).mono ?_; rintro e w4 ⟨rfl, h4⟩; have H4 := Lib.hid h4; clear h4; simp only []))
  go_ret
  have s2 : w.heap.size ≤ (w1.alloc (.cells #[.int .u8 120] 5 (1, 2))).heap.size := by simp; omega
  have b3 : Below w.heap.size (w1.alloc (.cells #[.int .u8 120] 5 (1, 2))) w3 := HO3.out.below (fun k hk => hk.1) s2
  exact ⟨rfl, ((H1.out.alloc hw1 _).trans b3).trans (H4.out.mono (Nat.le_trans s2 HO3.out.size))⟩
end Go.Proofs.YtjagnihkpgbjeaaDoor

namespace Go.Proofs.YtjagnihkpgbjeaaDoor
open Go.RowKit Go.Maps Go.ChangeMaps
set_option linter.unusedVariables false
/-! A name in the root: its path, its kind, its time. -/
def pathB (s : Bz) : ByteArray := ⟨(47 :: s).toArray⟩
def nameB (s : Bz) : ByteArray := ⟨s.toArray⟩
theorem nm_good1 {s : Bz} (h : Nm s) : Good [s] := by
  intro x hx
  simp at hx
  subst hx
  exact ⟨h.ne, h.dot, h.dots, h.no⟩
theorem nm_written {s : Bz} (h : Nm s) : written [s] = 47 :: s := by simp [written, joined]
theorem nm_abs {s : Bz} (h : Nm s) : abs_ root1 (nameB s) = (47 :: s, 0) := by
  have hl : (nameB s).size = s.length := by unfold nameB; simp [ByteArray.size]
  have hp : parts root1 (nameB s) = [s] := by
    rw [parts_of, show (nameB s).data.toList = s by unfold nameB; simp, sp_all _ h.no]
    show List.foldl push (push [] s) [] = _
    rw [push_nm h]; rfl
  have hle := h.le
  unfold abs_
  rw [if_neg, hp, if_neg, if_neg, nm_written h]
  · rw [nm_written h]; simp; omega
  · rintro ⟨x, hx, g⟩
    simp at hx
    subst hx
    omega
  · rintro (g | g | g)
    · rw [hl] at g; exact h.ne (List.eq_nil_of_length_eq_zero g)
    · exact h.nul 0 (by simpa [nameB] using (at_mem (nameB s) 0).1 g) rfl
    · exact root_no g
theorem nm_one {s : Bz} (h : Nm s) : findL (pathB s) = [s] ∧ (∀ T, findE T (pathB s) = 0) ∧ PathOk (pathB s) := by
  have hle := h.le
  have hsz : (pathB s).size = s.length + 1 := by unfold pathB; simp [ByteArray.size]
  have hdl : (pathB s).data.toList = 47 :: s := by unfold pathB; simp
  obtain ⟨e1, e2, e3⟩ := path_of (p := pathB s) (L := [s]) (by
    rw [parts_of, hdl, show (47 :: s) = [] ++ 47 :: s from rfl, sp_cut [] _ (by simp), sp_all _ h.no]
    show List.foldl push (push (push [] []) s) [] = _
    rw [show push ([] : List Bs) [] = [] from rfl, push_nm h]; rfl) (nm_good1 h) (fun x hx => by simp at hx; subst hx; exact hle) (by simp) (by rw [nm_written h]; simp; omega) (by omega) (by omega) (by
    intro c hc
    rw [hdl] at hc
    rcases List.mem_cons.1 hc with rfl | hc
    · decide
    · exact h.nul c hc)
  exact ⟨e1, fun T => by rw [e2 T]; rfl, e3⟩
def kdF (T : Tr) (s : Bz) : Int := match T [s] with | none => 0 | some n => if n.file then 1 else 2
def thF (T : Tr) (s : Bz) : Bool := (T [s]).isSome
def tmF (T : Tr) (s : Bz) : Int := match T [s] with | none => 0 | some n => n.time
section
variable {w : World} {B N f : Nat} {c : Cn} {T : Tr} {F : Nat → Prop} {s : Bz}
set_option maxRecDepth 100000 in
set_option maxHeartbeats 4000000 in
theorem Kind_none (hF : Fs w B N f c T F) (hs : Nm s) (hn : T [s] = none) :
    Calls Tryd.prog 88 #[.pointer (some ⟨f, 0, none⟩), .string (pathB s)] w fun e w' => e = .returned (.int .i64 0) ∧ Below w.heap.size w w' := by
  obtain ⟨A, M, V, hT, hft, r0, h0, hr0⟩ := hF
  obtain ⟨e1, e2, e3⟩ := nm_one hs
  have HB := Lib.hid (find_good (d := []) (k := s) (w := w) hT h0 hr0 e3 (e2 T) (by rw [e1]; rfl))
  have hk : kidsOf T A [] s = none := by unfold kidsOf; rw [show ([] : Pth) ++ [s] = [s] from rfl, hn]; rfl
  rw [hk] at HB
  obtain ⟨lg, hlg⟩ : ∃ lg, (([] : Pth) ++ [s]).length = lg := ⟨_, rfl⟩
  rw [hlg] at HB
  clear hT hft h0 hr0 e1 e2 e3 hk hlg hn
  go_enter Tryd.func88, Tryd.ntmps88
  go_wp2_with (go_at_call 38; refine HB.out.mono ?_; rintro e w1 ⟨dn, g, cc, hdn, hdf, rfl, hrow, h1⟩; have H1 := Lib.hid h1; clear h1 hrow hdn hdf; simp only [spotV, ptrV])
  go_ret
  exact ⟨rfl, H1.out.alloc H1.out.size _⟩
set_option maxRecDepth 100000 in
set_option maxHeartbeats 4000000 in
theorem Kind_some {n : Nd} (hF : Fs w B N f c T F) (hs : Nm s) (hn : T [s] = some n) :
    Calls Tryd.prog 88 #[.pointer (some ⟨f, 0, none⟩), .string (pathB s)] w fun e w' => e = .returned (.int .i64 (if n.file then 1 else 2)) ∧ Below w.heap.size w w' := by
  obtain ⟨A, M, V, hT, hft, r0, h0, hr0⟩ := hF
  obtain ⟨e1, e2, e3⟩ := nm_one hs
  have HB := Lib.hid (find_good (d := []) (k := s) (w := w) hT h0 hr0 e3 (e2 T) (by rw [e1]; rfl))
  have hk : kidsOf T A [] s = some (A [s]) := by unfold kidsOf; rw [show ([] : Pth) ++ [s] = [s] from rfl, hn]; rfl
  rw [hk] at HB
  obtain ⟨lg, hlg⟩ : ∃ lg, (([] : Pth) ++ [s]).length = lg := ⟨_, rfl⟩
  rw [hlg] at HB
  have hbl := hT.blk [s] n hn
  have hlt := (Array.getElem?_eq_some_iff.1 hbl).1
  have hc0 : w.cell? ⟨A [s], 0, none⟩ = some (.bool n.file) := cell_of hbl 0
  obtain ⟨na, hna⟩ : ∃ na, A [s] = na := ⟨_, rfl⟩
  rw [hna] at HB hlt hc0
  have HC0 := Lib.hid hc0
  obtain ⟨fl, hfl⟩ : ∃ fl, n.file = fl := ⟨_, rfl⟩
  rw [hfl] at HC0 ⊢
  clear hT hft h0 hr0 e1 e2 e3 hk hlg hn hbl hc0 hna hfl
  have key : ∀ (w1 : World) (o : Obj), Below w.heap.size w w1 → (w1.alloc o).cell? ⟨na, 0, none⟩ = some (.bool fl) := fun w1 o h1 => by
    rw [(h1.alloc h1.size o).cell (p := ⟨na, 0, none⟩) hlt]; exact HC0.out
  cases fl
  all_goals
    go_enter Tryd.func88, Tryd.ntmps88
    go_wp2_with (go_at_call 38; refine HB.out.mono ?_; rintro e w1 ⟨dn, g, cc, hdn, hdf, rfl, hrow, h1⟩; have H1 := Lib.hid h1; have q0 := fun o => key w1 o h1; clear h1 hrow hdn hdf; simp only [spotV, ptrV])
    go_ret
    exact ⟨rfl, H1.out.alloc H1.out.size _⟩
theorem Kind_any (hF : Fs w B N f c T F) (hs : Nm s) (k : Int) (hk : kdF T s = k) :
    Calls Tryd.prog 88 #[.pointer (some ⟨f, 0, none⟩), .string (pathB s)] w fun e w' => e = .returned (.int .i64 k) ∧ Below w.heap.size w w' := by
  unfold kdF at hk
  cases h : T [s] with
  | none => rw [h] at hk; subst hk; exact Kind_none hF hs h
  | some n => rw [h] at hk; subst hk; exact Kind_some hF hs h
set_option maxRecDepth 100000 in
set_option maxHeartbeats 4000000 in
theorem Time_none (hF : Fs w B N f c T F) (hs : Nm s) (hn : T [s] = none) :
    Calls Tryd.prog 37 #[.pointer (some ⟨f, 0, none⟩), .string (pathB s)] w fun e w' => e = .returned (.int .i64 0) ∧ Below w.heap.size w w' := by
  obtain ⟨A, M, V, hT, hft, r0, h0, hr0⟩ := hF
  obtain ⟨e1, e2, e3⟩ := nm_one hs
  have hE : presE T (pathB s) = 6 := by unfold presE; rw [if_neg (by rw [e2]; decide), e1, hn]; rfl
  have HB := Lib.hid (present_err (w := w) hT h0 hr0 e3 (by rw [hE]; decide))
  rw [hE] at HB
  clear hT hft h0 hr0 e1 e2 e3 hE hn
  go_enter Tryd.func37, Tryd.ntmps37
  go_wp2_with (go_at_call 42; refine HB.out.mono ?_; rintro e w1 ⟨⟨a, b, c, d, l, rfl⟩, h1⟩; have H1 := Lib.hid h1; clear h1; simp only [])
  go_ret
  exact ⟨rfl, H1.out.alloc H1.out.size _⟩
theorem Time_any (hF : Fs w B N f c T F) (hs : Nm s) (k : Int) (hk : tmF T s = k) :
    Calls Tryd.prog 37 #[.pointer (some ⟨f, 0, none⟩), .string (pathB s)] w fun e w' => e = .returned (.int .i64 k) ∧ Below w.heap.size w w' := by
  obtain ⟨e1, e2, e3⟩ := nm_one hs
  unfold tmF at hk
  cases h : T [s] with
  | none => rw [h] at hk; subst hk; exact Time_none hF hs h
  | some n => rw [h] at hk; subst hk; exact Time_ok hF e3 (e2 T) (by rw [e1]; exact h)
end
theorem AbsN_any (s : Bz) (hs : Nm s) (w : World) : Calls Tryd.prog 64 #[.string ⟨#[47]⟩, .string (nameB s)] w fun e w' => e = .returned (.tuple #[.string (pathB s), .int .i64 0]) ∧ Below w.heap.size w w' :=
  Abs_any root1 (nameB s) w (by decide) (by have := hs.le; unfold nameB; simp [ByteArray.size]; omega) _ _ (nm_abs hs)
theorem box2 {w w1 : World} {x y : Value} {t : TypeId} (h1 : Below (w.alloc (.cells #[x, y] t)).heap.size (w.alloc (.cells #[x, y] t)) w1) :
    w1.cell? ⟨w.heap.size, 0, none⟩ = some x ∧ w1.cell? ⟨w.heap.size, 1, none⟩ = some y ∧ Below w.heap.size w w1 := by
  have hz : w.heap.size < (w.alloc (.cells #[x, y] t)).heap.size := by simp
  refine ⟨(h1.cell (p := ⟨w.heap.size, 0, none⟩) hz).trans ?_, (h1.cell (p := ⟨w.heap.size, 1, none⟩) hz).trans ?_, (below_alloc w _).trans (h1.mono (by simp))⟩ <;>
    simp only [World.cell?, heap_alloc_new w] <;> rfl
section
variable {w : World} {B N f : Nat} {c : Cn} {T : Tr} {F : Nat → Prop} {s : Bz}
set_option maxRecDepth 100000 in
set_option maxHeartbeats 4000000 in
theorem there_any (hF : Fs w B N f c T F) (hs : Nm s) (b : Bool) (hb : thF T s = b) :
    Calls Tryd.prog 62 #[.agg #[.pointer (some ⟨f, 0, none⟩), .string ⟨#[47]⟩], .string (nameB s)] w fun e w' => e = .returned (.bool b) ∧ Below w.heap.size w w' := by
  have HA := Lib.hid (AbsN_any s hs (w.alloc (.cells #[.pointer (some ⟨f, 0, none⟩), .string ⟨#[47]⟩] 104)))
  obtain ⟨k, hk⟩ : ∃ k, kdF T s = k := ⟨_, rfl⟩
  have HK := Lib.hid (fun (w' : World) (hb : Below w.heap.size w w') => Kind_any (hF.below hb) hs k hk)
  have hkb : (k != 0) = b := by
    rw [← hk, ← hb]
    unfold kdF thF
    cases T [s] with
    | none => rfl
    | some n => cases h : n.file <;> simp [h]
  obtain ⟨nb, hnb⟩ : ∃ nb, nameB s = nb := ⟨_, rfl⟩
  obtain ⟨pb, hpb⟩ : ∃ pb, pathB s = pb := ⟨_, rfl⟩
  rw [hnb] at HA ⊢
  rw [hpb] at HA HK
  clear hF hs hb hk hnb hpb
  go_enter Tryd.func62, Tryd.ntmps62
  go_wp2_with (first
    | (go_at_call 64; refine HA.out.mono ?_; rintro e w1 ⟨rfl, h1⟩; have H1 := Lib.hid (box2 h1); obtain ⟨p0, p1, _⟩ := box2 h1; clear h1; simp only [])
    | (go_at_call 88; refine (HK.out _ H1.out.2.2).mono ?_; rintro e w2 ⟨rfl, h2⟩; have H2 := Lib.hid h2; clear h2; simp only []))
  go_ret
  exact ⟨rfl, H1.out.2.2.trans (H2.out.mono H1.out.2.2.size)⟩
set_option maxRecDepth 100000 in
set_option maxHeartbeats 4000000 in
theorem time_any (hF : Fs w B N f c T F) (hs : Nm s) (k : Int) (hk : tmF T s = k) :
    Calls Tryd.prog 63 #[.agg #[.pointer (some ⟨f, 0, none⟩), .string ⟨#[47]⟩], .string (nameB s)] w fun e w' => e = .returned (.int .i64 k) ∧ Below w.heap.size w w' := by
  have HA := Lib.hid (AbsN_any s hs (w.alloc (.cells #[.pointer (some ⟨f, 0, none⟩), .string ⟨#[47]⟩] 104)))
  have HK := Lib.hid (fun (w' : World) (hb : Below w.heap.size w w') => Time_any (hF.below hb) hs k hk)
  obtain ⟨nb, hnb⟩ : ∃ nb, nameB s = nb := ⟨_, rfl⟩
  obtain ⟨pb, hpb⟩ : ∃ pb, pathB s = pb := ⟨_, rfl⟩
  rw [hnb] at HA ⊢
  rw [hpb] at HA HK
  clear hF hs hk hnb hpb
  go_enter Tryd.func63, Tryd.ntmps63
  go_wp2_with (first
    | (go_at_call 64; refine HA.out.mono ?_; rintro e w1 ⟨rfl, h1⟩; have H1 := Lib.hid (box2 h1); obtain ⟨p0, p1, _⟩ := box2 h1; clear h1; simp only [])
    | (go_at_call 37; refine (HK.out _ H1.out.2.2).mono ?_; rintro e w2 ⟨rfl, h2⟩; have H2 := Lib.hid h2; clear h2; simp only []))
  go_ret
  exact ⟨rfl, H1.out.2.2.trans (H2.out.mono H1.out.2.2.size)⟩
end
end Go.Proofs.YtjagnihkpgbjeaaDoor

namespace Go.Proofs.YtjagnihkpgbjeaaDoor
open Go.RowKit Go.Maps Go.ChangeMaps
set_option linter.unusedVariables false
/-! Clone, Newer. -/
def StrP (L : List Bs) (w : World) (e : Ending) (w' : World) : Prop := ∃ v, e = .returned v ∧ StrO w w' v L
theorem Clone_any (v : Value) (L : List Bs) (w : World) (hv : SlS w v L) (hl : L.length ≤ 1000000) : Calls Tryd.prog 54 #[v] w (StrP L w) := by
  rcases hv with ⟨rfl, rfl⟩ | ⟨g, off, c, rfl, h1, h2, h3, h4⟩
  · refine (Tryd.slices_Clone_string_nil 0 0 w).mono ?_
    rintro e w' ⟨rfl, rfl⟩
    exact ⟨_, rfl, StrO.nil _ _ (Below.refl _ _)⟩
  · refine (Tryd.slices_Clone_string g off L.length c (L.map fun b => ⟨b.toArray⟩) w (by simp) (by omega) (fun j hj => ?_)).mono ?_
    · have hj' : j < L.length := by simpa using hj
      rw [h4 j hj', List.getD_eq_getElem?_getD, List.getElem?_map, List.getElem?_eq_getElem hj']; rfl
    · rintro e w' ⟨v', rfl, h5, _, h6⟩
      refine ⟨_, rfl, ?_, h6⟩
      rw [List.take_of_length_le (by simp)] at h5
      simpa [List.map_map, Function.comp_def] using h5
def newerF (T : Tr) (tg : Bs) (L : List Bs) : List Bs := if thF T tg then L.filter (fun x => decide (tmF T tg < tmF T x)) else L
theorem filter_take {p : Bs → Bool} (L : List Bs) (k : Nat) (h : k < L.length) (b : Bool) (hb : p L[k] = b) : (L.take (k + 1)).filter p = if b then (L.take k).filter p ++ [L[k]] else (L.take k).filter p := by
  rw [List.take_succ_eq_append_getElem h, List.filter_append]
  cases b <;> simp [hb]
section
variable {w : World} {B N f : Nat} {c : Cn} {T : Tr} {F : Nat → Prop} {s : Bz}
set_option maxRecDepth 100000 in
set_option maxHeartbeats 4000000 in
theorem Newer_no (hF : Fs w B N f c T F) (hs : Nm s) (v : Value) (L : List Bs) (hv : SlS w v L) (hl : L.length ≤ 1000) (ht : thF T s = false) :
    Calls Tryd.prog 35 #[.pointer (some ⟨f, 0, none⟩), .string ⟨#[47]⟩, .string (nameB s), v] w (StrP L w) := by
  have hba := below_alloc w (.cells #[.pointer (some ⟨f, 0, none⟩), .string ⟨#[47]⟩] 104)
  have HTH := Lib.hid (there_any (hF.below hba) hs false ht)
  have HC := Lib.hid (fun (w' : World) (hb : Below w.heap.size w w') => Clone_any v L w' (hv.below hb) (by omega))
  obtain ⟨a, d, rfl⟩ := hv.len
  obtain ⟨nb, hnb⟩ : ∃ nb, nameB s = nb := ⟨_, rfl⟩
  rw [hnb] at HTH ⊢
  clear hF hs hv ht hnb hba
  go_enter Tryd.func35, Tryd.ntmps35
  go_wp2_with (first
    | (go_at_call 62; refine HTH.out.mono ?_; rintro e w1 ⟨rfl, h1⟩; have H1 := Lib.hid (box2 h1); clear h1; simp only [])
    | (go_at_call 54; refine (HC.out _ H1.out.2.2).mono ?_; rintro e w2 ⟨u, rfl, h2⟩; have H2 := Lib.hid h2; clear h2; simp only []))
  go_ret
  exact ⟨_, rfl, H2.out.weak H1.out.2.2⟩
/-- The string's cell, and the slice that holds it alone. -/
theorem push_one {w0 w : World} {v : Value} {L : List Bs} (h : StrO w0 w v L) (b : Bs) (hl : L.length ≤ 1000000) :
    ∃ v' w', (Builtin.append_ #[29, 29] 29 #[v, .slice (some ⟨w.heap.size, 0, none⟩) 1 1]).run Tryd.prog (w.alloc (.cells #[.string ⟨b.toArray⟩] 9)) = .ok v' w' ∧ StrO w0 w' v' (L ++ [b]) := by
  have hb := below_alloc w (.cells #[.string ⟨b.toArray⟩] 9)
  refine (h.below hb).app (M := [b]) (.inr ⟨w.heap.size, 0, 1, rfl, by simp, by omega, by simp, fun i hi => ?_⟩) (by simp; omega)
  obtain rfl : i = 0 := by simpa using hi
  simp only [World.cell?, Nat.add_zero, heap_alloc_new w]; rfl
set_option maxRecDepth 100000 in
set_option maxHeartbeats 4000000 in
theorem Newer_yes (hF : Fs w B N f c T F) (hs : Nm s) (v : Value) (L : List Bs) (hv : SlS w v L) (hl : L.length ≤ 1000) (hL : ∀ x ∈ L, Nm x) (ht : thF T s = true) :
    Calls Tryd.prog 35 #[.pointer (some ⟨f, 0, none⟩), .string ⟨#[47]⟩, .string (nameB s), v] w (StrP (L.filter (fun x => decide (tmF T s < tmF T x))) w) := by
  have hba := below_alloc w (.cells #[.pointer (some ⟨f, 0, none⟩), .string ⟨#[47]⟩] 104)
  have HTH := Lib.hid (there_any (hF.below hba) hs true ht)
  obtain ⟨ta, hta⟩ : ∃ ta, tmF T s = ta := ⟨_, rfl⟩
  have HTM := Lib.hid (fun (w' : World) (x : Bs) (hx : Nm x) (k : Int) (hk : tmF T x = k) (hb : Below w.heap.size w w') => time_any (hF.below hb) hx k hk)
  have HTS := Lib.hid (fun (w' : World) (hb : Below w.heap.size w w') => time_any (hF.below hb) hs ta hta)
  have HL := Lib.hid hL
  have HSL := Lib.hid hv
  obtain ⟨a, d, rfl⟩ := hv.len
  obtain ⟨nb, hnb⟩ : ∃ nb, nameB s = nb := ⟨_, rfl⟩
  rw [hnb] at HTH HTS ⊢
  rw [hta]
  obtain ⟨n, hn⟩ : ∃ n, L.length = n := ⟨_, rfl⟩
  rw [hn] at hl HSL ⊢
  have HN := Lib.hid hn
  clear hF hs hv ht hnb hba hta hL hn
  go_enter Tryd.func35, Tryd.ntmps35
  go_wp2_with (go_at_call 62; refine HTH.out.mono ?_; rintro e w1 ⟨rfl, h1⟩; have H1 := Lib.hid (box2 h1); clear h1; simp only [])
  go_loopw [10, 24] (fun l i wr => ∃ k : Nat, k ≤ n ∧ i = .int .i64 k ∧ Hid (StrO w1 wr l ((L.take k).filter (fun x => decide (ta < tmF T x))))) (fun _ i _ => n - (intOf i).toNat)
  case atStart => exact ⟨0, by omega, rfl, StrO.nil _ _ (Below.refl _ _)⟩
  case round =>
    obtain ⟨k, hk, rfl, HR⟩ := hrel
    by_cases hlt : k < n
    · have hltI : (k : Int) < (n : Int) := by omega
      have h0 : (0 : Int) ≤ (k : Int) := by omega
      have hlr : k < L.length := by rw [HN.out]; exact hlt
      have HB : Hid (Below w.heap.size w wr) := H1.out.2.2.trans (HR.out.old.mono H1.out.2.2.size)
      obtain ⟨g, off, rfl, _, hc⟩ := strs_sl (HSL.out.below HB.out) (by omega)
      have hck := hc k hlr
      have hadd := addk g off k
      have p0 : wr.cell? ⟨w.heap.size, 0, none⟩ = some (.pointer (some ⟨f, 0, none⟩)) := by
        have hw1 : w.heap.size < w1.heap.size := World.block_lt_of_cell? _ _ H1.out.1
        rw [HR.out.old.cell (p := ⟨w.heap.size, 0, none⟩) hw1]; exact H1.out.1
      have p1 : wr.cell? ⟨w.heap.size, 1, none⟩ = some (.string ⟨#[47]⟩) := by
        have hw1 : w.heap.size < w1.heap.size := World.block_lt_of_cell? _ _ H1.out.1
        rw [HR.out.old.cell (p := ⟨w.heap.size, 1, none⟩) hw1]; exact H1.out.2.1
      clear hc
      obtain ⟨tx, htx⟩ : ∃ tx, tmF T L[k] = tx := ⟨_, rfl⟩
      have HX := Lib.hid (fun w' => HTM.out w' L[k] (HL.out _ (List.getElem_mem hlr)) tx htx)
      rw [show encStr L[k] = .string (nameB L[k]) from rfl] at hck
      have HNB : Hid (nameB L[k] = ⟨L[k].toArray⟩) := rfl
      obtain ⟨xb, hxb⟩ : ∃ xb, nameB L[k] = xb := ⟨_, rfl⟩
      rw [hxb] at HX hck HNB
      have hlw := World.block_lt_of_cell? _ _ p0
      have HCC : Hid (∀ w' : World, Below wr.heap.size wr w' → w'.cell? ⟨w.heap.size, 0, none⟩ = some (.pointer (some ⟨f, 0, none⟩)) ∧ w'.cell? ⟨w.heap.size, 1, none⟩ = some (.string ⟨#[47]⟩)) :=
        fun w' hb => ⟨(hb.cell (p := ⟨w.heap.size, 0, none⟩) hlw).trans p0, (hb.cell (p := ⟨w.heap.size, 1, none⟩) hlw).trans p1⟩
      have HFT : Hid (∀ b, decide (ta < tx) = b → (L.take (k + 1)).filter (fun x => decide (ta < tmF T x)) = if b then (L.take k).filter (fun x => decide (ta < tmF T x)) ++ [L[k]] else (L.take k).filter (fun x => decide (ta < tmF T x))) :=
        fun b hb => filter_take L k hlr b (by rw [htx]; exact hb)
      have HLT : Hid (((L.take k).filter (fun x => decide (ta < tmF T x))).length ≤ 1000000) := Nat.le_trans (List.length_filter_le _ _) (by simp; omega)
      clear htx hxb
      by_cases hcm : ta < tx
      · go_wp2_with fail
        go_region_held3 (fun w' => w'.cell? ⟨w.heap.size, 0, none⟩ = some (.pointer (some ⟨f, 0, none⟩)) ∧ w'.cell? ⟨w.heap.size, 1, none⟩ = some (.string ⟨#[47]⟩)) (first | exact HCC.out _ ((Below.refl _ _).drew.trans (hbq.trans (hbz.mono hbq.size))) | exact HCC.out _ ((Below.refl _ _).drew.trans hbq) | exact HCC.out _ (Below.refl _ _).drew) (first
          | (go_at_call 63; ((with_reducible refine (HX.out _ HB.out.drew).mono ?_)); rintro e wq ⟨rfl, hbq⟩)
          | (go_at_call 63; ((with_reducible refine (HTS.out _ (HB.out.drew.trans (hbq.mono HB.out.drew.size))).mono ?_)); rintro e wz ⟨rfl, hbz⟩))
        all_goals
          have HBZ : Hid (Below wr.heap.size wr wz) := (Below.refl _ _).drew.trans (hbq.trans (hbz.mono hbq.size))
          clear hbq hbz
          obtain ⟨v', w', hrun, hro⟩ := push_one (HR.out.below HBZ.out) L[k] HLT.out
          rw [← HNB.out] at hrun
          have HRO := Lib.hid hro
          have HRUN := Lib.hid hrun
          clear hrun hro
          go_wp2_with (at_builtin; refine wpList_run_append _ rfl _ _ 29 29 rfl _ _ rfl rfl HRUN.out ?_)
          exact ⟨⟨k + 1, by omega, by go_num, by rw [HFT.out true (decide_eq_true hcm)]; exact HRO.out⟩, by simp [intOf]; omega⟩
      · go_wp2_with fail
        go_region_held3 (fun w' => w'.cell? ⟨w.heap.size, 0, none⟩ = some (.pointer (some ⟨f, 0, none⟩)) ∧ w'.cell? ⟨w.heap.size, 1, none⟩ = some (.string ⟨#[47]⟩)) (first | exact HCC.out _ ((Below.refl _ _).drew.trans (hbq.trans (hbz.mono hbq.size))) | exact HCC.out _ ((Below.refl _ _).drew.trans hbq) | exact HCC.out _ (Below.refl _ _).drew) (first
          | (go_at_call 63; ((with_reducible refine (HX.out _ HB.out.drew).mono ?_)); rintro e wq ⟨rfl, hbq⟩)
          | (go_at_call 63; ((with_reducible refine (HTS.out _ (HB.out.drew.trans (hbq.mono HB.out.drew.size))).mono ?_)); rintro e wz ⟨rfl, hbz⟩))
        all_goals
          have HBZ : Hid (Below wr.heap.size wr wz) := (Below.refl _ _).drew.trans (hbq.trans (hbz.mono hbq.size))
          clear hbq hbz
          go_wp2_with fail
          exact ⟨⟨k + 1, by omega, by go_num, by rw [HFT.out false (decide_eq_false (Int.not_lt.2 hcm))]; exact HR.out.below HBZ.out⟩, by simp [intOf]; omega⟩
    · have hltI : ¬ (k : Int) < (n : Int) := by omega
      go_wp2_with fail
      go_ret
      refine ⟨_, rfl, ?_⟩
      have := HR.out
      rw [List.take_of_length_le (by rw [HN.out]; omega)] at this
      exact this.weak H1.out.2.2
end
end Go.Proofs.YtjagnihkpgbjeaaDoor

namespace Go.Proofs.YtjagnihkpgbjeaaDoor
open Go.RowKit
set_option linter.unusedVariables false
/-! isSpecial of a target without a dot ahead; add. -/
theorem hp_dot (l : Bs) : Lib.hasPrefix l [46] = decide (l.head? = some 46) := by
  cases l with
  | nil => rfl
  | cons a t =>
    unfold Lib.hasPrefix
    by_cases h : a = 46
    · subst h; simp [List.isPrefixOf]
    · have h2 : ¬ (46 : UInt8) = a := fun e => h e.symm
      simp [List.isPrefixOf, h, h2]
set_option maxRecDepth 100000 in
set_option maxHeartbeats 1000000 in
theorem special_no (s : ByteArray) (w : World) (h : s.data.toList.head? ≠ some 46) : Calls Tryd.prog 50 #[.string s] w fun e w' => e = .returned (.bool false) ∧ w' = w := by
  have HC := Lib.hid (Tryd.strings_CutPrefix s ⟨#[46]⟩ w)
  rw [show (⟨#[46]⟩ : ByteArray).data.toList = [46] from rfl, hp_dot, decide_eq_false h] at HC
  obtain ⟨r, hr⟩ : ∃ r : ByteArray, ⟨(Lib.trimPrefix s.data.toList [46]).toArray⟩ = r := ⟨_, rfl⟩
  rw [hr] at HC
  clear h hr
  go_enter Tryd.func50, Tryd.ntmps50
  go_wp2_with (go_at_call 75; refine HC.out.mono ?_; rintro e w1 ⟨rfl, h1⟩; obtain rfl := h1.symm; simp only [])
  go_ret
  exact ⟨rfl, rfl⟩
def addF (L M : List Bs) : List Bs := M.foldl (fun l x => if l.contains x then l else l ++ [x]) L
theorem addF_len : ∀ (M L : List Bs), (addF L M).length ≤ L.length + M.length
  | [], L => by simp [addF]
  | x :: M, L => by
    show (addF (if L.contains x then L else L ++ [x]) M).length ≤ _
    have ih := addF_len M (if L.contains x then L else L ++ [x])
    have : (if L.contains x then L else L ++ [x]).length ≤ L.length + 1 := by split <;> simp
    simp only [List.length_cons]
    omega
theorem addF_take (L M : List Bs) (k : Nat) (h : k < M.length) (b : Bool) (hb : (addF L (M.take k)).contains M[k] = b) : addF L (M.take (k + 1)) = if b then addF L (M.take k) else addF L (M.take k) ++ [M[k]] := by
  unfold addF at hb ⊢
  rw [List.take_succ_eq_append_getElem h, List.foldl_append]
  simp only [List.foldl_cons, List.foldl_nil]
  rw [hb]
/-- A row of texts of base B, and that of what was there none but the blocks of S has turned. -/
structure AddSR (B : Nat) (S : Nat → Prop) (w w' : World) (v : Value) (L : List Bs) : Prop where
  own : w'.ownsRow B 9 1 v L.length (L.map encStr)
  oth : Only S w w'
  wher : ∀ g, v.ownBlock = some g → S g ∨ w.heap.size ≤ g
def AddSP (B : Nat) (S : Nat → Prop) (w : World) (L : List Bs) (e : Ending) (w' : World) : Prop := ∃ v, e = .returned v ∧ AddSR B S w w' v L
theorem run_app_one (w : World) (B : Nat) (v : Value) (L : List Bs) (x : Bs) (h : w.ownsRow B 9 1 v L.length (L.map encStr)) (hl : L.length ≤ 10000000) (hB : B ≤ w.heap.size) :
    ∃ v' w', (Builtin.append_ #[29, 29] 29 #[v, .slice (some ⟨w.heap.size, 0, none⟩) 1 1]).run Tryd.prog (w.alloc (.cells #[.string ⟨x.toArray⟩] 9)) = .ok v' w' ∧ w'.ownsRow B 9 1 v' (L ++ [x]).length ((L ++ [x]).map encStr) ∧ Only (fun j => v.ownBlock = some j) w w' ∧ (∀ g, v'.ownBlock = some g → v.ownBlock = some g ∨ w.heap.size ≤ g) := by
  obtain ⟨i0, hi, hz0, hz1, hz2⟩ := info_parts info9
  have hba := below_alloc w (.cells #[.string ⟨x.toArray⟩] 9)
  have hown := own_keep3 h hba
  have hcell : (w.alloc (.cells #[.string ⟨x.toArray⟩] 9)).cell? ⟨w.heap.size, 0, none⟩ = some (encStr x) := by
    simp only [World.cell?, heap_alloc_new w]; rfl
  obtain ⟨v', w', e1, e2, e3, _⟩ := run_append_own (P := Tryd.prog) (w.alloc (.cells #[.string ⟨x.toArray⟩] 9)) B 29 29 9 i0 _ 1 16 Tryd.underlying29 hi hz0 hz1 hz2 rfl (by decide) v L.length (L.map encStr) hown ⟨w.heap.size, 0, none⟩ 1 1 [encStr x] rfl
    (fun j u hj => by
      match j, hj with
      | 0, hj => simp at hj; subst hj; simp [Addr.add]
      | j + 1, hj => simp at hj) (by intro u hu; simp at hu; subst hu; rfl) (by unfold maxLen; omega) (by omega) (by have := hba.size; omega)
  have hw := append_where hown hcell rfl (by omega) e1
  refine ⟨v', w', e1, by rw [List.length_append, List.map_append]; exact e2, (Only.of_below (S := fun j => v.ownBlock = some j) hba).trans (Only.of_grown (S := fun i => v.ownBlock = some i) e3 (fun k hk => hk)) (fun _ h => h) (fun _ _ h => h), fun g hg => ?_⟩
  rcases hw with hw | hw
  · exact .inl (hw ▸ hg)
  · rw [hw] at hg
    injection hg with hg
    have := hba.size
    exact .inr (by omega)
set_option maxRecDepth 100000 in
set_option maxHeartbeats 4000000 in
theorem addS_any (B : Nat) (S : Nat → Prop) (v u : Value) (L M : List Bs) (w : World) (hB : B ≤ w.heap.size) (hv : w.ownsRow B 9 1 v L.length (L.map encStr)) (hS : ∀ g, v.ownBlock = some g → S g) (hu : ∀ w', Only S w w' → SlE w' u M) (hl : L.length + M.length ≤ 1000000) :
    Calls Tryd.prog 52 #[v, u] w (AddSP B S w (addF L M)) := by
  have HU := Lib.hid hu
  have HV := Lib.hid (AddSR.mk hv (Only.refl S w) (fun g hg => .inl (hS g hg)))
  obtain ⟨a, c, rfl⟩ := (hu w (Only.refl _ _)).len
  obtain ⟨va, vn, vc, rfl⟩ := sl_form (SlS.own hv)
  obtain ⟨n, hn⟩ : ∃ n, M.length = n := ⟨_, rfl⟩
  have HN := Lib.hid hn
  have HLL := Lib.hid hl
  rw [hn] at hl HU ⊢
  obtain ⟨R, hR⟩ : ∃ R, AddSP B S w (addF L M) = R := ⟨_, rfl⟩
  rw [hR]
  have HR := Lib.hid hR
  clear hu hv hn hR hS
  go_enter Tryd.func52, Tryd.ntmps52
  go_wp2_with fail
  go_loopw [0, 9] (fun l i wr => ∃ k : Nat, k ≤ n ∧ i = .int .i64 k ∧ Hid (AddSR B S w wr l (addF L (M.take k)))) (fun _ i _ => n - (intOf i).toNat)
  case atStart => exact ⟨0, by omega, rfl, HV.out⟩
  case round =>
    obtain ⟨k, hk, rfl, HX⟩ := hrel
    by_cases hlt : k < n
    · have hltI : (k : Int) < (n : Int) := by omega
      have h0 : (0 : Int) ≤ (k : Int) := by omega
      have hlr : k < M.length := by rw [HN.out]; exact hlt
      obtain ⟨g, off, rfl, _, hc⟩ := strs_sn (HU.out _ HX.out.oth) (by omega)
      have hck := hc k hlr
      have hadd := addk g off k
      clear hc
      rw [show encStr M[k] = .string (nameB M[k]) from rfl] at hck
      obtain ⟨b, hb⟩ : ∃ b, (addF L (M.take k)).contains M[k] = b := ⟨_, rfl⟩
      have HLN : Hid ((addF L (M.take k)).length ≤ 1000000) := Nat.le_trans (addF_len _ _) (by have := HLL.out; simp; omega)
      have HC := Lib.hid (Contains_any _ _ (nameB M[k]) wr (SlS.own HX.out.own) (by have := HLN.out; omega) b (by rw [show (nameB M[k]).data.toList = M[k] by unfold nameB; simp]; exact hb))
      have HT := Lib.hid (addF_take L M k hlr b hb)
      have HNB : Hid (nameB M[k] = ⟨M[k].toArray⟩) := rfl
      obtain ⟨xb, hxb⟩ : ∃ xb, nameB M[k] = xb := ⟨_, rfl⟩
      rw [hxb] at hck HC HNB
      clear hb hxb
      cases b with
      | true =>
        go_wp2_with (go_at_call 78; refine HC.out.mono ?_; rintro e w1 ⟨rfl, h1⟩; obtain rfl := h1.symm; simp only [])
        exact ⟨⟨k + 1, by omega, by go_num, by rw [HT.out]; exact HX.out⟩, by simp [intOf]; omega⟩
      | false =>
        obtain ⟨v', w', hrun, ho, hoth, hwh⟩ := run_app_one wr B _ _ M[k] HX.out.own (by have := HLN.out; omega) (Nat.le_trans hB HX.out.oth.size)
        rw [← HNB.out] at hrun
        have HRO : Hid (AddSR B S w w' v' (addF L (M.take (k + 1)))) := by
          rw [HT.out]
          refine ⟨ho, HX.out.oth.trans hoth (fun _ h => h) (fun i hi h => ?_), fun g hg => ?_⟩
          · rcases HX.out.wher i h with h | h
            · exact h
            · omega
          · rcases hwh g hg with h | h
            · exact HX.out.wher g h
            · exact .inr (Nat.le_trans HX.out.oth.size h)
        have HRUN := Lib.hid hrun
        clear hrun ho hoth hwh
        go_wp2_with (first
          | (go_at_call 78; refine HC.out.mono ?_; rintro e w1 ⟨rfl, h1⟩; obtain rfl := h1.symm; simp only [])
          | (at_builtin; refine wpList_run_append _ rfl _ _ 29 29 rfl _ _ rfl rfl HRUN.out ?_))
        exact ⟨⟨k + 1, by omega, by go_num, HRO.out⟩, by simp [intOf]; omega⟩
    · have hltI : ¬ (k : Int) < (n : Int) := by omega
      go_wp2_with fail
      rw [← HR.out]
      refine ⟨_, rfl, ?_⟩
      have := HX.out
      rw [List.take_of_length_le (by rw [HN.out]; omega)] at this
      exact this
end Go.Proofs.YtjagnihkpgbjeaaDoor

namespace Go.Proofs.YtjagnihkpgbjeaaDoor
open Go.RowKit Go.Maps Go.ChangeMaps
set_option linter.unusedVariables false
/-! Has, Old. -/
set_option maxRecDepth 100000 in
set_option maxHeartbeats 4000000 in
theorem Has_any (ms v : Value) (rs : List Rl) (nm t : ByteArray) (w : World) (hv : RsV w v rs) (hl : rs.length ≤ 1000) (b : Bool) (hb : hasF rs nm.data.toList t.data.toList = b) :
    Calls Tryd.prog 61 #[.agg #[ms, v], .string nm, .string t] w fun e w' => e = .returned (.bool b) ∧ Below w.heap.size w w' := by
  have HV := Lib.hid hv
  have hba := below_alloc w (.cells #[ms, v] 45)
  have HS := Lib.hid (Special_any ms v rs nm (w.alloc (.cells #[ms, v] 45)) (hv.below hba) hl)
  have hfl : (specialF rs nm.data.toList).length ≤ 4000000 ∨ True := .inr trivial
  unfold SpecialP at HS
  have HLS : Hid ((specialF rs nm.data.toList).length ≤ 100000000) := by
    have e1 := few_len (plainF rs nm.data.toList) (fun r hr => hv.few r (List.mem_filter.1 hr).1)
    have e2 := plain_len rs nm.data.toList
    unfold specialF
    exact Nat.le_trans e1 (by omega)
  obtain ⟨S, hS⟩ : ∃ S, specialF rs nm.data.toList = S := ⟨_, rfl⟩
  obtain ⟨kn, hkn⟩ : ∃ kn, knownF rs nm.data.toList = kn := ⟨_, rfl⟩
  have HK := Lib.hid (fun (w' : World) (hb : Below w.heap.size w w') => Known_any ms v rs nm w' (hv.below hb) hl kn hkn)
  obtain ⟨x, hx⟩ : ∃ x, S.contains t.data.toList = x := ⟨_, rfl⟩
  unfold hasF at hb
  rw [hS, hkn, hx] at hb
  rw [hS] at HS HLS
  have HC := Lib.hid (fun (w' : World) (v' : Value) (h : SlS w' v' S) => Contains_any v' S t w' h (by have := HLS.out; omega) x hx)
  obtain ⟨a, d, rfl⟩ := hv.len
  obtain ⟨m, hm⟩ : ∃ m, rs.length = m := ⟨_, rfl⟩
  rw [hm] at HS HK ⊢
  clear hv hl hS hkn hx HV HLS hfl hm
  cases x with
  | true =>
    obtain rfl : true = b := by simpa using hb
    clear hb
    go_enter Tryd.func61, Tryd.ntmps61
    go_wp2_with (first
      | (go_at_call 81; refine HS.out.mono ?_; rintro e w1 ⟨u, rfl, h1⟩; have H1 := Lib.hid h1; obtain ⟨p0, p1, p2⟩ := box2 h1.old; have HP2 := Lib.hid p2; clear p2; obtain ⟨ua, un, uc, rfl⟩ := sl_form h1.sls; clear h1; simp only [])
      | (go_at_call 78; refine (HC.out _ _ H1.out.sls).mono ?_; rintro e w2 ⟨rfl, h2⟩; obtain rfl := h2.symm; simp only []))
    go_ret
    exact ⟨rfl, HP2.out⟩
  | false =>
    by_cases hS0 : S = []
    · subst hS0
      obtain rfl : kn = b := by simpa using hb
      clear hb
      go_enter Tryd.func61, Tryd.ntmps61
      go_wp2_with (first
        | (go_at_call 81; refine HS.out.mono ?_; rintro e w1 ⟨u, rfl, h1⟩; have H1 := Lib.hid h1; obtain ⟨p0, p1, p2⟩ := box2 h1.old; have HP2 := Lib.hid p2; clear p2; obtain ⟨ua, uc, rfl⟩ := h1.sls.len; clear h1; simp only [List.length_nil])
        | (go_at_call 78; refine (HC.out _ _ H1.out.sls).mono ?_; rintro e w2 ⟨rfl, h2⟩; obtain rfl := h2.symm; simp only [])
        | (go_at_call 87; refine (HK.out _ HP2.out).mono ?_; rintro e w2 ⟨rfl, h2⟩; have H2 := Lib.hid h2; clear h2; simp only []))
      go_ret
      exact ⟨rfl, HP2.out.trans (H2.out.mono HP2.out.size)⟩
    · have hb' : false = b := by
        rw [← hb]
        cases S with
        | nil => exact absurd rfl hS0
        | cons a b => rfl
      subst hb'
      obtain ⟨sn, hsn⟩ : ∃ sn, S.length = sn := ⟨_, rfl⟩
      have hsn0 : sn ≠ 0 := by rw [← hsn]; intro e; exact hS0 (List.eq_nil_of_length_eq_zero e)
      have HSN := Lib.hid hsn
      clear hb hS0 hsn
      go_enter Tryd.func61, Tryd.ntmps61
      go_wp2_with (first
        | (go_at_call 81; refine HS.out.mono ?_; rintro e w1 ⟨u, rfl, h1⟩; have H1 := Lib.hid h1; obtain ⟨p0, p1, p2⟩ := box2 h1.old; have HP2 := Lib.hid p2; clear p2; obtain ⟨ua, uc, hu⟩ := h1.sls.len; rw [HSN.out] at hu; subst hu; clear h1; simp only [])
        | (go_at_call 78; refine (HC.out _ _ H1.out.sls).mono ?_; rintro e w2 ⟨rfl, h2⟩; obtain rfl := h2.symm; simp only []))
      go_ret
      exact ⟨rfl, HP2.out⟩
end Go.Proofs.YtjagnihkpgbjeaaDoor
