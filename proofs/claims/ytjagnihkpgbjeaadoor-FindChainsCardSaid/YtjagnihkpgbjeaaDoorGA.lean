import Derived.Test.YtjagnihkpgbjeaaDoorFD
import Derived.Test.YtjagnihkpgbjeaaDoorVU
namespace Go.Proofs.YtjagnihkpgbjeaaDoor
open Go.RowKit Go.Maps Go.ChangeMaps
set_option linter.unusedVariables false
/-! A name in the root: its path, its kind, its time. -/
def pathB (s : Bz) : ByteArray := ⟨(47 :: s).toArray⟩
def nameB (s : Bz) : ByteArray := ⟨s.toArray⟩
theorem nm_good1 {s : Bz} (h : Nm s) : Good [s] := by
  intro x hx
  simp at hx
  subst hx
  exact ⟨h.ne, h.dot, h.dots, h.no⟩
theorem nm_written {s : Bz} (h : Nm s) : written [s] = 47 :: s := by simp [written, joined]
theorem nm_abs {s : Bz} (h : Nm s) : abs_ root1 (nameB s) = (47 :: s, 0) := by
  have hl : (nameB s).size = s.length := by unfold nameB; simp [ByteArray.size]
  have hp : parts root1 (nameB s) = [s] := by
    rw [parts_of, show (nameB s).data.toList = s by unfold nameB; simp, sp_all _ h.no]
    show List.foldl push (push [] s) [] = _
    rw [push_nm h]; rfl
  have hle := h.le
  unfold abs_
  rw [if_neg, hp, if_neg, if_neg, nm_written h]
  · rw [nm_written h]; simp; omega
  · rintro ⟨x, hx, g⟩
    simp at hx
    subst hx
    omega
  · rintro (g | g | g)
    · rw [hl] at g; exact h.ne (List.eq_nil_of_length_eq_zero g)
    · exact h.nul 0 (by simpa [nameB] using (at_mem (nameB s) 0).1 g) rfl
    · exact root_no g
theorem nm_one {s : Bz} (h : Nm s) : findL (pathB s) = [s] ∧ (∀ T, findE T (pathB s) = 0) ∧ PathOk (pathB s) := by
  have hle := h.le
  have hsz : (pathB s).size = s.length + 1 := by unfold pathB; simp [ByteArray.size]
  have hdl : (pathB s).data.toList = 47 :: s := by unfold pathB; simp
  obtain ⟨e1, e2, e3⟩ := path_of (p := pathB s) (L := [s]) (by
    rw [parts_of, hdl, show (47 :: s) = [] ++ 47 :: s from rfl, sp_cut [] _ (by simp), sp_all _ h.no]
    show List.foldl push (push (push [] []) s) [] = _
    rw [show push ([] : List Bs) [] = [] from rfl, push_nm h]; rfl) (nm_good1 h) (fun x hx => by simp at hx; subst hx; exact hle) (by simp) (by rw [nm_written h]; simp; omega) (by omega) (by omega) (by
    intro c hc
    rw [hdl] at hc
    rcases List.mem_cons.1 hc with rfl | hc
    · decide
    · exact h.nul c hc)
  exact ⟨e1, fun T => by rw [e2 T]; rfl, e3⟩
def kdF (T : Tr) (s : Bz) : Int := match T [s] with | none => 0 | some n => if n.file then 1 else 2
def thF (T : Tr) (s : Bz) : Bool := (T [s]).isSome
def tmF (T : Tr) (s : Bz) : Int := match T [s] with | none => 0 | some n => n.time
section
variable {w : World} {B N f : Nat} {c : Cn} {T : Tr} {F : Nat → Prop} {s : Bz}
set_option maxRecDepth 100000 in
set_option maxHeartbeats 4000000 in
theorem Kind_none (hF : Fs w B N f c T F) (hs : Nm s) (hn : T [s] = none) :
    Calls Tryd.prog 88 #[.pointer (some ⟨f, 0, none⟩), .string (pathB s)] w fun e w' => e = .returned (.int .i64 0) ∧ Below w.heap.size w w' := by
  obtain ⟨A, M, V, hT, hft, r0, h0, hr0⟩ := hF
  obtain ⟨e1, e2, e3⟩ := nm_one hs
  have HB := Lib.hid (find_good (d := []) (k := s) (w := w) hT h0 hr0 e3 (e2 T) (by rw [e1]; rfl))
  have hk : kidsOf T A [] s = none := by unfold kidsOf; rw [show ([] : Pth) ++ [s] = [s] from rfl, hn]; rfl
  rw [hk] at HB
  obtain ⟨lg, hlg⟩ : ∃ lg, (([] : Pth) ++ [s]).length = lg := ⟨_, rfl⟩
  rw [hlg] at HB
  clear hT hft h0 hr0 e1 e2 e3 hk hlg hn
  go_enter Tryd.func88, Tryd.ntmps88
  go_wp2_with (go_at_call 38; refine HB.out.mono ?_; rintro e w1 ⟨dn, g, cc, hdn, hdf, rfl, hrow, h1⟩; have H1 := Lib.hid h1; clear h1 hrow hdn hdf; simp only [spotV, ptrV])
  go_ret
  exact ⟨rfl, H1.out.alloc H1.out.size _⟩
set_option maxRecDepth 100000 in
set_option maxHeartbeats 4000000 in
theorem Kind_some {n : Nd} (hF : Fs w B N f c T F) (hs : Nm s) (hn : T [s] = some n) :
    Calls Tryd.prog 88 #[.pointer (some ⟨f, 0, none⟩), .string (pathB s)] w fun e w' => e = .returned (.int .i64 (if n.file then 1 else 2)) ∧ Below w.heap.size w w' := by
  obtain ⟨A, M, V, hT, hft, r0, h0, hr0⟩ := hF
  obtain ⟨e1, e2, e3⟩ := nm_one hs
  have HB := Lib.hid (find_good (d := []) (k := s) (w := w) hT h0 hr0 e3 (e2 T) (by rw [e1]; rfl))
  have hk : kidsOf T A [] s = some (A [s]) := by unfold kidsOf; rw [show ([] : Pth) ++ [s] = [s] from rfl, hn]; rfl
  rw [hk] at HB
  obtain ⟨lg, hlg⟩ : ∃ lg, (([] : Pth) ++ [s]).length = lg := ⟨_, rfl⟩
  rw [hlg] at HB
  have hbl := hT.blk [s] n hn
  have hlt := (Array.getElem?_eq_some_iff.1 hbl).1
  have hc0 : w.cell? ⟨A [s], 0, none⟩ = some (.bool n.file) := cell_of hbl 0
  obtain ⟨na, hna⟩ : ∃ na, A [s] = na := ⟨_, rfl⟩
  rw [hna] at HB hlt hc0
  have HC0 := Lib.hid hc0
  obtain ⟨fl, hfl⟩ : ∃ fl, n.file = fl := ⟨_, rfl⟩
  rw [hfl] at HC0 ⊢
  clear hT hft h0 hr0 e1 e2 e3 hk hlg hn hbl hc0 hna hfl
  have key : ∀ (w1 : World) (o : Obj), Below w.heap.size w w1 → (w1.alloc o).cell? ⟨na, 0, none⟩ = some (.bool fl) := fun w1 o h1 => by
    rw [(h1.alloc h1.size o).cell (p := ⟨na, 0, none⟩) hlt]; exact HC0.out
  cases fl
  all_goals
    go_enter Tryd.func88, Tryd.ntmps88
    go_wp2_with (go_at_call 38; refine HB.out.mono ?_; rintro e w1 ⟨dn, g, cc, hdn, hdf, rfl, hrow, h1⟩; have H1 := Lib.hid h1; have q0 := fun o => key w1 o h1; clear h1 hrow hdn hdf; simp only [spotV, ptrV])
    go_ret
    exact ⟨rfl, H1.out.alloc H1.out.size _⟩
theorem Kind_any (hF : Fs w B N f c T F) (hs : Nm s) (k : Int) (hk : kdF T s = k) :
    Calls Tryd.prog 88 #[.pointer (some ⟨f, 0, none⟩), .string (pathB s)] w fun e w' => e = .returned (.int .i64 k) ∧ Below w.heap.size w w' := by
  unfold kdF at hk
  cases h : T [s] with
  | none => rw [h] at hk; subst hk; exact Kind_none hF hs h
  | some n => rw [h] at hk; subst hk; exact Kind_some hF hs h
set_option maxRecDepth 100000 in
set_option maxHeartbeats 4000000 in
theorem Time_none (hF : Fs w B N f c T F) (hs : Nm s) (hn : T [s] = none) :
    Calls Tryd.prog 37 #[.pointer (some ⟨f, 0, none⟩), .string (pathB s)] w fun e w' => e = .returned (.int .i64 0) ∧ Below w.heap.size w w' := by
  obtain ⟨A, M, V, hT, hft, r0, h0, hr0⟩ := hF
  obtain ⟨e1, e2, e3⟩ := nm_one hs
  have hE : presE T (pathB s) = 6 := by unfold presE; rw [if_neg (by rw [e2]; decide), e1, hn]; rfl
  have HB := Lib.hid (present_err (w := w) hT h0 hr0 e3 (by rw [hE]; decide))
  rw [hE] at HB
  clear hT hft h0 hr0 e1 e2 e3 hE hn
  go_enter Tryd.func37, Tryd.ntmps37
  go_wp2_with (go_at_call 42; refine HB.out.mono ?_; rintro e w1 ⟨⟨a, b, c, d, l, rfl⟩, h1⟩; have H1 := Lib.hid h1; clear h1; simp only [])
  go_ret
  exact ⟨rfl, H1.out.alloc H1.out.size _⟩
theorem Time_any (hF : Fs w B N f c T F) (hs : Nm s) (k : Int) (hk : tmF T s = k) :
    Calls Tryd.prog 37 #[.pointer (some ⟨f, 0, none⟩), .string (pathB s)] w fun e w' => e = .returned (.int .i64 k) ∧ Below w.heap.size w w' := by
  obtain ⟨e1, e2, e3⟩ := nm_one hs
  unfold tmF at hk
  cases h : T [s] with
  | none => rw [h] at hk; subst hk; exact Time_none hF hs h
  | some n => rw [h] at hk; subst hk; exact Time_ok hF e3 (e2 T) (by rw [e1]; exact h)
end
theorem AbsN_any (s : Bz) (hs : Nm s) (w : World) : Calls Tryd.prog 64 #[.string ⟨#[47]⟩, .string (nameB s)] w fun e w' => e = .returned (.tuple #[.string (pathB s), .int .i64 0]) ∧ Below w.heap.size w w' :=
  Abs_any root1 (nameB s) w (by decide) (by have := hs.le; unfold nameB; simp [ByteArray.size]; omega) _ _ (nm_abs hs)
theorem box2 {w w1 : World} {x y : Value} {t : TypeId} (h1 : Below (w.alloc (.cells #[x, y] t)).heap.size (w.alloc (.cells #[x, y] t)) w1) :
    w1.cell? ⟨w.heap.size, 0, none⟩ = some x ∧ w1.cell? ⟨w.heap.size, 1, none⟩ = some y ∧ Below w.heap.size w w1 := by
  have hz : w.heap.size < (w.alloc (.cells #[x, y] t)).heap.size := by simp
  refine ⟨(h1.cell (p := ⟨w.heap.size, 0, none⟩) hz).trans ?_, (h1.cell (p := ⟨w.heap.size, 1, none⟩) hz).trans ?_, (below_alloc w _).trans (h1.mono (by simp))⟩ <;>
    simp only [World.cell?, heap_alloc_new w] <;> rfl
section
variable {w : World} {B N f : Nat} {c : Cn} {T : Tr} {F : Nat → Prop} {s : Bz}
set_option maxRecDepth 100000 in
set_option maxHeartbeats 4000000 in
theorem there_any (hF : Fs w B N f c T F) (hs : Nm s) (b : Bool) (hb : thF T s = b) :
    Calls Tryd.prog 62 #[.agg #[.pointer (some ⟨f, 0, none⟩), .string ⟨#[47]⟩], .string (nameB s)] w fun e w' => e = .returned (.bool b) ∧ Below w.heap.size w w' := by
  have HA := Lib.hid (AbsN_any s hs (w.alloc (.cells #[.pointer (some ⟨f, 0, none⟩), .string ⟨#[47]⟩] 104)))
  obtain ⟨k, hk⟩ : ∃ k, kdF T s = k := ⟨_, rfl⟩
  have HK := Lib.hid (fun (w' : World) (hb : Below w.heap.size w w') => Kind_any (hF.below hb) hs k hk)
  have hkb : (k != 0) = b := by
    rw [← hk, ← hb]
    unfold kdF thF
    cases T [s] with
    | none => rfl
    | some n => cases h : n.file <;> simp [h]
  obtain ⟨nb, hnb⟩ : ∃ nb, nameB s = nb := ⟨_, rfl⟩
  obtain ⟨pb, hpb⟩ : ∃ pb, pathB s = pb := ⟨_, rfl⟩
  rw [hnb] at HA ⊢
  rw [hpb] at HA HK
  clear hF hs hb hk hnb hpb
  go_enter Tryd.func62, Tryd.ntmps62
  go_wp2_with (first
    | (go_at_call 64; refine HA.out.mono ?_; rintro e w1 ⟨rfl, h1⟩; have H1 := Lib.hid (box2 h1); obtain ⟨p0, p1, _⟩ := box2 h1; clear h1; simp only [])
    | (go_at_call 88; refine (HK.out _ H1.out.2.2).mono ?_; rintro e w2 ⟨rfl, h2⟩; have H2 := Lib.hid h2; clear h2; simp only []))
  go_ret
  exact ⟨rfl, H1.out.2.2.trans (H2.out.mono H1.out.2.2.size)⟩
set_option maxRecDepth 100000 in
set_option maxHeartbeats 4000000 in
theorem time_any (hF : Fs w B N f c T F) (hs : Nm s) (k : Int) (hk : tmF T s = k) :
    Calls Tryd.prog 63 #[.agg #[.pointer (some ⟨f, 0, none⟩), .string ⟨#[47]⟩], .string (nameB s)] w fun e w' => e = .returned (.int .i64 k) ∧ Below w.heap.size w w' := by
  have HA := Lib.hid (AbsN_any s hs (w.alloc (.cells #[.pointer (some ⟨f, 0, none⟩), .string ⟨#[47]⟩] 104)))
  have HK := Lib.hid (fun (w' : World) (hb : Below w.heap.size w w') => Time_any (hF.below hb) hs k hk)
  obtain ⟨nb, hnb⟩ : ∃ nb, nameB s = nb := ⟨_, rfl⟩
  obtain ⟨pb, hpb⟩ : ∃ pb, pathB s = pb := ⟨_, rfl⟩
  rw [hnb] at HA ⊢
  rw [hpb] at HA HK
  clear hF hs hk hnb hpb
  go_enter Tryd.func63, Tryd.ntmps63
  go_wp2_with (first
    | (go_at_call 64; refine HA.out.mono ?_; rintro e w1 ⟨rfl, h1⟩; have H1 := Lib.hid (box2 h1); obtain ⟨p0, p1, _⟩ := box2 h1; clear h1; simp only [])
    | (go_at_call 37; refine (HK.out _ H1.out.2.2).mono ?_; rintro e w2 ⟨rfl, h2⟩; have H2 := Lib.hid h2; clear h2; simp only []))
  go_ret
  exact ⟨rfl, H1.out.2.2.trans (H2.out.mono H1.out.2.2.size)⟩
end
end Go.Proofs.YtjagnihkpgbjeaaDoor
