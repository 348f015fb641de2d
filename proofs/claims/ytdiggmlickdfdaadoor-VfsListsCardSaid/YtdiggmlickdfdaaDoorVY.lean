import Derived.Test.YtdiggmlickdfdaaDoorVX
namespace Go.Proofs.YtdiggmlickdfdaaDoor
open Go.RowKit Go.Maps Go.ChangeMaps
set_option linter.unusedVariables false
def c50 : Cn := ⟨50, 50, 0, 0, 0⟩
def T1 : Tr := setF newT [[100]] (some ⟨false, [], 1⟩)
def T2 : Tr := setF T1 [[120]] (some ⟨true, [], 2⟩)
theorem New50 (w : World) {B : Nat} (hB : B ≤ w.heap.size) : Calls Tryd.prog 6 #[.int .i64 50, .int .i64 50] w fun e w1 => ∃ f, e = .returned (.pointer (some ⟨f, 0, none⟩)) ∧ Fs w1 B 0 f c50 newT (fun j => w.heap.size ≤ j ∧ j < w1.heap.size) ∧ Below w.heap.size w w1 := by
  refine (New_any 50 50 w (B := B) (N := 0) hB).mono ?_
  rintro e w1 ⟨f, h1, h2, h3⟩
  rw [show min (max (50 : Int) 0) 10000 = 50 by decide, show min (max (50 : Int) 0) 1048576 = 50 by decide] at h2
  exact ⟨f, h1, h2.cap, h3⟩
theorem Mk_d (w : World) {B f : Nat} {F : Nat → Prop} (hF : Fs w B 0 f c50 newT F) (hB : B ≤ w.heap.size) : Calls Tryd.prog 7 #[.pointer (some ⟨f, 0, none⟩), .string ⟨#[47, 100]⟩] w (MutP w B 0 f F 0 T1 ⟨50, 50, 1, 0, 1⟩) := by
  refine Mkdir_any w _ hF path_d.2.2 ⟨by decide, by decide, by decide, by decide, by decide⟩ (by decide) hB 0 T1 ⟨50, 50, 1, 0, 1⟩ ?_
  rw [Hid, mkdirF, path_d.1, path_d.2.1, if_neg (by simp [wayE]), if_neg (by simp [newT, leafT]), if_neg (by decide)]
  rfl
theorem Wr_x (w : World) {B f : Nat} {F : Nat → Prop} (hF : Fs w B 1 f ⟨50, 50, 1, 0, 1⟩ T1 F) (hB : B ≤ w.heap.size) : Calls Tryd.prog 8 #[.pointer (some ⟨f, 0, none⟩), .string ⟨#[47, 120]⟩, .slice none 0 0, .bool false] w (MutP w B 1 f F 0 T2 ⟨50, 50, 2, 0, 2⟩) := by
  have := Write_new w ⟨#[47, 120]⟩ false hF path_x.2.2 ⟨by decide, by decide, by decide, by decide, by decide⟩ (by decide) hB (path_x.2.1 _) (by rw [path_x.1]; simp [T1, setF, newT, leafT]) [] none 0 ⟨none, 0, rfl, fun i h => absurd h (by simp)⟩ (fun a h => by cases h) (by simp) (by decide) (by decide)
  rw [path_x.1] at this
  exact this
theorem Tq2 : Tq T2 [] := by
  refine ⟨⟨⟨false, [], 1⟩, by simp [T2, T1, setF], rfl⟩, fun x => ?_⟩
  simp [T2, T1, setF, newT, leafT]
theorem Ck2 : Ck ⟨50, 50, 2, 0, 2⟩ 2 := ⟨rfl, rfl, rfl, by decide, by decide⟩
/-- The list that was put together so far, out of the file system's way. -/
structure Want (w : World) (F : Nat → Prop) (v : Value) (l : List Bs) : Prop where
  sl : SlS w v l
  out : ∀ g, v.ownBlock = some g → ¬ F g ∧ g < w.heap.size
theorem SlS.only {w w' : World} {v : Value} {l : List Bs} {F : Nat → Prop} (h : SlS w v l) (ho : Only F w w') (hf : ∀ g, v.ownBlock = some g → ¬ F g) : SlS w' v l := by
  rcases h with h | ⟨g, off, c, rfl, h1, h2, h3, h4⟩
  · exact .inl h
  · refine .inr ⟨g, off, c, rfl, h1, h2, Nat.lt_of_lt_of_le h3 ho.size, fun i hi => ?_⟩
    have hb := ho.block g h3 (hf g rfl)
    have := h4 i hi
    simp only [World.cell?] at this ⊢
    rw [hb]; exact this
/-- Behind a change of the file system. -/
theorem Want.mut {w w' : World} {v : Value} {l : List Bs} {F : Nat → Prop} (h : Want w F v l) (ho : Only F w w') : Want w' (fun j => (F j ∨ w.heap.size ≤ j) ∧ j < w'.heap.size) v l :=
  ⟨h.sl.only ho (fun g hg => (h.out g hg).1), fun g hg => ⟨fun e => by
    have := h.out g hg
    rcases e.1 with e | e
    · exact this.1 e
    · omega, Nat.lt_of_lt_of_le (h.out g hg).2 ho.size⟩⟩
/-- Behind a call of PutString. -/
theorem Want.put {w w' : World} {v v' : Value} {l l' : List Bs} {F : Nat → Prop} (h : Want w F v l) (hF : ∀ j, F j → j < w.heap.size) (hn : SlN w w' v v' l l') (hb : Below w.heap.size w w') : Want w' F v' l' := by
  rcases hn with ⟨rfl, rfl⟩ | hr
  · exact ⟨h.sl.below hb, fun g hg => ⟨(h.out g hg).1, Nat.lt_of_lt_of_le (h.out g hg).2 hb.size⟩⟩
  · refine ⟨SlS.own hr, fun g hg => ?_⟩
    rcases hr.2 with ⟨e, _⟩ | ⟨g', cap, cur, e, h1, h2, _⟩
    · rw [e] at hg; cases hg
    · rw [e] at hg; cases hg
      exact ⟨fun e2 => by have h9 : g' < w.heap.size := hF _ e2; omega, (Array.getElem?_eq_some_iff.1 h2).1⟩
end Go.Proofs.YtdiggmlickdfdaaDoor
