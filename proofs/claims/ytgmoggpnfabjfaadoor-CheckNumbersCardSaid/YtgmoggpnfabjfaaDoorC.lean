import Derived.Test.YtgmoggpnfabjfaaDoorB
namespace Go.Proofs.YtgmoggpnfabjfaaDoor
open Go.RowKit
set_option linter.unusedVariables false

set_option maxRecDepth 100000 in
set_option maxHeartbeats 2000000 in
theorem holds_eq (x1 x2 y1 y2 : Nat) (b1 e1 b2 e2 : Bool) (h1 : (FloatKind.f64.format.order x1 y1 == some .lt) = b1) (h2 : (FloatKind.f64.format.order x1 y1 == some .eq) = e1) (h3 : (FloatKind.f64.format.order x2 y2 == some .lt) = b2) (h4 : (FloatKind.f64.format.order x2 y2 == some .eq) = e2) (h5 : b1 = true → e1 = false) (w : World) :
    Calls Tryd.prog 17 #[.agg #[.float .f64 x1, .float .f64 x2], .string ⟨#[45, 101, 113]⟩, .agg #[.float .f64 y1, .float .f64 y2]] w fun e w' => e = .returned (.bool (e1 && e2)) ∧ Below w.heap.size w w' := by
  cases b1
  · clear h5
    cases e1
    · go_enter Tryd.func17, Tryd.ntmps17
      go_wp2_with fail
      go_ret
      exact ⟨rfl, ((Below.refl _ _).alloc (Nat.le_refl _) _).alloc (by simp) _⟩
    · cases b2 <;> cases e2 <;>
      · go_enter Tryd.func17, Tryd.ntmps17
        go_wp2_with fail
        go_ret
        exact ⟨rfl, ((Below.refl _ _).alloc (Nat.le_refl _) _).alloc (by simp) _⟩
  · have h6 := h5 rfl
    subst h6
    clear h5
    go_enter Tryd.func17, Tryd.ntmps17
    go_wp2_with fail
    go_ret
    exact ⟨rfl, ((Below.refl _ _).alloc (Nat.le_refl _) _).alloc (by simp) _⟩

set_option maxRecDepth 100000 in
set_option maxHeartbeats 2000000 in
theorem holds_ne (x1 x2 y1 y2 : Nat) (b1 e1 b2 e2 : Bool) (h1 : (FloatKind.f64.format.order x1 y1 == some .lt) = b1) (h2 : (FloatKind.f64.format.order x1 y1 == some .eq) = e1) (h3 : (FloatKind.f64.format.order x2 y2 == some .lt) = b2) (h4 : (FloatKind.f64.format.order x2 y2 == some .eq) = e2) (h5 : b1 = true → e1 = false) (w : World) :
    Calls Tryd.prog 17 #[.agg #[.float .f64 x1, .float .f64 x2], .string ⟨#[45, 110, 101]⟩, .agg #[.float .f64 y1, .float .f64 y2]] w fun e w' => e = .returned (.bool (!(e1 && e2))) ∧ Below w.heap.size w w' := by
  cases b1
  · clear h5
    cases e1
    · go_enter Tryd.func17, Tryd.ntmps17
      go_wp2_with fail
      go_ret
      exact ⟨rfl, ((Below.refl _ _).alloc (Nat.le_refl _) _).alloc (by simp) _⟩
    · cases b2 <;> cases e2 <;>
      · go_enter Tryd.func17, Tryd.ntmps17
        go_wp2_with fail
        go_ret
        exact ⟨rfl, ((Below.refl _ _).alloc (Nat.le_refl _) _).alloc (by simp) _⟩
  · have h6 := h5 rfl
    subst h6
    clear h5
    go_enter Tryd.func17, Tryd.ntmps17
    go_wp2_with fail
    go_ret
    exact ⟨rfl, ((Below.refl _ _).alloc (Nat.le_refl _) _).alloc (by simp) _⟩

set_option maxRecDepth 100000 in
set_option maxHeartbeats 2000000 in
theorem holds_lt (x1 x2 y1 y2 : Nat) (b1 e1 b2 e2 : Bool) (h1 : (FloatKind.f64.format.order x1 y1 == some .lt) = b1) (h2 : (FloatKind.f64.format.order x1 y1 == some .eq) = e1) (h3 : (FloatKind.f64.format.order x2 y2 == some .lt) = b2) (h4 : (FloatKind.f64.format.order x2 y2 == some .eq) = e2) (h5 : b1 = true → e1 = false) (w : World) :
    Calls Tryd.prog 17 #[.agg #[.float .f64 x1, .float .f64 x2], .string ⟨#[45, 108, 116]⟩, .agg #[.float .f64 y1, .float .f64 y2]] w fun e w' => e = .returned (.bool (b1 || (e1 && b2))) ∧ Below w.heap.size w w' := by
  cases b1
  · clear h5
    cases e1
    · go_enter Tryd.func17, Tryd.ntmps17
      go_wp2_with fail
      go_ret
      exact ⟨rfl, ((Below.refl _ _).alloc (Nat.le_refl _) _).alloc (by simp) _⟩
    · cases b2 <;> cases e2 <;>
      · go_enter Tryd.func17, Tryd.ntmps17
        go_wp2_with fail
        go_ret
        exact ⟨rfl, ((Below.refl _ _).alloc (Nat.le_refl _) _).alloc (by simp) _⟩
  · have h6 := h5 rfl
    subst h6
    clear h5
    go_enter Tryd.func17, Tryd.ntmps17
    go_wp2_with fail
    go_ret
    exact ⟨rfl, ((Below.refl _ _).alloc (Nat.le_refl _) _).alloc (by simp) _⟩

set_option maxRecDepth 100000 in
set_option maxHeartbeats 2000000 in
theorem holds_le (x1 x2 y1 y2 : Nat) (b1 e1 b2 e2 : Bool) (h1 : (FloatKind.f64.format.order x1 y1 == some .lt) = b1) (h2 : (FloatKind.f64.format.order x1 y1 == some .eq) = e1) (h3 : (FloatKind.f64.format.order x2 y2 == some .lt) = b2) (h4 : (FloatKind.f64.format.order x2 y2 == some .eq) = e2) (h5 : b1 = true → e1 = false) (w : World) :
    Calls Tryd.prog 17 #[.agg #[.float .f64 x1, .float .f64 x2], .string ⟨#[45, 108, 101]⟩, .agg #[.float .f64 y1, .float .f64 y2]] w fun e w' => e = .returned (.bool ((b1 || (e1 && b2)) || (e1 && e2))) ∧ Below w.heap.size w w' := by
  cases b1
  · clear h5
    cases e1
    · go_enter Tryd.func17, Tryd.ntmps17
      go_wp2_with fail
      go_ret
      exact ⟨rfl, ((Below.refl _ _).alloc (Nat.le_refl _) _).alloc (by simp) _⟩
    · cases b2 <;> cases e2 <;>
      · go_enter Tryd.func17, Tryd.ntmps17
        go_wp2_with fail
        go_ret
        exact ⟨rfl, ((Below.refl _ _).alloc (Nat.le_refl _) _).alloc (by simp) _⟩
  · have h6 := h5 rfl
    subst h6
    clear h5
    go_enter Tryd.func17, Tryd.ntmps17
    go_wp2_with fail
    go_ret
    exact ⟨rfl, ((Below.refl _ _).alloc (Nat.le_refl _) _).alloc (by simp) _⟩

set_option maxRecDepth 100000 in
set_option maxHeartbeats 2000000 in
theorem holds_gt (x1 x2 y1 y2 : Nat) (b1 e1 b2 e2 : Bool) (h1 : (FloatKind.f64.format.order x1 y1 == some .lt) = b1) (h2 : (FloatKind.f64.format.order x1 y1 == some .eq) = e1) (h3 : (FloatKind.f64.format.order x2 y2 == some .lt) = b2) (h4 : (FloatKind.f64.format.order x2 y2 == some .eq) = e2) (h5 : b1 = true → e1 = false) (w : World) :
    Calls Tryd.prog 17 #[.agg #[.float .f64 x1, .float .f64 x2], .string ⟨#[45, 103, 116]⟩, .agg #[.float .f64 y1, .float .f64 y2]] w fun e w' => e = .returned (.bool (!(b1 || (e1 && b2)) && !(e1 && e2))) ∧ Below w.heap.size w w' := by
  cases b1
  · clear h5
    cases e1
    · go_enter Tryd.func17, Tryd.ntmps17
      go_wp2_with fail
      go_ret
      exact ⟨rfl, ((Below.refl _ _).alloc (Nat.le_refl _) _).alloc (by simp) _⟩
    · cases b2 <;> cases e2 <;>
      · go_enter Tryd.func17, Tryd.ntmps17
        go_wp2_with fail
        go_ret
        exact ⟨rfl, ((Below.refl _ _).alloc (Nat.le_refl _) _).alloc (by simp) _⟩
  · have h6 := h5 rfl
    subst h6
    clear h5
    go_enter Tryd.func17, Tryd.ntmps17
    go_wp2_with fail
    go_ret
    exact ⟨rfl, ((Below.refl _ _).alloc (Nat.le_refl _) _).alloc (by simp) _⟩

set_option maxRecDepth 100000 in
set_option maxHeartbeats 2000000 in
theorem holds_ge (x1 x2 y1 y2 : Nat) (b1 e1 b2 e2 : Bool) (h1 : (FloatKind.f64.format.order x1 y1 == some .lt) = b1) (h2 : (FloatKind.f64.format.order x1 y1 == some .eq) = e1) (h3 : (FloatKind.f64.format.order x2 y2 == some .lt) = b2) (h4 : (FloatKind.f64.format.order x2 y2 == some .eq) = e2) (h5 : b1 = true → e1 = false) (w : World) :
    Calls Tryd.prog 17 #[.agg #[.float .f64 x1, .float .f64 x2], .string ⟨#[45, 103, 101]⟩, .agg #[.float .f64 y1, .float .f64 y2]] w fun e w' => e = .returned (.bool (!(b1 || (e1 && b2)))) ∧ Below w.heap.size w w' := by
  cases b1
  · clear h5
    cases e1
    · go_enter Tryd.func17, Tryd.ntmps17
      go_wp2_with fail
      go_ret
      exact ⟨rfl, ((Below.refl _ _).alloc (Nat.le_refl _) _).alloc (by simp) _⟩
    · cases b2 <;> cases e2 <;>
      · go_enter Tryd.func17, Tryd.ntmps17
        go_wp2_with fail
        go_ret
        exact ⟨rfl, ((Below.refl _ _).alloc (Nat.le_refl _) _).alloc (by simp) _⟩
  · have h6 := h5 rfl
    subst h6
    clear h5
    go_enter Tryd.func17, Tryd.ntmps17
    go_wp2_with fail
    go_ret
    exact ⟨rfl, ((Below.refl _ _).alloc (Nat.le_refl _) _).alloc (by simp) _⟩

end Go.Proofs.YtgmoggpnfabjfaaDoor