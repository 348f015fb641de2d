import Derived.Test.YtjagnihkpgbjeaaDoorVM
namespace Go.Proofs.YtjagnihkpgbjeaaDoor
open Go.RowKit Go.Maps Go.ChangeMaps
set_option linter.unusedVariables false
/-- What present says: the place of a node, or why there is none. -/
def presE (T : Tr) (p : ByteArray) : Int := if findE T p ≠ 0 then findE T p else if (T (findL p)).isSome then 0 else 6
def presD (A : Pth → Nat) (L : Pth) : Value := match L.reverse with
  | [] => .pointer none
  | _ :: r => .pointer (some ⟨A r.reverse, 0, none⟩)
section
variable {f : Nat} {p : ByteArray} {w : World} {B N : Nat} {tl : List Value} {T : Tr} {A : Pth → Nat} {M : Pth → Option Nat} {V : Pth → Value} {r0 : Nd}
theorem spot_box {w w1 : World} {v0 v1 v2 v3 u0 u1 u2 u3 : Value} (h1 : Below (w.alloc (.cells #[v0, v1, v2, v3] 74)).heap.size (w.alloc (.cells #[v0, v1, v2, v3] 74)) w1) : Below w.heap.size w (w1.alloc (.cells #[u0, u1, u2, u3] 74)) ∧ w1.heap[w.heap.size]? = some (.cells [v0, v1, v2, v3].toArray 74 (0, 0)) ∧ w.heap.size < w1.heap.size := by
  have s1 := h1.size
  have hz : (w.alloc (.cells #[v0, v1, v2, v3] 74)).heap.size = w.heap.size + 1 := by simp
  rw [hz] at s1
  refine ⟨(((Below.refl _ w).alloc (Nat.le_refl _) _).trans (h1.mono (by omega))).alloc (by omega) _, ?_, by omega⟩
  rw [h1.block _ (by omega)]
  exact heap_alloc_new w _
theorem alloc_tree (hT : TreeAt w B N f 71 tl T A M V) (o : Obj) : TreeAt (w.alloc o) B N f 71 tl T A M V := hT.only (X := fun _ => False) (Only.of_below ((Below.refl _ _).alloc (Nat.le_refl _) o)) (fun _ h => h.elim)
def box0 : Obj := .cells #[.pointer none, .string ⟨#[]⟩, .pointer none, .slice none 0 0] 74
theorem pres_box {w w1 : World} (h1 : Below (w.alloc box0).heap.size (w.alloc box0) w1) : Below w.heap.size w w1 ∧ w1.heap[w.heap.size]? = some (.cells [.pointer none, .string ⟨#[]⟩, .pointer none, .slice none 0 0].toArray 74 (0, 0)) ∧ w.heap.size < w1.heap.size := by
  have s1 := h1.size
  have hz : (w.alloc box0).heap.size = w.heap.size + 1 := by simp
  rw [hz] at s1
  refine ⟨((Below.refl _ w).alloc (Nat.le_refl _) _).trans (h1.mono (by omega)), ?_, by omega⟩
  rw [h1.block _ (by omega)]
  exact heap_alloc_new w _
theorem fin4 {w1 : World} {a : Nat} {v0 v1 v2 v3 : Value} (hb : w1.heap[a]? = some (.cells [v0, v1, v2, v3].toArray 74 (0, 0))) (u0 u1 u2 u3 : Value) (o : Obj) :
    (((((w1.setCell ⟨a, 0, none⟩ u0).setCell ⟨a, 1, none⟩ u1).setCell ⟨a, 2, none⟩ u2).setCell ⟨a, 3, none⟩ u3).alloc o).cell? ⟨a, 0, none⟩ = some u0 ∧
    (((((w1.setCell ⟨a, 0, none⟩ u0).setCell ⟨a, 1, none⟩ u1).setCell ⟨a, 2, none⟩ u2).setCell ⟨a, 3, none⟩ u3).alloc o).cell? ⟨a, 1, none⟩ = some u1 ∧
    (((((w1.setCell ⟨a, 0, none⟩ u0).setCell ⟨a, 1, none⟩ u1).setCell ⟨a, 2, none⟩ u2).setCell ⟨a, 3, none⟩ u3).alloc o).cell? ⟨a, 2, none⟩ = some u2 ∧
    (((((w1.setCell ⟨a, 0, none⟩ u0).setCell ⟨a, 1, none⟩ u1).setCell ⟨a, 2, none⟩ u2).setCell ⟨a, 3, none⟩ u3).alloc o).cell? ⟨a, 3, none⟩ = some u3 := by
  have hb4 := set_of (set_of (set_of (set_of hb 0 u0) 1 u1) 2 u2) 3 u3
  have hlt := blk_lt hb4
  have h5 := ((MapKept.heap_alloc ((((w1.setCell ⟨a, 0, none⟩ u0).setCell ⟨a, 1, none⟩ u1).setCell ⟨a, 2, none⟩ u2).setCell ⟨a, 3, none⟩ u3) o).2 a hlt).trans hb4
  exact ⟨cell_of h5 0, cell_of h5 1, cell_of h5 2, cell_of h5 3⟩
set_option maxRecDepth 100000 in
set_option maxHeartbeats 4000000 in
theorem present_bad1 (hT : TreeAt w B N f 71 tl T A M V) (h0 : T [] = some r0) (hr0 : r0.file = false) (hp : PathOk p) (hE : findE T p ≠ 0) :
    Calls Tryd.prog 42 #[.pointer (some ⟨f, 0, none⟩), .string p] w fun e w' => e = .returned (.tuple #[spot0, .int .i64 (findE T p)]) ∧ Below w.heap.size w w' := by
  have HB := Lib.hid (find_bad (alloc_tree hT box0) h0 hr0 hp hE)
  obtain ⟨er, her⟩ : ∃ er, findE T p = er := ⟨_, rfl⟩
  rw [her] at HB hE ⊢
  have hne : (er == 0) = false := by simpa using hE
  clear hT h0 hr0 hp hE her
  simp only [box0] at HB
  go_enter Tryd.func42, Tryd.ntmps42
  go_wp2_with (go_at_call 38; refine HB.out.mono ?_; rintro e w1 ⟨rfl, h1⟩; have H1 := Lib.hid (pres_box h1); obtain ⟨q0, q1, q2, q3, u0, u1, u2, u3⟩ := box_facts H1.out.2.1; have hlw := H1.out.2.2; have hnw := Nat.ne_of_lt hlw; clear h1; simp only [spot0, spotV])
  refine bodyPost_ret (v := .tuple #[spot0, .int .i64 er]) ?_ rfl ?_
  · have k0 := fun u0 u1 u2 u3 o => (fin4 H1.out.2.1 u0 u1 u2 u3 o).1
    have k1 := fun u0 u1 u2 u3 o => (fin4 H1.out.2.1 u0 u1 u2 u3 o).2.1
    have k2 := fun u0 u1 u2 u3 o => (fin4 H1.out.2.1 u0 u1 u2 u3 o).2.2.1
    have k3 := fun u0 u1 u2 u3 o => (fin4 H1.out.2.1 u0 u1 u2 u3 o).2.2.2
    simp [results, Tryd.results42, go_sem, k0, k1, k2, k3]
    try rfl
  · exact ⟨rfl, (below4 H1.out.1 _ _ _ _).alloc (by simp; omega) _⟩
set_option maxRecDepth 100000 in
set_option maxHeartbeats 4000000 in
theorem present_root (hT : TreeAt w B N f 71 tl T A M V) (h0 : T [] = some r0) (hr0 : r0.file = false) (hp : PathOk p) (hE : findE T p = 0) (hL : findL p = []) :
    Calls Tryd.prog 42 #[.pointer (some ⟨f, 0, none⟩), .string p] w fun e w' => e = .returned (.tuple #[spotV (.pointer none) ⟨#[]⟩ (.pointer (some ⟨f, 0, none⟩)) (.slice none 0 0), .int .i64 0]) ∧ Below w.heap.size w w' := by
  have HB := Lib.hid (find_root (alloc_tree hT box0) h0 hr0 hp hE hL)
  clear hT h0 hr0 hp hE
  simp only [box0] at HB
  go_enter Tryd.func42, Tryd.ntmps42
  go_wp2_with (go_at_call 38; refine HB.out.mono ?_; rintro e w1 ⟨rfl, h1⟩; have H1 := Lib.hid (pres_box h1); obtain ⟨q0, q1, q2, q3, u0, u1, u2, u3⟩ := box_facts H1.out.2.1; have hlw := H1.out.2.2; have hnw := Nat.ne_of_lt hlw; clear h1; simp only [spot0, spotV, ptrV])
  refine bodyPost_ret (v := .tuple #[spotV (.pointer none) ⟨#[]⟩ (.pointer (some ⟨f, 0, none⟩)) (.slice none 0 0), .int .i64 0]) ?_ rfl ?_
  · have k0 := fun u0 u1 u2 u3 o => (fin4 H1.out.2.1 u0 u1 u2 u3 o).1
    have k1 := fun u0 u1 u2 u3 o => (fin4 H1.out.2.1 u0 u1 u2 u3 o).2.1
    have k2 := fun u0 u1 u2 u3 o => (fin4 H1.out.2.1 u0 u1 u2 u3 o).2.2.1
    have k3 := fun u0 u1 u2 u3 o => (fin4 H1.out.2.1 u0 u1 u2 u3 o).2.2.2
    simp [results, Tryd.results42, go_sem, k0, k1, k2, k3]
    try rfl
  · exact ⟨rfl, (below4 H1.out.1 _ _ _ _).alloc (by simp; omega) _⟩
set_option maxRecDepth 100000 in
set_option maxHeartbeats 4000000 in
theorem present_none (hT : TreeAt w B N f 71 tl T A M V) (h0 : T [] = some r0) (hr0 : r0.file = false) (hp : PathOk p) (hE : findE T p = 0) (hn : T (findL p) = none) :
    Calls Tryd.prog 42 #[.pointer (some ⟨f, 0, none⟩), .string p] w fun e w' => (∃ a b c d l, e = .returned (.tuple #[.agg #[.pointer a, .string b, .pointer none, .slice c l d], .int .i64 6])) ∧ Below w.heap.size w w' := by
  rcases List.eq_nil_or_concat (findL p) with hL2 | ⟨d, k, hL2⟩
  · rw [hL2, h0] at hn; cases hn
  have hL2 : findL p = d ++ [k] := by rw [hL2]; simp
  have HB := Lib.hid (find_good (alloc_tree hT box0) h0 hr0 hp hE hL2)
  rw [hL2] at hn
  have hk : kidsOf T A d k = none := by unfold kidsOf; rw [hn]; rfl
  rw [hk] at HB
  obtain ⟨lg, hlg⟩ : ∃ lg, (d ++ [k]).length = lg := ⟨_, rfl⟩
  rw [hlg] at HB
  clear hT h0 hr0 hp hE hn hk
  simp only [box0] at HB
  go_enter Tryd.func42, Tryd.ntmps42
  go_wp2_with (go_at_call 38; refine HB.out.mono ?_; rintro e w1 ⟨dn, g, cc, hdn, hdf, rfl, hrow, h1⟩; have H1 := Lib.hid (pres_box h1); obtain ⟨q0, q1, q2, q3, u0, u1, u2, u3⟩ := box_facts H1.out.2.1; have hlw := H1.out.2.2; have hnw := Nat.ne_of_lt hlw; have HDN := Lib.hid hdn; have HDF := Lib.hid hdf; clear h1 hrow hdn hdf; simp only [spotV, ptrV])
  refine bodyPost_ret (v := .tuple #[.agg #[.pointer (some ⟨A d, 0, none⟩), .string ⟨k.toArray⟩, .pointer none, .slice (some ⟨g, 0, none⟩) lg cc], .int .i64 6]) ?_ rfl ?_
  · have k0 := fun u0 u1 u2 u3 o => (fin4 H1.out.2.1 u0 u1 u2 u3 o).1
    have k1 := fun u0 u1 u2 u3 o => (fin4 H1.out.2.1 u0 u1 u2 u3 o).2.1
    have k2 := fun u0 u1 u2 u3 o => (fin4 H1.out.2.1 u0 u1 u2 u3 o).2.2.1
    have k3 := fun u0 u1 u2 u3 o => (fin4 H1.out.2.1 u0 u1 u2 u3 o).2.2.2
    simp [results, Tryd.results42, go_sem, k0, k1, k2, k3]
    try rfl
  · exact ⟨⟨_, _, _, _, _, rfl⟩, (below4 H1.out.1 _ _ _ _).alloc (by simp; omega) _⟩
set_option maxRecDepth 100000 in
set_option maxHeartbeats 4000000 in
theorem present_good {d : Pth} {k : Bz} {n : Nd} (hT : TreeAt w B N f 71 tl T A M V) (h0 : T [] = some r0) (hr0 : r0.file = false) (hp : PathOk p) (hE : findE T p = 0) (hL : findL p = d ++ [k]) (hn : T (d ++ [k]) = some n) :
    Calls Tryd.prog 42 #[.pointer (some ⟨f, 0, none⟩), .string p] w fun e w' => (∃ g c l, e = .returned (.tuple #[spotV (.pointer (some ⟨A d, 0, none⟩)) ⟨k.toArray⟩ (.pointer (some ⟨A (d ++ [k]), 0, none⟩)) (.slice g l c), .int .i64 0])) ∧ Below w.heap.size w w' := by
  have HB := Lib.hid (find_good (alloc_tree hT box0) h0 hr0 hp hE hL)
  have hk : kidsOf T A d k = some (A (d ++ [k])) := by unfold kidsOf; rw [hn]; rfl
  rw [hk] at HB
  obtain ⟨lg, hlg⟩ : ∃ lg, (d ++ [k]).length = lg := ⟨_, rfl⟩
  rw [hlg] at HB
  obtain ⟨na, hna⟩ : ∃ na, A (d ++ [k]) = na := ⟨_, rfl⟩
  rw [hna] at HB ⊢
  clear hT h0 hr0 hp hE hn hk hna
  simp only [box0] at HB
  go_enter Tryd.func42, Tryd.ntmps42
  go_wp2_with (go_at_call 38; refine HB.out.mono ?_; rintro e w1 ⟨dn, g, cc, hdn, hdf, rfl, hrow, h1⟩; have H1 := Lib.hid (pres_box h1); obtain ⟨q0, q1, q2, q3, u0, u1, u2, u3⟩ := box_facts H1.out.2.1; have hlw := H1.out.2.2; have hnw := Nat.ne_of_lt hlw; have HDN := Lib.hid hdn; have HDF := Lib.hid hdf; clear h1 hrow hdn hdf; simp only [spotV, ptrV])
  refine bodyPost_ret (v := .tuple #[.agg #[.pointer (some ⟨A d, 0, none⟩), .string ⟨k.toArray⟩, .pointer (some ⟨na, 0, none⟩), .slice (some ⟨g, 0, none⟩) lg cc], .int .i64 0]) ?_ rfl ?_
  · have k0 := fun u0 u1 u2 u3 o => (fin4 H1.out.2.1 u0 u1 u2 u3 o).1
    have k1 := fun u0 u1 u2 u3 o => (fin4 H1.out.2.1 u0 u1 u2 u3 o).2.1
    have k2 := fun u0 u1 u2 u3 o => (fin4 H1.out.2.1 u0 u1 u2 u3 o).2.2.1
    have k3 := fun u0 u1 u2 u3 o => (fin4 H1.out.2.1 u0 u1 u2 u3 o).2.2.2
    simp [results, Tryd.results42, go_sem, k0, k1, k2, k3]
    try rfl
  · exact ⟨⟨_, _, _, rfl⟩, (below4 H1.out.1 _ _ _ _).alloc (by simp; omega) _⟩
end
end Go.Proofs.YtjagnihkpgbjeaaDoor
