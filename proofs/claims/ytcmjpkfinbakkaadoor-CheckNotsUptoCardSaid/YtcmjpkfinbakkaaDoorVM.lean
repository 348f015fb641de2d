import Derived.Test.YtcmjpkfinbakkaaDoorVL
import Derived.Shelf.SlIter.Nil
import Derived.Shelf.SortM.Plain
import Derived.Shelf.SortM.SortNone
import Derived.Test.YtcmjpkfinbakkaaDoorXR
import Derived.Test.YtcmjpkfinbakkaaDoorA
import Derived.Lib.SlicesCompact
import Derived.Sort.OwnSorted
import Derived.Sort.KeysCollected
namespace Go.Proofs.YtcmjpkfinbakkaaDoor
open Go.RowKit Go.Maps Go.ChangeMaps
set_option linter.unusedVariables false
theorem Fs.below {w w' : World} {B N f : Nat} {c : Cn} {T : Tr} {F : Nat → Prop} (h : Fs w B N f c T F) (hb : Below w.heap.size w w') : Fs w' B N f c T F := by
  obtain ⟨A, M, V, h1, h2, h3⟩ := h
  exact ⟨A, M, V, h1.only (X := fun _ => False) (Only.of_below hb) (fun _ h => h.elim), h2, h3⟩
theorem MutP.after {w w1 w' : World} {B N f : Nat} {F : Nat → Prop} {er : Int} {T : Tr} {c : Cn} {e : Ending} (hb : Below w.heap.size w w1) (h : MutP w1 B N f F er T c e w') : MutP w B N f F er T c e w' := by
  obtain ⟨h1, ⟨A, M, V, h2, h3, h4⟩, h5⟩ := h
  exact ⟨h1, ⟨A, M, V, h2, fun j hj => (h3 j hj).imp id (fun h => Nat.le_trans hb.size h), h4⟩, (Only.of_below (S := F) hb).trans h5 (fun _ h => h) (fun _ _ h => h)⟩
section
variable {w : World} {B N f : Nat} {c : Cn} {T : Tr} {F : Nat → Prop} {p : ByteArray}
set_option maxRecDepth 100000 in
set_option maxHeartbeats 4000000 in
theorem Touch_bad (hF : Fs w B N f c T F) (hp : PathOk p) (hE : findE T p ≠ 0) : Calls Tryd.prog 14 #[.pointer (some ⟨f, 0, none⟩), .string p] w (MutP w B N f F (findE T p) T c) := by
  obtain ⟨A, M, V, hT, hft, r0, h0, hr0⟩ := hF
  have HF : Hid (Fs w B N f c T F) := ⟨A, M, V, hT, hft, r0, h0, hr0⟩
  have HB := Lib.hid (find_bad (w := w) hT h0 hr0 hp hE)
  obtain ⟨er, her⟩ : ∃ er, findE T p = er := ⟨_, rfl⟩
  rw [her] at HB hE ⊢
  obtain ⟨Q, hQ⟩ : ∃ Q, MutP w B N f F er T c = Q := ⟨_, rfl⟩
  rw [hQ]
  have HQ := Lib.hid hQ
  have hne : (er != 0) = true := by simpa using hE
  clear hT hft h0 hr0 hQ hp hE her
  go_enter Tryd.func14, Tryd.ntmps14
  go_wp2_with (go_at_call 20; refine HB.out.mono ?_; rintro e w1 ⟨rfl, h1⟩; have H1 := Lib.hid h1; clear h1; simp only [spot0, spotV])
  rw [← HQ.out]
  exact MutP.same HF.out (H1.out.alloc H1.out.size _)
set_option maxRecDepth 100000 in
set_option maxHeartbeats 4000000 in
theorem Touch_root (hF : Fs w B N f c T F) (hp : PathOk p) (hE : findE T p = 0) (hL : findL p = []) : Calls Tryd.prog 14 #[.pointer (some ⟨f, 0, none⟩), .string p] w (MutP w B N f F 0 T c) := by
  obtain ⟨A, M, V, hT, hft, r0, h0, hr0⟩ := hF
  have HF : Hid (Fs w B N f c T F) := ⟨A, M, V, hT, hft, r0, h0, hr0⟩
  have HB := Lib.hid (find_root (w := w) hT h0 hr0 hp hE hL)
  obtain ⟨Q, hQ⟩ : ∃ Q, MutP w B N f F 0 T c = Q := ⟨_, rfl⟩
  rw [hQ]
  have HQ := Lib.hid hQ
  clear hT hft h0 hr0 hQ hp hE
  go_enter Tryd.func14, Tryd.ntmps14
  go_wp2_with (go_at_call 20; refine HB.out.mono ?_; rintro e w1 ⟨rfl, h1⟩; have H1 := Lib.hid h1; clear h1; simp only [spot0, spotV])
  rw [← HQ.out]
  exact MutP.same HF.out (H1.out.alloc H1.out.size _)
set_option maxRecDepth 100000 in
set_option maxHeartbeats 4000000 in
theorem Touch_old {n : Nd} (hF : Fs w B N f c T F) (hp : PathOk p) (hc : c.Ok) (hE : findE T p = 0) (hL : findL p ≠ []) (hn : T (findL p) = some n) :
    Calls Tryd.prog 14 #[.pointer (some ⟨f, 0, none⟩), .string p] w (MutP w B N f F 0 (setF T (findL p) (some { n with time := c.clock + 1 })) { c with clock := c.clock + 1 }) := by
  obtain ⟨A, M, V, hT, hft, r0, h0, hr0⟩ := hF
  obtain ⟨Q, hQ⟩ : ∃ Q, MutP w B N f F 0 (setF T (findL p) (some { n with time := c.clock + 1 })) { c with clock := c.clock + 1 } = Q := ⟨_, rfl⟩
  rw [hQ]
  have HT := Lib.hid hT
  have H0 := Lib.hid h0
  have HFT := Lib.hid hft
  rcases List.eq_nil_or_concat (findL p) with hL2 | ⟨d, k, hL2⟩
  · exact absurd hL2 hL
  have hL2 : findL p = d ++ [k] := by rw [hL2]; simp
  rw [hL2] at hQ hn
  have HQ := Lib.hid hQ
  have HN := Lib.hid hn
  have HB := Lib.hid (find_good (w := w) hT h0 hr0 hp hE hL2)
  obtain ⟨lg, hlg⟩ : ∃ lg, (d ++ [k]).length = lg := ⟨_, rfl⟩
  rw [hlg] at HB
  have hk : kidsOf T A d k = some (A (d ++ [k])) := by unfold kidsOf; rw [hn]; rfl
  rw [hk] at HB
  have HST := Lib.hid (fun (w : World) (hT : TreeAt w B N f 47 c.tl T A M V) => stamp_any hT h0 hn (by simp) hc.clock)
  obtain ⟨na, hna⟩ : ∃ na, A (d ++ [k]) = na := ⟨_, rfl⟩
  rw [hna] at HB HST
  have HNA := Lib.hid hna
  clear hT hft h0 hQ hp hE hL hL2 hn hk hna hc
  go_enter Tryd.func14, Tryd.ntmps14
  go_wp2_with (first
    | (go_at_call 20; refine HB.out.mono ?_; rintro e w1 ⟨dn, g, cc, hdn, hdf, rfl, hrow, h1⟩; have H1 := Lib.hid h1; clear h1 hrow hdn hdf; simp only [spotV, ptrV])
    | (go_at_call 23; refine (HST.out _ (HT.out.only (X := fun _ => False) (Only.of_below (H1.out.alloc H1.out.size _)) (fun _ h => h.elim))).mono ?_; rintro e w2 ⟨rfl, z1, z2⟩; have Z1 := Lib.hid z1; have Z2 := Lib.hid z2; clear z1 z2; simp only []))
  rw [← HQ.out]
  refine ⟨rfl, ⟨A, M, V, Z1.out.mono (Nat.le_succ N), fun j hj => .inl (HFT.out j (foot_setT (by rw [HN.out]; rfl) hj)), r0, ?_, hr0⟩, ?_⟩
  · rw [setF_other _ _ (by simp)]; exact H0.out
  · refine (Only.of_below (S := F) (H1.out.alloc H1.out.size _)).trans Z2.out (fun _ h => h) (fun j _ e => ?_)
    rcases e with e | e
    · rw [e]; exact HFT.out f ⟨[], r0, H0.out, .inl HT.out.a0⟩
    · rw [e]; exact HFT.out na ⟨d ++ [k], n, HN.out, .inl HNA.out⟩
set_option maxRecDepth 100000 in
set_option maxHeartbeats 4000000 in
theorem Touch_new (hF : Fs w B N f c T F) (hp : PathOk p) (hc : c.Ok) (hN : N < maxLen) (hB : B ≤ w.heap.size) (hE : findE T p = 0) (hn : T (findL p) = none) (hfull : ¬ c.nodes ≤ c.count) (hroom : c.size ≤ c.bytes) :
    Calls Tryd.prog 14 #[.pointer (some ⟨f, 0, none⟩), .string p] w (MutP w B N f F 0 (setF T (findL p) (some ⟨true, [], c.clock + 1⟩)) { c with count := c.count + 1, size := c.size + 0, clock := c.clock + 1 }) := by
  have HF := Lib.hid hF
  have HW := Lib.hid (fun (w' : World) (hw : B ≤ w'.heap.size) (hF : Fs w' B N f c T F) => Write_new w' p true hF hp hc hN hw hE hn [] none 0 ⟨none, 0, rfl, fun i h => absurd h (by simp)⟩ (fun a h => by cases h) (by simp) hfull (by simp; omega))
  simp only [List.length_nil] at HW
  obtain ⟨A, M, V, hT, hft, r0, h0, hr0⟩ := hF
  obtain ⟨Q, hQ⟩ : ∃ Q, MutP w B N f F 0 (setF T (findL p) (some ⟨true, [], c.clock + 1⟩)) { c with count := c.count + 1, size := c.size + 0, clock := c.clock + 1 } = Q := ⟨_, rfl⟩
  rw [hQ]
  have HQ := Lib.hid hQ
  rcases List.eq_nil_or_concat (findL p) with hL2 | ⟨d, k, hL2⟩
  · rw [hL2, h0] at hn; cases hn
  have hL2 : findL p = d ++ [k] := by rw [hL2]; simp
  have HB := Lib.hid (find_good (w := w) hT h0 hr0 hp hE hL2)
  obtain ⟨lg, hlg⟩ : ∃ lg, (d ++ [k]).length = lg := ⟨_, rfl⟩
  rw [hlg] at HB
  rw [hL2] at hn
  have hk : kidsOf T A d k = none := by unfold kidsOf; rw [hn]; rfl
  rw [hk] at HB
  clear hT hft h0 hQ hp hE hL2 hn hk hc
  go_enter Tryd.func14, Tryd.ntmps14
  go_wp2_with (first
    | (go_at_call 20; refine HB.out.mono ?_; rintro e w1 ⟨dn, g, cc, hdn, hdf, rfl, hrow, h1⟩; have H1 := Lib.hid h1; clear h1 hrow hdn hdf; simp only [spotV, ptrV])
    | (go_at_call 8; refine (HW.out _ (Nat.le_trans hB (H1.out.alloc H1.out.size _).size) (HF.out.below (H1.out.alloc H1.out.size _))).mono ?_; rintro e w2 hm; obtain ⟨rfl, _⟩ := id hm; have HM := Lib.hid hm; clear hm; simp only []))
  rw [← HQ.out]
  exact MutP.after (H1.out.alloc H1.out.size _) HM.out
end
end Go.Proofs.YtcmjpkfinbakkaaDoor

namespace Go.Proofs.YtcmjpkfinbakkaaDoor
open Go.RowKit Go.Maps Go.ChangeMaps
set_option linter.unusedVariables false
/-- What present says: the place of a node, or why there is none. -/
def presE (T : Tr) (p : ByteArray) : Int := if findE T p ≠ 0 then findE T p else if (T (findL p)).isSome then 0 else 6
def presD (A : Pth → Nat) (L : Pth) : Value := match L.reverse with
  | [] => .pointer none
  | _ :: r => .pointer (some ⟨A r.reverse, 0, none⟩)
section
variable {f : Nat} {p : ByteArray} {w : World} {B N : Nat} {tl : List Value} {T : Tr} {A : Pth → Nat} {M : Pth → Option Nat} {V : Pth → Value} {r0 : Nd}
theorem spot_box {w w1 : World} {v0 v1 v2 v3 u0 u1 u2 u3 : Value} (h1 : Below (w.alloc (.cells #[v0, v1, v2, v3] 50)).heap.size (w.alloc (.cells #[v0, v1, v2, v3] 50)) w1) : Below w.heap.size w (w1.alloc (.cells #[u0, u1, u2, u3] 50)) ∧ w1.heap[w.heap.size]? = some (.cells [v0, v1, v2, v3].toArray 50 (0, 0)) ∧ w.heap.size < w1.heap.size := by
  have s1 := h1.size
  have hz : (w.alloc (.cells #[v0, v1, v2, v3] 50)).heap.size = w.heap.size + 1 := by simp
  rw [hz] at s1
  refine ⟨(((Below.refl _ w).alloc (Nat.le_refl _) _).trans (h1.mono (by omega))).alloc (by omega) _, ?_, by omega⟩
  rw [h1.block _ (by omega)]
  exact heap_alloc_new w _
theorem alloc_tree (hT : TreeAt w B N f 47 tl T A M V) (o : Obj) : TreeAt (w.alloc o) B N f 47 tl T A M V := hT.only (X := fun _ => False) (Only.of_below ((Below.refl _ _).alloc (Nat.le_refl _) o)) (fun _ h => h.elim)
def box0 : Obj := .cells #[.pointer none, .string ⟨#[]⟩, .pointer none, .slice none 0 0] 50
theorem pres_box {w w1 : World} (h1 : Below (w.alloc box0).heap.size (w.alloc box0) w1) : Below w.heap.size w w1 ∧ w1.heap[w.heap.size]? = some (.cells [.pointer none, .string ⟨#[]⟩, .pointer none, .slice none 0 0].toArray 50 (0, 0)) ∧ w.heap.size < w1.heap.size := by
  have s1 := h1.size
  have hz : (w.alloc box0).heap.size = w.heap.size + 1 := by simp
  rw [hz] at s1
  refine ⟨((Below.refl _ w).alloc (Nat.le_refl _) _).trans (h1.mono (by omega)), ?_, by omega⟩
  rw [h1.block _ (by omega)]
  exact heap_alloc_new w _
theorem fin4 {w1 : World} {a : Nat} {v0 v1 v2 v3 : Value} (hb : w1.heap[a]? = some (.cells [v0, v1, v2, v3].toArray 50 (0, 0))) (u0 u1 u2 u3 : Value) (o : Obj) :
    (((((w1.setCell ⟨a, 0, none⟩ u0).setCell ⟨a, 1, none⟩ u1).setCell ⟨a, 2, none⟩ u2).setCell ⟨a, 3, none⟩ u3).alloc o).cell? ⟨a, 0, none⟩ = some u0 ∧
    (((((w1.setCell ⟨a, 0, none⟩ u0).setCell ⟨a, 1, none⟩ u1).setCell ⟨a, 2, none⟩ u2).setCell ⟨a, 3, none⟩ u3).alloc o).cell? ⟨a, 1, none⟩ = some u1 ∧
    (((((w1.setCell ⟨a, 0, none⟩ u0).setCell ⟨a, 1, none⟩ u1).setCell ⟨a, 2, none⟩ u2).setCell ⟨a, 3, none⟩ u3).alloc o).cell? ⟨a, 2, none⟩ = some u2 ∧
    (((((w1.setCell ⟨a, 0, none⟩ u0).setCell ⟨a, 1, none⟩ u1).setCell ⟨a, 2, none⟩ u2).setCell ⟨a, 3, none⟩ u3).alloc o).cell? ⟨a, 3, none⟩ = some u3 := by
  have hb4 := set_of (set_of (set_of (set_of hb 0 u0) 1 u1) 2 u2) 3 u3
  have hlt := blk_lt hb4
  have h5 := ((MapKept.heap_alloc ((((w1.setCell ⟨a, 0, none⟩ u0).setCell ⟨a, 1, none⟩ u1).setCell ⟨a, 2, none⟩ u2).setCell ⟨a, 3, none⟩ u3) o).2 a hlt).trans hb4
  exact ⟨cell_of h5 0, cell_of h5 1, cell_of h5 2, cell_of h5 3⟩
set_option maxRecDepth 100000 in
set_option maxHeartbeats 4000000 in
theorem present_bad1 (hT : TreeAt w B N f 47 tl T A M V) (h0 : T [] = some r0) (hr0 : r0.file = false) (hp : PathOk p) (hE : findE T p ≠ 0) :
    Calls Tryd.prog 24 #[.pointer (some ⟨f, 0, none⟩), .string p] w fun e w' => e = .returned (.tuple #[spot0, .int .i64 (findE T p)]) ∧ Below w.heap.size w w' := by
  have HB := Lib.hid (find_bad (alloc_tree hT box0) h0 hr0 hp hE)
  obtain ⟨er, her⟩ : ∃ er, findE T p = er := ⟨_, rfl⟩
  rw [her] at HB hE ⊢
  have hne : (er == 0) = false := by simpa using hE
  clear hT h0 hr0 hp hE her
  simp only [box0] at HB
  go_enter Tryd.func24, Tryd.ntmps24
  go_wp2_with (go_at_call 20; refine HB.out.mono ?_; rintro e w1 ⟨rfl, h1⟩; have H1 := Lib.hid (pres_box h1); obtain ⟨q0, q1, q2, q3, u0, u1, u2, u3⟩ := box_facts H1.out.2.1; have hlw := H1.out.2.2; have hnw := Nat.ne_of_lt hlw; clear h1; simp only [spot0, spotV])
  refine bodyPost_ret (v := .tuple #[spot0, .int .i64 er]) ?_ rfl ?_
  · have k0 := fun u0 u1 u2 u3 o => (fin4 H1.out.2.1 u0 u1 u2 u3 o).1
    have k1 := fun u0 u1 u2 u3 o => (fin4 H1.out.2.1 u0 u1 u2 u3 o).2.1
    have k2 := fun u0 u1 u2 u3 o => (fin4 H1.out.2.1 u0 u1 u2 u3 o).2.2.1
    have k3 := fun u0 u1 u2 u3 o => (fin4 H1.out.2.1 u0 u1 u2 u3 o).2.2.2
    simp [results, Tryd.results42, go_sem, k0, k1, k2, k3]
    try rfl
  · exact ⟨rfl, (below4 H1.out.1 _ _ _ _).alloc (by simp; omega) _⟩
set_option maxRecDepth 100000 in
set_option maxHeartbeats 4000000 in
theorem present_root (hT : TreeAt w B N f 47 tl T A M V) (h0 : T [] = some r0) (hr0 : r0.file = false) (hp : PathOk p) (hE : findE T p = 0) (hL : findL p = []) :
    Calls Tryd.prog 24 #[.pointer (some ⟨f, 0, none⟩), .string p] w fun e w' => e = .returned (.tuple #[spotV (.pointer none) ⟨#[]⟩ (.pointer (some ⟨f, 0, none⟩)) (.slice none 0 0), .int .i64 0]) ∧ Below w.heap.size w w' := by
  have HB := Lib.hid (find_root (alloc_tree hT box0) h0 hr0 hp hE hL)
  clear hT h0 hr0 hp hE
  simp only [box0] at HB
  go_enter Tryd.func24, Tryd.ntmps24
  go_wp2_with (go_at_call 20; refine HB.out.mono ?_; rintro e w1 ⟨rfl, h1⟩; have H1 := Lib.hid (pres_box h1); obtain ⟨q0, q1, q2, q3, u0, u1, u2, u3⟩ := box_facts H1.out.2.1; have hlw := H1.out.2.2; have hnw := Nat.ne_of_lt hlw; clear h1; simp only [spot0, spotV, ptrV])
  refine bodyPost_ret (v := .tuple #[spotV (.pointer none) ⟨#[]⟩ (.pointer (some ⟨f, 0, none⟩)) (.slice none 0 0), .int .i64 0]) ?_ rfl ?_
  · have k0 := fun u0 u1 u2 u3 o => (fin4 H1.out.2.1 u0 u1 u2 u3 o).1
    have k1 := fun u0 u1 u2 u3 o => (fin4 H1.out.2.1 u0 u1 u2 u3 o).2.1
    have k2 := fun u0 u1 u2 u3 o => (fin4 H1.out.2.1 u0 u1 u2 u3 o).2.2.1
    have k3 := fun u0 u1 u2 u3 o => (fin4 H1.out.2.1 u0 u1 u2 u3 o).2.2.2
    simp [results, Tryd.results42, go_sem, k0, k1, k2, k3]
    try rfl
  · exact ⟨rfl, (below4 H1.out.1 _ _ _ _).alloc (by simp; omega) _⟩
set_option maxRecDepth 100000 in
set_option maxHeartbeats 4000000 in
theorem present_none (hT : TreeAt w B N f 47 tl T A M V) (h0 : T [] = some r0) (hr0 : r0.file = false) (hp : PathOk p) (hE : findE T p = 0) (hn : T (findL p) = none) :
    Calls Tryd.prog 24 #[.pointer (some ⟨f, 0, none⟩), .string p] w fun e w' => (∃ a b c d l, e = .returned (.tuple #[.agg #[.pointer a, .string b, .pointer none, .slice c l d], .int .i64 6])) ∧ Below w.heap.size w w' := by
  rcases List.eq_nil_or_concat (findL p) with hL2 | ⟨d, k, hL2⟩
  · rw [hL2, h0] at hn; cases hn
  have hL2 : findL p = d ++ [k] := by rw [hL2]; simp
  have HB := Lib.hid (find_good (alloc_tree hT box0) h0 hr0 hp hE hL2)
  rw [hL2] at hn
  have hk : kidsOf T A d k = none := by unfold kidsOf; rw [hn]; rfl
  rw [hk] at HB
  obtain ⟨lg, hlg⟩ : ∃ lg, (d ++ [k]).length = lg := ⟨_, rfl⟩
  rw [hlg] at HB
  clear hT h0 hr0 hp hE hn hk
  simp only [box0] at HB
  go_enter Tryd.func24, Tryd.ntmps24
  go_wp2_with (go_at_call 20; refine HB.out.mono ?_; rintro e w1 ⟨dn, g, cc, hdn, hdf, rfl, hrow, h1⟩; have H1 := Lib.hid (pres_box h1); obtain ⟨q0, q1, q2, q3, u0, u1, u2, u3⟩ := box_facts H1.out.2.1; have hlw := H1.out.2.2; have hnw := Nat.ne_of_lt hlw; have HDN := Lib.hid hdn; have HDF := Lib.hid hdf; clear h1 hrow hdn hdf; simp only [spotV, ptrV])
  refine bodyPost_ret (v := .tuple #[.agg #[.pointer (some ⟨A d, 0, none⟩), .string ⟨k.toArray⟩, .pointer none, .slice (some ⟨g, 0, none⟩) lg cc], .int .i64 6]) ?_ rfl ?_
  · have k0 := fun u0 u1 u2 u3 o => (fin4 H1.out.2.1 u0 u1 u2 u3 o).1
    have k1 := fun u0 u1 u2 u3 o => (fin4 H1.out.2.1 u0 u1 u2 u3 o).2.1
    have k2 := fun u0 u1 u2 u3 o => (fin4 H1.out.2.1 u0 u1 u2 u3 o).2.2.1
    have k3 := fun u0 u1 u2 u3 o => (fin4 H1.out.2.1 u0 u1 u2 u3 o).2.2.2
    simp [results, Tryd.results42, go_sem, k0, k1, k2, k3]
    try rfl
  · exact ⟨⟨_, _, _, _, _, rfl⟩, (below4 H1.out.1 _ _ _ _).alloc (by simp; omega) _⟩
set_option maxRecDepth 100000 in
set_option maxHeartbeats 4000000 in
theorem present_good {d : Pth} {k : Bz} {n : Nd} (hT : TreeAt w B N f 47 tl T A M V) (h0 : T [] = some r0) (hr0 : r0.file = false) (hp : PathOk p) (hE : findE T p = 0) (hL : findL p = d ++ [k]) (hn : T (d ++ [k]) = some n) :
    Calls Tryd.prog 24 #[.pointer (some ⟨f, 0, none⟩), .string p] w fun e w' => (∃ g c l, e = .returned (.tuple #[spotV (.pointer (some ⟨A d, 0, none⟩)) ⟨k.toArray⟩ (.pointer (some ⟨A (d ++ [k]), 0, none⟩)) (.slice g l c), .int .i64 0])) ∧ Below w.heap.size w w' := by
  have HB := Lib.hid (find_good (alloc_tree hT box0) h0 hr0 hp hE hL)
  have hk : kidsOf T A d k = some (A (d ++ [k])) := by unfold kidsOf; rw [hn]; rfl
  rw [hk] at HB
  obtain ⟨lg, hlg⟩ : ∃ lg, (d ++ [k]).length = lg := ⟨_, rfl⟩
  rw [hlg] at HB
  obtain ⟨na, hna⟩ : ∃ na, A (d ++ [k]) = na := ⟨_, rfl⟩
  rw [hna] at HB ⊢
  clear hT h0 hr0 hp hE hn hk hna
  simp only [box0] at HB
  go_enter Tryd.func24, Tryd.ntmps24
  go_wp2_with (go_at_call 20; refine HB.out.mono ?_; rintro e w1 ⟨dn, g, cc, hdn, hdf, rfl, hrow, h1⟩; have H1 := Lib.hid (pres_box h1); obtain ⟨q0, q1, q2, q3, u0, u1, u2, u3⟩ := box_facts H1.out.2.1; have hlw := H1.out.2.2; have hnw := Nat.ne_of_lt hlw; have HDN := Lib.hid hdn; have HDF := Lib.hid hdf; clear h1 hrow hdn hdf; simp only [spotV, ptrV])
  refine bodyPost_ret (v := .tuple #[.agg #[.pointer (some ⟨A d, 0, none⟩), .string ⟨k.toArray⟩, .pointer (some ⟨na, 0, none⟩), .slice (some ⟨g, 0, none⟩) lg cc], .int .i64 0]) ?_ rfl ?_
  · have k0 := fun u0 u1 u2 u3 o => (fin4 H1.out.2.1 u0 u1 u2 u3 o).1
    have k1 := fun u0 u1 u2 u3 o => (fin4 H1.out.2.1 u0 u1 u2 u3 o).2.1
    have k2 := fun u0 u1 u2 u3 o => (fin4 H1.out.2.1 u0 u1 u2 u3 o).2.2.1
    have k3 := fun u0 u1 u2 u3 o => (fin4 H1.out.2.1 u0 u1 u2 u3 o).2.2.2
    simp [results, Tryd.results42, go_sem, k0, k1, k2, k3]
    try rfl
  · exact ⟨⟨_, _, _, rfl⟩, (below4 H1.out.1 _ _ _ _).alloc (by simp; omega) _⟩
end
end Go.Proofs.YtcmjpkfinbakkaaDoor

namespace Go.Proofs
open Go.RowKit Go.Maps Go.Sort Go.Shelf


theorem Tryd.sorts36 (m : Nat) : AnyZ.SortsIn Tryd.prog Tryd.sorted36_ren Fence.wide m :=
  ⟨fun blk off cap ss W hH hblk hsz => callsIn_wide.2 (AnyM.slices_Sort_string Tryd.sort48 blk off cap ss W hH hblk hsz),
   fun p cap W => callsIn_wide.2 (AnyM.slices_Sort_string_none Tryd.sort48 p cap W)⟩

theorem Tryd.maps_Keys_37 (mb : Option Nat) (W : World) : CallsIn Fence.wide 5 Tryd.prog 37 #[.map mb] W fun e w' => e = .returned (.func (.func 49) #[] #[.pointer (some ⟨W.heap.size, 0, none⟩)]) ∧ w' = W.alloc (.cells #[.map mb] 43) :=
  AnyZ.keys_in Tryd.keys37 Fence.wide 5 trivial rfl mb W

set_option maxHeartbeats 1000000 in
theorem Tryd.slices_Sorted_keys_36_37 {H : Type} (b nn : Nat) (D0 : DataW H) (R : Value → Option (DataW H × List MemPlace)) (w : World) (hown : w.ownsMap Tryd.prog 9 R b nn D0) (hmax : Maps.size D0 ≤ maxLen) (hbytes : Maps.size D0 * 16 ≤ 140737488355328) :
    CallsIn Fence.wide 5 Tryd.prog 36 #[.func (.func 49) #[] #[.pointer (some ⟨w.heap.size, 0, none⟩)]] (w.alloc (.cells #[.map (some b)] 43)) fun e w' => ∃ (v : Value) (ss : List (List UInt8)), e = .returned v ∧ ss.Perm (strKeys D0) ∧
      w'.ownsRow (w.alloc (.cells #[.map (some b)] 43)).heap.size 9 1 v ss.length ((ss.mergeSort (fun x y => decide (x ≤ y))).map encStr) ∧ (v = .slice none 0 0 ↔ ss = []) ∧ Below (w.alloc (.cells #[.map (some b)] 43)).heap.size (w.alloc (.cells #[.map (some b)] 43)) w' := by
  have hbl := hown.lt
  have hseq : SeqGives Fence.wide 2 Tryd.prog 49 #[.pointer (some ⟨w.heap.size, 0, none⟩)] encStr (fun ss => ss.Perm (strKeys D0)) (Maps.size D0) (w.alloc (.cells #[.map (some b)] 43)) :=
    AnyZ.keys_gives (ρ := Tryd.keys37_ren) { Tryd.keys37 with } Fence.wide _ trivial rfl (by omega) w.heap.size b nn D0 _ (by simp) (by simp) (by
      obtain ⟨es, clock, hb, Ft, hs, hD⟩ := hown
      exact ⟨es, clock, (Below.heap_alloc _ _ b hbl).trans hb, Ft, hs, hD⟩)
  exact AnyZ.sorted_in Tryd.sorted36 Fence.wide 5 trivial trivial trivial trivial rfl (by omega) (Tryd.sorts36 _) (enters_of Tryd.func48 (by kernel_rfl) rfl) 49 #[.pointer (some ⟨w.heap.size, 0, none⟩)] trivial (enters_of Tryd.func49 (by kernel_rfl) rfl) _ _ hmax hbytes _ hseq

set_option maxHeartbeats 1000000 in
theorem Tryd.slices_Sorted_keys_nil_36_37 (w : World) :
    CallsIn Fence.wide 5 Tryd.prog 36 #[.func (.func 49) #[] #[.pointer (some ⟨w.heap.size, 0, none⟩)]] (w.alloc (.cells #[.map none] 43)) fun e w' => ∃ (v : Value) (ss : List (List UInt8)), e = .returned v ∧ ss = [] ∧
      w'.ownsRow (w.alloc (.cells #[.map none] 43)).heap.size 9 1 v ss.length ((ss.mergeSort (fun x y => decide (x ≤ y))).map encStr) ∧ (v = .slice none 0 0 ↔ ss = []) ∧ Below (w.alloc (.cells #[.map none] 43)).heap.size (w.alloc (.cells #[.map none] 43)) w' := by
  have hseq : SeqGives Fence.wide 2 Tryd.prog 49 #[.pointer (some ⟨w.heap.size, 0, none⟩)] encStr (fun ss : List (List UInt8) => ss = []) 0 (w.alloc (.cells #[.map none] 43)) :=
    AnyZ.keys_gives_nil (ρ := Tryd.keys37_ren) { Tryd.keys37 with } Fence.wide _ trivial rfl w.heap.size _ (by simp) (by simp)
  exact AnyZ.sorted_in Tryd.sorted36 Fence.wide 5 trivial trivial trivial trivial rfl (by omega) (Tryd.sorts36 _) (enters_of Tryd.func48 (by kernel_rfl) rfl) 49 #[.pointer (some ⟨w.heap.size, 0, none⟩)] trivial (enters_of Tryd.func49 (by kernel_rfl) rfl) _ 0 (Nat.zero_le _) (by omega) _ hseq



end Go.Proofs

namespace Go.Proofs.YtcmjpkfinbakkaaDoor
open Go.Lib
theorem bs_trans {a b c : Bs} (h : a < b) (k : b < c) : a < c := List.lt_trans h k
theorem bs_irrefl (a : Bs) : ¬ a < a := List.lt_irrefl a
theorem bs_eq {a b : Bs} (h : ¬ a < b) (k : ¬ b < a) : a = b := List.le_antisymm (List.not_lt.1 k) (List.not_lt.1 h)
theorem bs_le {a b : Bs} : a ≤ b ↔ ¬ b < a := List.not_lt.symm
theorem bs_lt_of {a b c : Bs} (h : a ≤ b) (k : b < c) : a < c := by
  by_cases e : a = b
  · rw [e]; exact k
  · refine bs_trans ?_ k
    by_cases l : a < b
    · exact l
    · exact absurd (bs_eq l (bs_le.1 h)) e

/-- Rising, each once. -/
abbrev Ris (l : List Bs) : Prop := l.Pairwise (· < ·)
theorem ris_eq : ∀ {l m : List Bs}, Ris l → Ris m → (∀ x, x ∈ l ↔ x ∈ m) → l = m
  | [], [], _, _, _ => rfl
  | [], b :: m, _, _, h => by have := (h b).2 (by simp); simp at this
  | a :: l, [], _, _, h => by have := (h a).1 (by simp); simp at this
  | a :: l, b :: m, hl, hm, h => by
    have hl := List.pairwise_cons.1 hl
    have hm := List.pairwise_cons.1 hm
    have hab : a = b := by
      rcases List.mem_cons.1 ((h a).1 (by simp)) with e | e
      · exact e
      · rcases List.mem_cons.1 ((h b).2 (by simp)) with e2 | e2
        · exact e2.symm
        · exact absurd (bs_trans (hl.1 b e2) (hm.1 a e)) (bs_irrefl _)
    subst hab
    congr 1
    refine ris_eq hl.2 hm.2 fun x => ?_
    have hx := h x
    rw [List.mem_cons, List.mem_cons] at hx
    constructor
    · intro hxl
      rcases hx.1 (.inr hxl) with e | e
      · subst e; exact absurd (hl.1 x hxl) (bs_irrefl _)
      · exact e
    · intro hxm
      rcases hx.2 (.inr hxm) with e | e
      · subst e; exact absurd (hm.1 x hxm) (bs_irrefl _)
      · exact e

theorem compact_mem (zs : List Bs) (x : Bs) : x ∈ compact zs ↔ x ∈ zs := by
  unfold compact compactUpTo
  simp only [List.mem_map, List.mem_filter, List.mem_range]
  constructor
  · rintro ⟨j, ⟨hj, _⟩, rfl⟩
    rw [getElem!_pos _ j (by simpa using hj)]
    simp
  · intro hx
    obtain ⟨j, hj, he⟩ := List.mem_iff_getElem.1 hx
    have key : ∀ j (hj : j < zs.length), zs[j] = x → ∃ a, (a < zs.length ∧ keeps zs.toArray a = true) ∧ zs.toArray[a]! = x := by
      intro j
      induction j with
      | zero =>
        intro hj he
        exact ⟨0, ⟨hj, by simp [keeps]⟩, by rw [getElem!_pos _ 0 (by simpa using hj)]; simpa using he⟩
      | succ j ih =>
        intro hj he
        by_cases hk : keeps zs.toArray (j + 1) = true
        · exact ⟨j + 1, ⟨hj, hk⟩, by rw [getElem!_pos _ (j + 1) (by simpa using hj)]; simpa using he⟩
        · refine ih (by omega) ?_
          have hj' : j < zs.length := by omega
          simp only [keeps] at hk
          rw [getElem!_pos _ (j + 1) (by simpa using hj)] at hk
          simp [hj'] at hk
          simpa [← he] using hk.symm
    exact key j hj he
theorem compact_ris {zs : List Bs} (h : zs.Pairwise (· ≤ ·)) : Ris (compact zs) := by
  unfold compact compactUpTo
  unfold Ris
  rw [List.pairwise_map]
  have h1 : (((List.range zs.length).filter (keeps zs.toArray))).Pairwise (· < ·) := List.Pairwise.filter _ List.pairwise_lt_range
  refine List.Pairwise.imp_of_mem ?_ h1
  intro i j hi hj hij
  simp only [List.mem_filter, List.mem_range] at hi hj
  obtain ⟨hjl, hk⟩ := hj
  obtain ⟨hil, _⟩ := hi
  rw [getElem!_pos _ i (by simpa using hil), getElem!_pos _ j (by simpa using hjl)]
  obtain ⟨k, rfl⟩ : ∃ k, j = k + 1 := ⟨j - 1, by omega⟩
  have hkl : k < zs.length := by omega
  rw [List.pairwise_iff_getElem] at h
  have hle : zs[i] ≤ zs[k] := by
    by_cases e : i = k
    · subst e; exact List.le_refl _
    · exact h i k hil hkl (by omega)
  have hle2 : zs[k] ≤ zs[k + 1] := h k (k + 1) hkl hjl (by omega)
  have hne : zs[k] ≠ zs[k + 1] := by
    intro e
    simp only [keeps] at hk
    rw [getElem!_pos _ (k + 1) (by simpa using hjl)] at hk
    simp [hkl, e] at hk
  have hlt : zs[k] < zs[k + 1] := by
    by_cases l : zs[k] < zs[k + 1]
    · exact l
    · exact absurd (bs_eq l (bs_le.1 hle2)) hne
  simpa using bs_lt_of hle hlt

theorem sort_le (l : List Bs) : (l.mergeSort fun x y => decide (x ≤ y)).Pairwise (· ≤ ·) := by
  have := List.pairwise_mergeSort (le := fun x y : Bs => decide (x ≤ y)) (fun a b c h k => by
    simp only [decide_eq_true_eq] at *; exact List.le_trans h k) (fun a b => by
    simp only [Bool.or_eq_true, decide_eq_true_eq]; exact List.le_total a b) l
  exact this.imp (fun h => by simpa using h)

/-- A name into a rising list, once. -/
def putS (l : List Bs) (x : Bs) : List Bs :=
  let k := (l.takeWhile fun y => decide (y < x)).length
  if l[k]? = some x then l else l.take k ++ [x] ++ l.drop k
theorem putS_spec {l : List Bs} (h : Ris l) (x : Bs) : Ris (putS l x) ∧ ∀ y, y ∈ putS l x ↔ y = x ∨ y ∈ l := by
  induction l with
  | nil => simp [putS]
  | cons a l ih =>
    have h := List.pairwise_cons.1 h
    obtain ⟨hr, hm⟩ := ih h.2
    by_cases hax : a < x
    · have e : putS (a :: l) x = a :: putS l x := by
        unfold putS
        simp only [List.takeWhile_cons, hax, decide_true, if_true, List.length_cons, List.getElem?_cons_succ]
        split
        · rfl
        · simp
      rw [e]
      refine ⟨List.pairwise_cons.2 ⟨fun y hy => ?_, hr⟩, fun y => ?_⟩
      · rcases (hm y).1 hy with rfl | hy
        · exact hax
        · exact h.1 y hy
      · rw [List.mem_cons, hm y, List.mem_cons]
        constructor
        · rintro (h | h | h)
          · exact .inr (.inl h)
          · exact .inl h
          · exact .inr (.inr h)
        · rintro (h | h | h)
          · exact .inr (.inl h)
          · exact .inl h
          · exact .inr (.inr h)
    · have e : putS (a :: l) x = if a = x then a :: l else x :: a :: l := by
        unfold putS
        simp only [List.takeWhile_cons, hax, decide_false, Bool.false_eq_true, if_false, List.length_nil]
        simp
      rw [e]
      by_cases hae : a = x
      · rw [if_pos hae]
        refine ⟨List.pairwise_cons.2 h, fun y => ?_⟩
        rw [List.mem_cons]
        constructor
        · exact fun h => .inr h
        · rintro (h | h)
          · exact .inl (by rw [h, hae])
          · exact h
      · rw [if_neg hae]
        refine ⟨List.pairwise_cons.2 ⟨fun y hy => ?_, List.pairwise_cons.2 h⟩, fun y => by rw [List.mem_cons]⟩
        have hxa : x < a := by
          by_cases l : x < a
          · exact l
          · exact absurd (bs_eq hax l) hae
        rcases List.mem_cons.1 hy with rfl | hy
        · exact hxa
        · exact bs_trans hxa (h.1 y hy)
theorem fold_spec (L : List Bs) : ∀ (l : List Bs), Ris l → Ris (L.foldl putS l) ∧ ∀ y, y ∈ L.foldl putS l ↔ y ∈ l ∨ y ∈ L := by
  induction L with
  | nil => intro l h; simp [h]
  | cons x L ih =>
    intro l h
    obtain ⟨h1, h2⟩ := putS_spec h x
    obtain ⟨h3, h4⟩ := ih _ h1
    refine ⟨h3, fun y => ?_⟩
    rw [List.foldl_cons, h4 y, h2 y, List.mem_cons]
    constructor
    · rintro ((h | h) | h)
      · exact .inr (.inl h)
      · exact .inl h
      · exact .inr (.inr h)
    · rintro (h | h | h)
      · exact .inl (.inr h)
      · exact .inl (.inl h)
      · exact .inr h
/-- Sorted and made single is what is put in one by one. -/
theorem sort_fold (L : List Bs) : compact (L.mergeSort fun x y => decide (x ≤ y)) = L.foldl putS [] := by
  obtain ⟨h1, h2⟩ := fold_spec L [] List.Pairwise.nil
  refine ris_eq (compact_ris (sort_le L)) h1 fun x => ?_
  rw [compact_mem, h2 x, List.mem_mergeSort]
  simp
end Go.Proofs.YtcmjpkfinbakkaaDoor

namespace Go.Proofs.YtcmjpkfinbakkaaDoor
open Go.RowKit Go.Maps Go.ChangeMaps Go.Sort Go.Lib
set_option linter.unusedVariables false
theorem keys_of {w : World} {b nn : Nat} {D : DataW Unit} (h : w.ownsMap Tryd.prog 9 ptrR b nn D) : (strKeys D).Nodup ∧ ∀ x, x ∈ strKeys D ↔ Maps.has D (.string x) = true := by
  obtain ⟨es, rfl, hp, hk⟩ := h.entries keyedS
  obtain ⟨es', e, hks⟩ := h.keysOf
  injection e with e
  subst e
  have hst : ∀ p ∈ es, ∃ x, p.1 = .string x := fun p hp' => by
    obtain ⟨v, hv⟩ := hks p hp'
    obtain ⟨x, _, h2, _⟩ := Maps.keyOf_str Tryd.underlying9 hv
    exact ⟨x, h2⟩
  constructor
  · show (es.map fun p => strOf p.1).Nodup
    refine List.pairwise_map.2 (hp.imp_of_mem fun {p q} hp' hq' hne e => hne ?_)
    obtain ⟨a, ha⟩ := hst p hp'
    obtain ⟨c, hc⟩ := hst q hq'
    rw [ha, hc] at e ⊢
    exact congrArg _ e
  · intro x
    rw [Maps.has_eq, List.any_eq_true]
    show x ∈ (es.map fun p => strOf p.1) ↔ _
    rw [List.mem_map]
    constructor
    · rintro ⟨p, hp', rfl⟩
      obtain ⟨a, ha⟩ := hst p hp'
      exact ⟨p, hp', by rw [ha]; simp [Lit.sameKey, strOf]⟩
    · rintro ⟨p, hp', hs⟩
      obtain ⟨a, ha⟩ := hst p hp'
      rw [ha] at hs
      exact ⟨p, hp', by rw [ha]; simpa [Lit.sameKey, strOf] using hs⟩
/-- The names in a directory, in ascending order. -/
def NamesP (g : Bz → Option Nat) (w : World) (e : Ending) (w' : World) : Prop :=
  ∃ (v : Value) (L : List Bz), e = .returned v ∧ w'.ownsRow w.heap.size 9 1 v L.length (L.map encStr) ∧ Ris L ∧ (∀ x, x ∈ L ↔ (g x).isSome = true) ∧ Below w.heap.size w w'
theorem sorted_ris {l : List Bz} (h : l.Nodup) : Ris (l.mergeSort fun x y => decide (x ≤ y)) := by
  have h1 := sort_le l
  have h2 : (l.mergeSort fun x y => decide (x ≤ y)).Pairwise (· ≠ ·) := (List.mergeSort_perm l _).nodup_iff.2 h
  refine (h1.and h2).imp fun {a b} hab => ?_
  by_cases e : a < b
  · exact e
  · exact absurd (bs_eq e (bs_le.1 hab.1)) hab.2
theorem row9_base {w : World} {B B' n : Nat} {v : Value} {xs : List Value} (h : w.ownsRow B 9 1 v n xs) (hB : B' ≤ B) : w.ownsRow B' 9 1 v n xs := by
  refine ⟨h.1, ?_⟩
  rcases h.2 with hn | ⟨g, cap, cur, e, h1, r⟩
  · exact .inl hn
  · exact .inr ⟨g, cap, cur, e, Nat.le_trans hB h1, r⟩
set_option maxRecDepth 100000 in
set_option maxHeartbeats 2000000 in
theorem names_any (a N : Nat) (m : Option Nat) (g : Bz → Option Nat) (w : World) (hcell : w.cell? ⟨a, 3, none⟩ = some (.map m)) (hk : Kids w N m g) (hN : N ≤ 1000000) : Calls Tryd.prog 26 #[.pointer (some ⟨a, 0, none⟩)] w (NamesP g w) := by
  refine (callsIn_wide (n := 6)).1 ?_
  have hfK : Fence.wide.fn 37 := trivial
  have hfS : Fence.wide.fn 36 := trivial
  cases m with
  | none =>
    have HK := Lib.hid hk
    clear hk
    refine callsIn_of_wp Tryd.func26 rfl trivial ?_ rfl
    simp only [Tryd.ntmps26, List.size_toArray, List.length_cons, List.length_nil, Nat.reduceAdd, Nat.reduceSub, Array.replicate_succ, Array.replicate_zero, List.push_toArray, List.append_toArray, List.nil_append, List.cons_append]
    gi_wp2_with (first
      | (gi_at_call 37; refine (Tryd.maps_Keys_37 _ _).mono ?_; rintro e w' ⟨rfl, rfl⟩)
      | (gi_at_call 36; refine (Tryd.slices_Sorted_keys_nil_36_37 w).mono ?_; rintro e w' ⟨v, ss, rfl, hS, hrow, hnil, hb⟩))
    go_ret
    subst hS
    refine ⟨v, [], rfl, by have h9 := row9_base (B' := w.heap.size) hrow (by simp); simpa using h9, List.Pairwise.nil, fun x => ?_, ((Below.refl _ w).alloc (Nat.le_refl _) _).trans (hb.mono (by simp))⟩
    rw [HK.out.no rfl]; simp
  | some b =>
    obtain ⟨nn, D, hnn, hown, hg⟩ := hk.yes b rfl
    have HK := Lib.hid hg
    have hsz : Maps.size D ≤ 1000000 := Nat.le_trans hown.size_le (Nat.le_trans hnn hN)
    clear hk hg
    refine callsIn_of_wp Tryd.func26 rfl trivial ?_ rfl
    simp only [Tryd.ntmps26, List.size_toArray, List.length_cons, List.length_nil, Nat.reduceAdd, Nat.reduceSub, Array.replicate_succ, Array.replicate_zero, List.push_toArray, List.append_toArray, List.nil_append, List.cons_append]
    gi_wp2_with (first
      | (gi_at_call 37; refine (Tryd.maps_Keys_37 _ _).mono ?_; rintro e w' ⟨rfl, rfl⟩)
      | (gi_at_call 36; refine (Tryd.slices_Sorted_keys_36_37 b nn D ptrR w hown (by unfold maxLen; omega) (by omega)).mono ?_; rintro e w' ⟨v, ss, rfl, hS, hrow, hnil, hb⟩))
    go_ret
    have hkeys := keys_of hown
    have hnd : ss.Nodup := hS.nodup_iff.2 hkeys.1
    refine ⟨v, ss.mergeSort fun x y => decide (x ≤ y), rfl, ?_, sorted_ris hnd, fun x => ?_, ((Below.refl _ w).alloc (Nat.le_refl _) _).trans (hb.mono (by simp))⟩
    · rw [List.length_mergeSort]; exact row9_base hrow (by simp)
    · rw [(List.mergeSort_perm ss _).mem_iff, hS.mem_iff, hkeys.2, (HK.out x).2]
end Go.Proofs.YtcmjpkfinbakkaaDoor

namespace Go.Proofs.YtcmjpkfinbakkaaDoor
open Go.RowKit Go.Maps Go.ChangeMaps
set_option linter.unusedVariables false
section
variable {f : Nat} {p : ByteArray} {w : World} {B N : Nat} {tl : List Value} {T : Tr} {A : Pth → Nat} {M : Pth → Option Nat} {V : Pth → Value} {r0 : Nd}
theorem present_err (hT : TreeAt w B N f 47 tl T A M V) (h0 : T [] = some r0) (hr0 : r0.file = false) (hp : PathOk p) (hE : presE T p ≠ 0) :
    Calls Tryd.prog 24 #[.pointer (some ⟨f, 0, none⟩), .string p] w fun e w' => (∃ a b c d l, e = .returned (.tuple #[.agg #[.pointer a, .string b, .pointer none, .slice c l d], .int .i64 (presE T p)])) ∧ Below w.heap.size w w' := by
  by_cases h : findE T p = 0
  · cases hx : T (findL p) with
    | some n => exact absurd (by rw [presE, if_neg (fun e => e h), hx]; rfl) hE
    | none =>
      have : presE T p = 6 := by rw [presE, if_neg (fun e => e h), hx]; rfl
      rw [this]
      exact present_none hT h0 hr0 hp h hx
  · have : presE T p = findE T p := by rw [presE, if_pos h]
    rw [this]
    refine (present_bad1 hT h0 hr0 hp h).mono ?_
    rintro e w' ⟨rfl, h2⟩
    exact ⟨⟨none, ⟨#[]⟩, none, 0, 0, rfl⟩, h2⟩
theorem present_ok {n : Nd} (hT : TreeAt w B N f 47 tl T A M V) (h0 : T [] = some r0) (hr0 : r0.file = false) (hp : PathOk p) (hE : findE T p = 0) (hn : T (findL p) = some n) :
    Calls Tryd.prog 24 #[.pointer (some ⟨f, 0, none⟩), .string p] w fun e w' => (∃ a b c d l, e = .returned (.tuple #[.agg #[.pointer a, .string b, .pointer (some ⟨A (findL p), 0, none⟩), .slice c l d], .int .i64 0])) ∧ Below w.heap.size w w' := by
  rcases List.eq_nil_or_concat (findL p) with hL | ⟨d, k, hL⟩
  · refine (present_root hT h0 hr0 hp hE hL).mono ?_
    rintro e w' ⟨rfl, h2⟩
    rw [hL, hT.a0]
    exact ⟨⟨none, ⟨#[]⟩, none, 0, 0, rfl⟩, h2⟩
  · have hL : findL p = d ++ [k] := by rw [hL]; simp
    rw [hL] at hn
    refine (present_good hT h0 hr0 hp hE hL hn).mono ?_
    rintro e w' ⟨⟨g, c, l, rfl⟩, h2⟩
    rw [hL]
    exact ⟨⟨_, _, _, _, _, rfl⟩, h2⟩
end
end Go.Proofs.YtcmjpkfinbakkaaDoor

namespace Go.Proofs.YtcmjpkfinbakkaaDoor
open Go.RowKit Go.Maps Go.ChangeMaps
set_option linter.unusedVariables false
section
variable {f : Nat} {p : ByteArray} {w : World} {B N : Nat} {tl : List Value} {T : Tr} {A : Pth → Nat} {M : Pth → Option Nat} {V : Pth → Value} {r0 : Nd}
set_option maxRecDepth 100000 in
set_option maxHeartbeats 4000000 in
theorem List_err (hT : TreeAt w B N f 47 tl T A M V) (h0 : T [] = some r0) (hr0 : r0.file = false) (hp : PathOk p) (hE : presE T p ≠ 0) :
    Calls Tryd.prog 10 #[.pointer (some ⟨f, 0, none⟩), .string p] w fun e w' => e = .returned (.tuple #[.slice none 0 0, .int .i64 (presE T p)]) ∧ Below w.heap.size w w' := by
  have HB := Lib.hid (present_err hT h0 hr0 hp hE)
  obtain ⟨er, her⟩ : ∃ er, presE T p = er := ⟨_, rfl⟩
  rw [her] at HB hE ⊢
  have hne : (er != 0) = true := by simpa using hE
  clear hT h0 hr0 hp hE her
  go_enter Tryd.func10, Tryd.ntmps10
  go_wp2_with (go_at_call 24; refine HB.out.mono ?_; rintro e w1 ⟨⟨a, b, c, d, l, rfl⟩, h1⟩; have H1 := Lib.hid h1; clear h1; simp only [])
  go_ret2
  exact ⟨rfl, H1.out.alloc H1.out.size _⟩
set_option maxRecDepth 100000 in
set_option maxHeartbeats 4000000 in
theorem Read_err (hT : TreeAt w B N f 47 tl T A M V) (h0 : T [] = some r0) (hr0 : r0.file = false) (hp : PathOk p) (hE : presE T p ≠ 0) :
    Calls Tryd.prog 9 #[.pointer (some ⟨f, 0, none⟩), .string p] w fun e w' => e = .returned (.tuple #[.slice none 0 0, .int .i64 (presE T p)]) ∧ Below w.heap.size w w' := by
  have HB := Lib.hid (present_err hT h0 hr0 hp hE)
  obtain ⟨er, her⟩ : ∃ er, presE T p = er := ⟨_, rfl⟩
  rw [her] at HB hE ⊢
  have hne : (er != 0) = true := by simpa using hE
  clear hT h0 hr0 hp hE her
  go_enter Tryd.func9, Tryd.ntmps9
  go_wp2_with (go_at_call 24; refine HB.out.mono ?_; rintro e w1 ⟨⟨a, b, c, d, l, rfl⟩, h1⟩; have H1 := Lib.hid h1; clear h1; simp only [])
  go_ret2
  exact ⟨rfl, H1.out.alloc H1.out.size _⟩
set_option maxRecDepth 100000 in
set_option maxHeartbeats 4000000 in
theorem List_file {n : Nd} (hT : TreeAt w B N f 47 tl T A M V) (h0 : T [] = some r0) (hr0 : r0.file = false) (hp : PathOk p) (hE : findE T p = 0) (hn : T (findL p) = some n) (hnf : n.file = true) :
    Calls Tryd.prog 10 #[.pointer (some ⟨f, 0, none⟩), .string p] w fun e w' => e = .returned (.tuple #[.slice none 0 0, .int .i64 11]) ∧ Below w.heap.size w w' := by
  have HB := Lib.hid (present_ok hT h0 hr0 hp hE hn)
  have HT := Lib.hid hT
  have HN := Lib.hid hn
  obtain ⟨L, hL⟩ : ∃ L, findL p = L := ⟨_, rfl⟩
  rw [hL] at HB HN
  clear hT h0 hr0 hp hE hn hL
  go_enter Tryd.func10, Tryd.ntmps10
  go_wp2_with (go_at_call 24; refine HB.out.mono ?_; rintro e w1 ⟨⟨a, b, c, d, l, rfl⟩, h1⟩; have H1 := Lib.hid h1; have h2 := (HT.out.only (X := fun _ => False) (Only.of_below (h1.alloc h1.size (.cells #[.pointer a, .string b, .pointer (some ⟨A L, 0, none⟩), .slice c l d] 50))) (fun _ h => h.elim)).blk _ n HN.out; have q0 : (w1.alloc (.cells #[.pointer a, .string b, .pointer (some ⟨A L, 0, none⟩), .slice c l d] 50)).cell? ⟨A L, 0, none⟩ = some (.bool n.file) := cell_of h2 0; rw [hnf] at q0; clear h1 h2; simp only [])
  go_ret2
  exact ⟨rfl, H1.out.alloc H1.out.size _⟩
set_option maxRecDepth 100000 in
set_option maxHeartbeats 4000000 in
theorem Read_dir {n : Nd} (hT : TreeAt w B N f 47 tl T A M V) (h0 : T [] = some r0) (hr0 : r0.file = false) (hp : PathOk p) (hE : findE T p = 0) (hn : T (findL p) = some n) (hnf : n.file = false) :
    Calls Tryd.prog 9 #[.pointer (some ⟨f, 0, none⟩), .string p] w fun e w' => e = .returned (.tuple #[.slice none 0 0, .int .i64 10]) ∧ Below w.heap.size w w' := by
  have HB := Lib.hid (present_ok hT h0 hr0 hp hE hn)
  have HT := Lib.hid hT
  have HN := Lib.hid hn
  obtain ⟨L, hL⟩ : ∃ L, findL p = L := ⟨_, rfl⟩
  rw [hL] at HB HN
  clear hT h0 hr0 hp hE hn hL
  go_enter Tryd.func9, Tryd.ntmps9
  go_wp2_with (go_at_call 24; refine HB.out.mono ?_; rintro e w1 ⟨⟨a, b, c, d, l, rfl⟩, h1⟩; have H1 := Lib.hid h1; have h2 := (HT.out.only (X := fun _ => False) (Only.of_below (h1.alloc h1.size (.cells #[.pointer a, .string b, .pointer (some ⟨A L, 0, none⟩), .slice c l d] 50))) (fun _ h => h.elim)).blk _ n HN.out; have q0 : (w1.alloc (.cells #[.pointer a, .string b, .pointer (some ⟨A L, 0, none⟩), .slice c l d] 50)).cell? ⟨A L, 0, none⟩ = some (.bool n.file) := cell_of h2 0; rw [hnf] at q0; clear h1 h2; simp only [])
  go_ret2
  exact ⟨rfl, H1.out.alloc H1.out.size _⟩
/-- What List answers at a directory. -/
def ListP (T : Tr) (L : Pth) (w : World) (e : Ending) (w' : World) : Prop :=
  ∃ (v : Value) (l : List Bz), e = .returned (.tuple #[v, .int .i64 0]) ∧ w'.ownsRow w.heap.size 9 1 v l.length (l.map encStr) ∧ Ris l ∧ (∀ x, x ∈ l ↔ (T (L ++ [x])).isSome = true) ∧ Below w.heap.size w w'
set_option maxRecDepth 100000 in
set_option maxHeartbeats 4000000 in
theorem List_dir {n : Nd} (hT : TreeAt w B N f 47 tl T A M V) (h0 : T [] = some r0) (hr0 : r0.file = false) (hp : PathOk p) (hE : findE T p = 0) (hn : T (findL p) = some n) (hnf : n.file = false) (hN : N ≤ 1000000) :
    Calls Tryd.prog 10 #[.pointer (some ⟨f, 0, none⟩), .string p] w (ListP T (findL p) w) := by
  have HB := Lib.hid (present_ok hT h0 hr0 hp hE hn)
  have HT := Lib.hid hT
  have HN := Lib.hid hn
  obtain ⟨L, hL⟩ : ∃ L, findL p = L := ⟨_, rfl⟩
  rw [hL] at HB HN ⊢
  obtain ⟨Q, hQ⟩ : ∃ Q, ListP T L w = Q := ⟨_, rfl⟩
  rw [hQ]
  have HQ := Lib.hid hQ
  have HNM := Lib.hid (fun (w : World) hc hk => names_any (A L) N (M L) (kidsOf T A L) w hc hk hN)
  clear hT h0 hr0 hp hE hn hL hQ
  go_enter Tryd.func10, Tryd.ntmps10
  go_wp2_with (first
    | (go_at_call 24; refine HB.out.mono ?_; rintro e w1 ⟨⟨a, b, c, d, l, rfl⟩, h1⟩; have H1 := Lib.hid h1; have h2 := (HT.out.only (X := fun _ => False) (Only.of_below (h1.alloc h1.size (.cells #[.pointer a, .string b, .pointer (some ⟨A L, 0, none⟩), .slice c l d] 50))) (fun _ h => h.elim)).blk _ n HN.out; have q0 : (w1.alloc (.cells #[.pointer a, .string b, .pointer (some ⟨A L, 0, none⟩), .slice c l d] 50)).cell? ⟨A L, 0, none⟩ = some (.bool n.file) := cell_of h2 0; rw [hnf] at q0; clear h1 h2; simp only [])
    | (go_at_call 26; have hT2 := HT.out.only (X := fun _ => False) (Only.of_below (H1.out.alloc H1.out.size (.cells #[.pointer a, .string b, .pointer (some ⟨A L, 0, none⟩), .slice c l d] 50))) (fun _ h => h.elim); refine (HNM.out _ (cell_of (hT2.blk _ n HN.out) 3) (hT2.kids _ n HN.out)).mono ?_; rintro e w2 ⟨v2, l2, rfl, hrow, hris, hmem, h2⟩; have HROW := Lib.hid hrow; have HRIS := Lib.hid hris; have HMEM := Lib.hid hmem; have H2 := Lib.hid h2; clear hT2 hrow hris hmem h2; simp only []))
  rw [← HQ.out]
  have hs1 := (H1.out.alloc H1.out.size (.cells #[.pointer a, .string b, .pointer (some ⟨A L, 0, none⟩), .slice c l d] 50))
  refine ⟨v2, l2, rfl, row9_base HROW.out hs1.size, HRIS.out, fun x => ?_, hs1.trans (H2.out.mono hs1.size)⟩
  rw [HMEM.out x]
  unfold kidsOf
  cases (T (L ++ [x])) <;> simp
end
end Go.Proofs.YtcmjpkfinbakkaaDoor
