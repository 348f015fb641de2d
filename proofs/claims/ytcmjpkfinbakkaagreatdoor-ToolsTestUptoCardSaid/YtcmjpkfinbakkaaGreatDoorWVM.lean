import Derived.Test.YtcmjpkfinbakkaaGreatDoorWVL
import Derived.Test.YtcmjpkfinbakkaaGreatDoorRows
import Derived.OwnWalk
import Derived.Lib.Strings
import Derived.Laws.IdiomStrings
import Derived.StillTailTactics
import Derived.Carry
import Derived.Deep.RegionHeld3
import Derived.WalkKit
import Derived.WalkSpells
import Derived.WalkLawsBesides
import Derived.RegionTactic
import Derived.Lib.Hide
import Derived.Lib.ConvBytes
import Derived.Deep.QuietTactic
import Derived.Deep.LoopGhost
import Derived.BigQuiet
import Derived.Laws.RangeString
import Derived.Laws.RangeAny
import Derived.WalkMore
import Derived.Handy
import Derived.Laws.OwnMore
import Derived.Laws.AppendOwn
import Derived.Deep.AppendLies
import Derived.Deep.AppendSrc
import Derived.Deep.Onto
import Derived.Deep.SlicePairs
import Derived.ChangeArms
import Derived.StillTail
import Derived.Below
import Derived.WalkSmall
import Derived.Deep.Quiet
namespace Go.Proofs.YtcmjpkfinbakkaaGreatDoor.Vf
set_option maxRecDepth 100000
open Go.RowKit Go.Maps Go.ChangeMaps
set_option linter.unusedVariables false
theorem Fs.below {w w' : World} {B N f : Nat} {c : Cn} {T : Tr} {F : Nat → Prop} (h : Fs w B N f c T F) (hb : Below w.heap.size w w') : Fs w' B N f c T F := by
  obtain ⟨A, M, V, h1, h2, h3⟩ := h
  exact ⟨A, M, V, h1.only (X := fun _ => False) (Only.of_below hb) (fun _ h => h.elim), h2, h3⟩
theorem MutP.after {w w1 w' : World} {B N f : Nat} {F : Nat → Prop} {er : Int} {T : Tr} {c : Cn} {e : Ending} (hb : Below w.heap.size w w1) (h : MutP w1 B N f F er T c e w') : MutP w B N f F er T c e w' := by
  obtain ⟨h1, ⟨A, M, V, h2, h3, h4⟩, h5⟩ := h
  exact ⟨h1, ⟨A, M, V, h2, fun j hj => (h3 j hj).imp id (fun h => Nat.le_trans hb.size h), h4⟩, (Only.of_below (S := F) hb).trans h5 (fun _ h => h) (fun _ _ h => h)⟩
section
variable {w : World} {B N f : Nat} {c : Cn} {T : Tr} {F : Nat → Prop} {p : ByteArray}
set_option maxRecDepth 100000 in
set_option maxHeartbeats 4000000 in
theorem Touch_bad (hF : Fs w B N f c T F) (hp : PathOk p) (hE : findE T p ≠ 0) : Calls Tryz.prog 61 #[.pointer (some ⟨f, 0, none⟩), .string p] w (MutP w B N f F (findE T p) T c) := by
  obtain ⟨A, M, V, hT, hft, r0, h0, hr0⟩ := hF
  have HF : Hid (Fs w B N f c T F) := ⟨A, M, V, hT, hft, r0, h0, hr0⟩
  have HB := Lib.hid (find_bad (w := w) hT h0 hr0 hp hE)
  obtain ⟨er, her⟩ : ∃ er, findE T p = er := ⟨_, rfl⟩
  rw [her] at HB hE ⊢
  obtain ⟨Q, hQ⟩ : ∃ Q, MutP w B N f F er T c = Q := ⟨_, rfl⟩
  rw [hQ]
  have HQ := Lib.hid hQ
  have hne : (er != 0) = true := by simpa using hE
  clear hT hft h0 hr0 hQ hp hE her
  go_enter Tryz.func61, Tryz.ntmps61
  go_wp2_with (go_at_call 33; refine HB.out.mono ?_; rintro e w1 ⟨rfl, h1⟩; have H1 := Lib.hid h1; clear h1; simp only [spot0, spotV])
  rw [← HQ.out]
  exact MutP.same HF.out (H1.out.alloc H1.out.size _)
set_option maxRecDepth 100000 in
set_option maxHeartbeats 4000000 in
theorem Touch_root (hF : Fs w B N f c T F) (hp : PathOk p) (hE : findE T p = 0) (hL : findL p = []) : Calls Tryz.prog 61 #[.pointer (some ⟨f, 0, none⟩), .string p] w (MutP w B N f F 0 T c) := by
  obtain ⟨A, M, V, hT, hft, r0, h0, hr0⟩ := hF
  have HF : Hid (Fs w B N f c T F) := ⟨A, M, V, hT, hft, r0, h0, hr0⟩
  have HB := Lib.hid (find_root (w := w) hT h0 hr0 hp hE hL)
  obtain ⟨Q, hQ⟩ : ∃ Q, MutP w B N f F 0 T c = Q := ⟨_, rfl⟩
  rw [hQ]
  have HQ := Lib.hid hQ
  clear hT hft h0 hr0 hQ hp hE
  go_enter Tryz.func61, Tryz.ntmps61
  go_wp2_with (go_at_call 33; refine HB.out.mono ?_; rintro e w1 ⟨rfl, h1⟩; have H1 := Lib.hid h1; clear h1; simp only [spot0, spotV])
  rw [← HQ.out]
  exact MutP.same HF.out (H1.out.alloc H1.out.size _)
set_option maxRecDepth 100000 in
set_option maxHeartbeats 4000000 in
theorem Touch_old {n : Nd} (hF : Fs w B N f c T F) (hp : PathOk p) (hc : c.Ok) (hE : findE T p = 0) (hL : findL p ≠ []) (hn : T (findL p) = some n) :
    Calls Tryz.prog 61 #[.pointer (some ⟨f, 0, none⟩), .string p] w (MutP w B N f F 0 (setF T (findL p) (some { n with time := c.clock + 1 })) { c with clock := c.clock + 1 }) := by
  obtain ⟨A, M, V, hT, hft, r0, h0, hr0⟩ := hF
  obtain ⟨Q, hQ⟩ : ∃ Q, MutP w B N f F 0 (setF T (findL p) (some { n with time := c.clock + 1 })) { c with clock := c.clock + 1 } = Q := ⟨_, rfl⟩
  rw [hQ]
  have HT := Lib.hid hT
  have H0 := Lib.hid h0
  have HFT := Lib.hid hft
  rcases List.eq_nil_or_concat (findL p) with hL2 | ⟨d, k, hL2⟩
  · exact absurd hL2 hL
  have hL2 : findL p = d ++ [k] := by rw [hL2]; simp
  rw [hL2] at hQ hn
  have HQ := Lib.hid hQ
  have HN := Lib.hid hn
  have HB := Lib.hid (find_good (w := w) hT h0 hr0 hp hE hL2)
  obtain ⟨lg, hlg⟩ : ∃ lg, (d ++ [k]).length = lg := ⟨_, rfl⟩
  rw [hlg] at HB
  have hk : kidsOf T A d k = some (A (d ++ [k])) := by unfold kidsOf; rw [hn]; rfl
  rw [hk] at HB
  have HST := Lib.hid (fun (w : World) (hT : TreeAt w B N f 71 c.tl T A M V) => stamp_any hT h0 hn (by simp) hc.clock)
  obtain ⟨na, hna⟩ : ∃ na, A (d ++ [k]) = na := ⟨_, rfl⟩
  rw [hna] at HB HST
  have HNA := Lib.hid hna
  clear hT hft h0 hQ hp hE hL hL2 hn hk hna hc
  go_enter Tryz.func61, Tryz.ntmps61
  go_wp2_with (first
    | (go_at_call 33; refine HB.out.mono ?_; rintro e w1 ⟨dn, g, cc, hdn, hdf, rfl, hrow, h1⟩; have H1 := Lib.hid h1; clear h1 hrow hdn hdf; simp only [spotV, ptrV])
    | (go_at_call 36; refine (HST.out _ (HT.out.only (X := fun _ => False) (Only.of_below (H1.out.alloc H1.out.size _)) (fun _ h => h.elim))).mono ?_; rintro e w2 ⟨rfl, z1, z2⟩; have Z1 := Lib.hid z1; have Z2 := Lib.hid z2; clear z1 z2; simp only []))
  rw [← HQ.out]
  refine ⟨rfl, ⟨A, M, V, Z1.out.mono (Nat.le_succ N), fun j hj => .inl (HFT.out j (foot_setT (by rw [HN.out]; rfl) hj)), r0, ?_, hr0⟩, ?_⟩
  · rw [setF_other _ _ (by simp)]; exact H0.out
  · refine (Only.of_below (S := F) (H1.out.alloc H1.out.size _)).trans Z2.out (fun _ h => h) (fun j _ e => ?_)
    rcases e with e | e
    · rw [e]; exact HFT.out f ⟨[], r0, H0.out, .inl HT.out.a0⟩
    · rw [e]; exact HFT.out na ⟨d ++ [k], n, HN.out, .inl HNA.out⟩
set_option maxRecDepth 100000 in
set_option maxHeartbeats 4000000 in
theorem Touch_new (hF : Fs w B N f c T F) (hp : PathOk p) (hc : c.Ok) (hN : N < maxLen) (hB : B ≤ w.heap.size) (hE : findE T p = 0) (hn : T (findL p) = none) (hfull : ¬ c.nodes ≤ c.count) (hroom : c.size ≤ c.bytes) :
    Calls Tryz.prog 61 #[.pointer (some ⟨f, 0, none⟩), .string p] w (MutP w B N f F 0 (setF T (findL p) (some ⟨true, [], c.clock + 1⟩)) { c with count := c.count + 1, size := c.size + 0, clock := c.clock + 1 }) := by
  have HF := Lib.hid hF
  have HW := Lib.hid (fun (w' : World) (hw : B ≤ w'.heap.size) (hF : Fs w' B N f c T F) => Write_new w' p true hF hp hc hN hw hE hn [] none 0 ⟨none, 0, rfl, fun i h => absurd h (by simp)⟩ (fun a h => by cases h) (by simp) hfull (by simp; omega))
  simp only [List.length_nil] at HW
  obtain ⟨A, M, V, hT, hft, r0, h0, hr0⟩ := hF
  obtain ⟨Q, hQ⟩ : ∃ Q, MutP w B N f F 0 (setF T (findL p) (some ⟨true, [], c.clock + 1⟩)) { c with count := c.count + 1, size := c.size + 0, clock := c.clock + 1 } = Q := ⟨_, rfl⟩
  rw [hQ]
  have HQ := Lib.hid hQ
  rcases List.eq_nil_or_concat (findL p) with hL2 | ⟨d, k, hL2⟩
  · rw [hL2, h0] at hn; cases hn
  have hL2 : findL p = d ++ [k] := by rw [hL2]; simp
  have HB := Lib.hid (find_good (w := w) hT h0 hr0 hp hE hL2)
  obtain ⟨lg, hlg⟩ : ∃ lg, (d ++ [k]).length = lg := ⟨_, rfl⟩
  rw [hlg] at HB
  rw [hL2] at hn
  have hk : kidsOf T A d k = none := by unfold kidsOf; rw [hn]; rfl
  rw [hk] at HB
  clear hT hft h0 hQ hp hE hL2 hn hk hc
  go_enter Tryz.func61, Tryz.ntmps61
  go_wp2_with (first
    | (go_at_call 33; refine HB.out.mono ?_; rintro e w1 ⟨dn, g, cc, hdn, hdf, rfl, hrow, h1⟩; have H1 := Lib.hid h1; clear h1 hrow hdn hdf; simp only [spotV, ptrV])
    | (go_at_call 17; refine (HW.out _ (Nat.le_trans hB (H1.out.alloc H1.out.size _).size) (HF.out.below (H1.out.alloc H1.out.size _))).mono ?_; rintro e w2 hm; obtain ⟨rfl, _⟩ := id hm; have HM := Lib.hid hm; clear hm; simp only []))
  rw [← HQ.out]
  exact MutP.after (H1.out.alloc H1.out.size _) HM.out
end
end Go.Proofs.YtcmjpkfinbakkaaGreatDoor.Vf

namespace Go.Proofs.YtcmjpkfinbakkaaGreatDoor.Vf
set_option maxRecDepth 100000
open Go.RowKit Go.Maps Go.ChangeMaps
set_option linter.unusedVariables false
/-- What present says: the place of a node, or why there is none. -/
def presE (T : Tr) (p : ByteArray) : Int := if findE T p ≠ 0 then findE T p else if (T (findL p)).isSome then 0 else 6
def presD (A : Pth → Nat) (L : Pth) : Value := match L.reverse with
  | [] => .pointer none
  | _ :: r => .pointer (some ⟨A r.reverse, 0, none⟩)
section
variable {f : Nat} {p : ByteArray} {w : World} {B N : Nat} {tl : List Value} {T : Tr} {A : Pth → Nat} {M : Pth → Option Nat} {V : Pth → Value} {r0 : Nd}
theorem spot_box {w w1 : World} {v0 v1 v2 v3 u0 u1 u2 u3 : Value} (h1 : Below (w.alloc (.cells #[v0, v1, v2, v3] 74)).heap.size (w.alloc (.cells #[v0, v1, v2, v3] 74)) w1) : Below w.heap.size w (w1.alloc (.cells #[u0, u1, u2, u3] 74)) ∧ w1.heap[w.heap.size]? = some (.cells [v0, v1, v2, v3].toArray 74 (0, 0)) ∧ w.heap.size < w1.heap.size := by
  have s1 := h1.size
  have hz : (w.alloc (.cells #[v0, v1, v2, v3] 74)).heap.size = w.heap.size + 1 := by simp
  rw [hz] at s1
  refine ⟨(((Below.refl _ w).alloc (Nat.le_refl _) _).trans (h1.mono (by omega))).alloc (by omega) _, ?_, by omega⟩
  rw [h1.block _ (by omega)]
  exact heap_alloc_new w _
theorem alloc_tree (hT : TreeAt w B N f 71 tl T A M V) (o : Obj) : TreeAt (w.alloc o) B N f 71 tl T A M V := hT.only (X := fun _ => False) (Only.of_below ((Below.refl _ _).alloc (Nat.le_refl _) o)) (fun _ h => h.elim)
def box0 : Obj := .cells #[.pointer none, .string ⟨#[]⟩, .pointer none, .slice none 0 0] 74
theorem pres_box {w w1 : World} (h1 : Below (w.alloc box0).heap.size (w.alloc box0) w1) : Below w.heap.size w w1 ∧ w1.heap[w.heap.size]? = some (.cells [.pointer none, .string ⟨#[]⟩, .pointer none, .slice none 0 0].toArray 74 (0, 0)) ∧ w.heap.size < w1.heap.size := by
  have s1 := h1.size
  have hz : (w.alloc box0).heap.size = w.heap.size + 1 := by simp
  rw [hz] at s1
  refine ⟨((Below.refl _ w).alloc (Nat.le_refl _) _).trans (h1.mono (by omega)), ?_, by omega⟩
  rw [h1.block _ (by omega)]
  exact heap_alloc_new w _
theorem fin4 {w1 : World} {a : Nat} {v0 v1 v2 v3 : Value} (hb : w1.heap[a]? = some (.cells [v0, v1, v2, v3].toArray 74 (0, 0))) (u0 u1 u2 u3 : Value) (o : Obj) :
    (((((w1.setCell ⟨a, 0, none⟩ u0).setCell ⟨a, 1, none⟩ u1).setCell ⟨a, 2, none⟩ u2).setCell ⟨a, 3, none⟩ u3).alloc o).cell? ⟨a, 0, none⟩ = some u0 ∧
    (((((w1.setCell ⟨a, 0, none⟩ u0).setCell ⟨a, 1, none⟩ u1).setCell ⟨a, 2, none⟩ u2).setCell ⟨a, 3, none⟩ u3).alloc o).cell? ⟨a, 1, none⟩ = some u1 ∧
    (((((w1.setCell ⟨a, 0, none⟩ u0).setCell ⟨a, 1, none⟩ u1).setCell ⟨a, 2, none⟩ u2).setCell ⟨a, 3, none⟩ u3).alloc o).cell? ⟨a, 2, none⟩ = some u2 ∧
    (((((w1.setCell ⟨a, 0, none⟩ u0).setCell ⟨a, 1, none⟩ u1).setCell ⟨a, 2, none⟩ u2).setCell ⟨a, 3, none⟩ u3).alloc o).cell? ⟨a, 3, none⟩ = some u3 := by
  have hb4 := set_of (set_of (set_of (set_of hb 0 u0) 1 u1) 2 u2) 3 u3
  have hlt := blk_lt hb4
  have h5 := ((MapKept.heap_alloc ((((w1.setCell ⟨a, 0, none⟩ u0).setCell ⟨a, 1, none⟩ u1).setCell ⟨a, 2, none⟩ u2).setCell ⟨a, 3, none⟩ u3) o).2 a hlt).trans hb4
  exact ⟨cell_of h5 0, cell_of h5 1, cell_of h5 2, cell_of h5 3⟩
set_option maxRecDepth 100000 in
set_option maxHeartbeats 4000000 in
theorem present_bad1 (hT : TreeAt w B N f 71 tl T A M V) (h0 : T [] = some r0) (hr0 : r0.file = false) (hp : PathOk p) (hE : findE T p ≠ 0) :
    Calls Tryz.prog 37 #[.pointer (some ⟨f, 0, none⟩), .string p] w fun e w' => e = .returned (.tuple #[spot0, .int .i64 (findE T p)]) ∧ Below w.heap.size w w' := by
  have HB := Lib.hid (find_bad (alloc_tree hT box0) h0 hr0 hp hE)
  obtain ⟨er, her⟩ : ∃ er, findE T p = er := ⟨_, rfl⟩
  rw [her] at HB hE ⊢
  have hne : (er == 0) = false := by simpa using hE
  clear hT h0 hr0 hp hE her
  simp only [box0] at HB
  go_enter Tryz.func37, Tryz.ntmps37
  go_wp2_with (go_at_call 33; refine HB.out.mono ?_; rintro e w1 ⟨rfl, h1⟩; have H1 := Lib.hid (pres_box h1); obtain ⟨q0, q1, q2, q3, u0, u1, u2, u3⟩ := box_facts H1.out.2.1; have hlw := H1.out.2.2; have hnw := Nat.ne_of_lt hlw; clear h1; simp only [spot0, spotV])
  refine bodyPost_ret (v := .tuple #[spot0, .int .i64 er]) ?_ rfl ?_
  · have k0 := fun u0 u1 u2 u3 o => (fin4 H1.out.2.1 u0 u1 u2 u3 o).1
    have k1 := fun u0 u1 u2 u3 o => (fin4 H1.out.2.1 u0 u1 u2 u3 o).2.1
    have k2 := fun u0 u1 u2 u3 o => (fin4 H1.out.2.1 u0 u1 u2 u3 o).2.2.1
    have k3 := fun u0 u1 u2 u3 o => (fin4 H1.out.2.1 u0 u1 u2 u3 o).2.2.2
    simp [results, Tryz.results42, go_sem, k0, k1, k2, k3]
    try rfl
  · exact ⟨rfl, (below4 H1.out.1 _ _ _ _).alloc (by simp; omega) _⟩
set_option maxRecDepth 100000 in
set_option maxHeartbeats 4000000 in
theorem present_root (hT : TreeAt w B N f 71 tl T A M V) (h0 : T [] = some r0) (hr0 : r0.file = false) (hp : PathOk p) (hE : findE T p = 0) (hL : findL p = []) :
    Calls Tryz.prog 37 #[.pointer (some ⟨f, 0, none⟩), .string p] w fun e w' => e = .returned (.tuple #[spotV (.pointer none) ⟨#[]⟩ (.pointer (some ⟨f, 0, none⟩)) (.slice none 0 0), .int .i64 0]) ∧ Below w.heap.size w w' := by
  have HB := Lib.hid (find_root (alloc_tree hT box0) h0 hr0 hp hE hL)
  clear hT h0 hr0 hp hE
  simp only [box0] at HB
  go_enter Tryz.func37, Tryz.ntmps37
  go_wp2_with (go_at_call 33; refine HB.out.mono ?_; rintro e w1 ⟨rfl, h1⟩; have H1 := Lib.hid (pres_box h1); obtain ⟨q0, q1, q2, q3, u0, u1, u2, u3⟩ := box_facts H1.out.2.1; have hlw := H1.out.2.2; have hnw := Nat.ne_of_lt hlw; clear h1; simp only [spot0, spotV, ptrV])
  refine bodyPost_ret (v := .tuple #[spotV (.pointer none) ⟨#[]⟩ (.pointer (some ⟨f, 0, none⟩)) (.slice none 0 0), .int .i64 0]) ?_ rfl ?_
  · have k0 := fun u0 u1 u2 u3 o => (fin4 H1.out.2.1 u0 u1 u2 u3 o).1
    have k1 := fun u0 u1 u2 u3 o => (fin4 H1.out.2.1 u0 u1 u2 u3 o).2.1
    have k2 := fun u0 u1 u2 u3 o => (fin4 H1.out.2.1 u0 u1 u2 u3 o).2.2.1
    have k3 := fun u0 u1 u2 u3 o => (fin4 H1.out.2.1 u0 u1 u2 u3 o).2.2.2
    simp [results, Tryz.results42, go_sem, k0, k1, k2, k3]
    try rfl
  · exact ⟨rfl, (below4 H1.out.1 _ _ _ _).alloc (by simp; omega) _⟩
set_option maxRecDepth 100000 in
set_option maxHeartbeats 4000000 in
theorem present_none (hT : TreeAt w B N f 71 tl T A M V) (h0 : T [] = some r0) (hr0 : r0.file = false) (hp : PathOk p) (hE : findE T p = 0) (hn : T (findL p) = none) :
    Calls Tryz.prog 37 #[.pointer (some ⟨f, 0, none⟩), .string p] w fun e w' => (∃ a b c d l, e = .returned (.tuple #[.agg #[.pointer a, .string b, .pointer none, .slice c l d], .int .i64 6])) ∧ Below w.heap.size w w' := by
  rcases List.eq_nil_or_concat (findL p) with hL2 | ⟨d, k, hL2⟩
  · rw [hL2, h0] at hn; cases hn
  have hL2 : findL p = d ++ [k] := by rw [hL2]; simp
  have HB := Lib.hid (find_good (alloc_tree hT box0) h0 hr0 hp hE hL2)
  rw [hL2] at hn
  have hk : kidsOf T A d k = none := by unfold kidsOf; rw [hn]; rfl
  rw [hk] at HB
  obtain ⟨lg, hlg⟩ : ∃ lg, (d ++ [k]).length = lg := ⟨_, rfl⟩
  rw [hlg] at HB
  clear hT h0 hr0 hp hE hn hk
  simp only [box0] at HB
  go_enter Tryz.func37, Tryz.ntmps37
  go_wp2_with (go_at_call 33; refine HB.out.mono ?_; rintro e w1 ⟨dn, g, cc, hdn, hdf, rfl, hrow, h1⟩; have H1 := Lib.hid (pres_box h1); obtain ⟨q0, q1, q2, q3, u0, u1, u2, u3⟩ := box_facts H1.out.2.1; have hlw := H1.out.2.2; have hnw := Nat.ne_of_lt hlw; have HDN := Lib.hid hdn; have HDF := Lib.hid hdf; clear h1 hrow hdn hdf; simp only [spotV, ptrV])
  refine bodyPost_ret (v := .tuple #[.agg #[.pointer (some ⟨A d, 0, none⟩), .string ⟨k.toArray⟩, .pointer none, .slice (some ⟨g, 0, none⟩) lg cc], .int .i64 6]) ?_ rfl ?_
  · have k0 := fun u0 u1 u2 u3 o => (fin4 H1.out.2.1 u0 u1 u2 u3 o).1
    have k1 := fun u0 u1 u2 u3 o => (fin4 H1.out.2.1 u0 u1 u2 u3 o).2.1
    have k2 := fun u0 u1 u2 u3 o => (fin4 H1.out.2.1 u0 u1 u2 u3 o).2.2.1
    have k3 := fun u0 u1 u2 u3 o => (fin4 H1.out.2.1 u0 u1 u2 u3 o).2.2.2
    simp [results, Tryz.results42, go_sem, k0, k1, k2, k3]
    try rfl
  · exact ⟨⟨_, _, _, _, _, rfl⟩, (below4 H1.out.1 _ _ _ _).alloc (by simp; omega) _⟩
set_option maxRecDepth 100000 in
set_option maxHeartbeats 4000000 in
theorem present_good {d : Pth} {k : Bz} {n : Nd} (hT : TreeAt w B N f 71 tl T A M V) (h0 : T [] = some r0) (hr0 : r0.file = false) (hp : PathOk p) (hE : findE T p = 0) (hL : findL p = d ++ [k]) (hn : T (d ++ [k]) = some n) :
    Calls Tryz.prog 37 #[.pointer (some ⟨f, 0, none⟩), .string p] w fun e w' => (∃ g c l, e = .returned (.tuple #[spotV (.pointer (some ⟨A d, 0, none⟩)) ⟨k.toArray⟩ (.pointer (some ⟨A (d ++ [k]), 0, none⟩)) (.slice g l c), .int .i64 0])) ∧ Below w.heap.size w w' := by
  have HB := Lib.hid (find_good (alloc_tree hT box0) h0 hr0 hp hE hL)
  have hk : kidsOf T A d k = some (A (d ++ [k])) := by unfold kidsOf; rw [hn]; rfl
  rw [hk] at HB
  obtain ⟨lg, hlg⟩ : ∃ lg, (d ++ [k]).length = lg := ⟨_, rfl⟩
  rw [hlg] at HB
  obtain ⟨na, hna⟩ : ∃ na, A (d ++ [k]) = na := ⟨_, rfl⟩
  rw [hna] at HB ⊢
  clear hT h0 hr0 hp hE hn hk hna
  simp only [box0] at HB
  go_enter Tryz.func37, Tryz.ntmps37
  go_wp2_with (go_at_call 33; refine HB.out.mono ?_; rintro e w1 ⟨dn, g, cc, hdn, hdf, rfl, hrow, h1⟩; have H1 := Lib.hid (pres_box h1); obtain ⟨q0, q1, q2, q3, u0, u1, u2, u3⟩ := box_facts H1.out.2.1; have hlw := H1.out.2.2; have hnw := Nat.ne_of_lt hlw; have HDN := Lib.hid hdn; have HDF := Lib.hid hdf; clear h1 hrow hdn hdf; simp only [spotV, ptrV])
  refine bodyPost_ret (v := .tuple #[.agg #[.pointer (some ⟨A d, 0, none⟩), .string ⟨k.toArray⟩, .pointer (some ⟨na, 0, none⟩), .slice (some ⟨g, 0, none⟩) lg cc], .int .i64 0]) ?_ rfl ?_
  · have k0 := fun u0 u1 u2 u3 o => (fin4 H1.out.2.1 u0 u1 u2 u3 o).1
    have k1 := fun u0 u1 u2 u3 o => (fin4 H1.out.2.1 u0 u1 u2 u3 o).2.1
    have k2 := fun u0 u1 u2 u3 o => (fin4 H1.out.2.1 u0 u1 u2 u3 o).2.2.1
    have k3 := fun u0 u1 u2 u3 o => (fin4 H1.out.2.1 u0 u1 u2 u3 o).2.2.2
    simp [results, Tryz.results42, go_sem, k0, k1, k2, k3]
    try rfl
  · exact ⟨⟨_, _, _, rfl⟩, (below4 H1.out.1 _ _ _ _).alloc (by simp; omega) _⟩
end
end Go.Proofs.YtcmjpkfinbakkaaGreatDoor.Vf

namespace Go.Proofs.YtcmjpkfinbakkaaGreatDoor.Vf
set_option maxRecDepth 100000
open Go.RowKit Go.Maps Go.ChangeMaps
set_option linter.unusedVariables false
section
variable {f : Nat} {p : ByteArray} {w : World} {B N : Nat} {tl : List Value} {T : Tr} {A : Pth → Nat} {M : Pth → Option Nat} {V : Pth → Value} {r0 : Nd}
theorem present_err (hT : TreeAt w B N f 71 tl T A M V) (h0 : T [] = some r0) (hr0 : r0.file = false) (hp : PathOk p) (hE : presE T p ≠ 0) :
    Calls Tryz.prog 37 #[.pointer (some ⟨f, 0, none⟩), .string p] w fun e w' => (∃ a b c d l, e = .returned (.tuple #[.agg #[.pointer a, .string b, .pointer none, .slice c l d], .int .i64 (presE T p)])) ∧ Below w.heap.size w w' := by
  by_cases h : findE T p = 0
  · cases hx : T (findL p) with
    | some n => exact absurd (by rw [presE, if_neg (fun e => e h), hx]; rfl) hE
    | none =>
      have : presE T p = 6 := by rw [presE, if_neg (fun e => e h), hx]; rfl
      rw [this]
      exact present_none hT h0 hr0 hp h hx
  · have : presE T p = findE T p := by rw [presE, if_pos h]
    rw [this]
    refine (present_bad1 hT h0 hr0 hp h).mono ?_
    rintro e w' ⟨rfl, h2⟩
    exact ⟨⟨none, ⟨#[]⟩, none, 0, 0, rfl⟩, h2⟩
theorem present_ok {n : Nd} (hT : TreeAt w B N f 71 tl T A M V) (h0 : T [] = some r0) (hr0 : r0.file = false) (hp : PathOk p) (hE : findE T p = 0) (hn : T (findL p) = some n) :
    Calls Tryz.prog 37 #[.pointer (some ⟨f, 0, none⟩), .string p] w fun e w' => (∃ a b c d l, e = .returned (.tuple #[.agg #[.pointer a, .string b, .pointer (some ⟨A (findL p), 0, none⟩), .slice c l d], .int .i64 0])) ∧ Below w.heap.size w w' := by
  rcases List.eq_nil_or_concat (findL p) with hL | ⟨d, k, hL⟩
  · refine (present_root hT h0 hr0 hp hE hL).mono ?_
    rintro e w' ⟨rfl, h2⟩
    rw [hL, hT.a0]
    exact ⟨⟨none, ⟨#[]⟩, none, 0, 0, rfl⟩, h2⟩
  · have hL : findL p = d ++ [k] := by rw [hL]; simp
    rw [hL] at hn
    refine (present_good hT h0 hr0 hp hE hL hn).mono ?_
    rintro e w' ⟨⟨g, c, l, rfl⟩, h2⟩
    rw [hL]
    exact ⟨⟨_, _, _, _, _, rfl⟩, h2⟩
end
end Go.Proofs.YtcmjpkfinbakkaaGreatDoor.Vf

namespace Go.Proofs.YtcmjpkfinbakkaaGreatDoor
open Go.RowKit Go.ChangeShapes Go.WideShapes
set_option linter.unusedVariables false
set_option maxRecDepth 100000

/-- Of what was there nothing but the blocks of S has turned. -/
structure Only (S : Nat → Prop) (w w' : World) : Prop where
  os : w'.os = w.os
  tape : w'.tape = w.tape
  output : w'.output = w.output
  size : w.heap.size ≤ w'.heap.size
  block : ∀ k, k < w.heap.size → ¬ S k → w'.heap[k]? = w.heap[k]?
theorem Only.refl (S : Nat → Prop) (w : World) : Only S w w := ⟨rfl, rfl, rfl, Nat.le_refl _, fun _ _ _ => rfl⟩
theorem Only.trans {S S' T : Nat → Prop} {a b c : World} (h : Only S a b) (k : Only S' b c) (hS : ∀ i, S i → T i) (hS' : ∀ i, i < a.heap.size → S' i → T i) : Only T a c :=
  ⟨k.os.trans h.os, k.tape.trans h.tape, k.output.trans h.output, Nat.le_trans h.size k.size, fun i hi hn =>
    (k.block i (Nat.lt_of_lt_of_le hi h.size) (fun e => hn (hS' i hi e))).trans (h.block i hi (fun e => hn (hS i e)))⟩
theorem Only.mono {S T : Nat → Prop} {a b : World} (h : Only S a b) (hS : ∀ i, S i → T i) : Only T a b := ⟨h.os, h.tape, h.output, h.size, fun i hi hn => h.block i hi (fun e => hn (hS i e))⟩
theorem Only.of_below {S : Nat → Prop} {a b : World} (h : Below a.heap.size a b) : Only S a b := ⟨h.os, h.tape, h.output, h.size, fun i hi _ => h.block i hi⟩
theorem Only.of_grown {S : Nat → Prop} {a b : World} {row : Option Nat} (h : a.grownBy b row) (hr : ∀ k, row = some k → S k) : Only S a b :=
  ⟨h.os, h.tape, h.output, h.size, fun i hi hn => h.block i hi (fun e => hn (hr i e.symm))⟩
theorem Only.below {S : Nat → Prop} {a b : World} {B : Nat} (h : Only S a b) (hS : ∀ k, S k → B ≤ k) (hB : B ≤ a.heap.size) : Below B a b :=
  ⟨h.os, h.tape, h.output, h.size, fun i hi => h.block i (by omega) (fun e => by have := hS i e; omega)⟩

theorem below_drewN {a w : World} (h : Below a.heap.size a w) (n : Nat) : Below a.heap.size a (w.drewN n) := ⟨h.os, h.tape, h.output, h.size, h.block⟩
theorem drew_below (w : World) (n : Nat) : Below w.heap.size w (w.drewN n) := below_drewN (Below.refl _ w) n
theorem addn (b off k : Nat) : (⟨b, off, none⟩ : Addr).add k = ⟨b, off + k, none⟩ := by unfold Addr.add; split <;> simp_all
theorem wpList_run_append {P : Program} (w : World) {ops : Array Oper} {rest : List Oper} {o : Oper} {a : Act} {Q : Exit → Act → World → Prop} (hgd : o.guard = none) (d s : Operand) (t t' : TypeId)
    (ho : o.op = .call { callee := .builtin .append, args := #[d, s], argTypes := #[t, t'] }) (v u : Value) (hd : a.eval d = v) (hs : a.eval s = u) {v' : Value} {w' : World}
    (hr : (Builtin.append_ #[t, t'] o.type #[v, u]).run P w = .ok v' w') (h : wpList P ops Q rest (a.put o.dst v') w') : wpList P ops Q (o :: rest) a w := by
  refine wpList_plain hgd fun K hK => ?_
  unfold Oper.wp
  simp [execOp, ho, resolve, invoke, builtin, hd, hs, hr, Result.andThen]
  exact hK _ _ h
/-- Strings, to be read behind v. -/
structure Txt (w : World) (v : Value) (l : List ByteArray) : Prop where
  form : ∃ a c, v = .slice a l.length c ∧ ∀ i (h : i < l.length), ∃ b off, a = some ⟨b, off, none⟩ ∧ b < w.heap.size ∧ w.cell? ⟨b, off + i, none⟩ = some (.string l[i])
theorem Txt.below {w w' : World} {v : Value} {l : List ByteArray} (h : Txt w v l) (hb : Below w.heap.size w w') : Txt w' v l := by
  obtain ⟨a, c, h1, h2⟩ := h.form
  refine ⟨a, c, h1, fun i hi => ?_⟩
  obtain ⟨b, off, e1, e2, e3⟩ := h2 i hi
  exact ⟨b, off, e1, Nat.lt_of_lt_of_le e2 hb.size, (hb.cell (p := ⟨b, _, none⟩) e2).trans e3⟩
theorem open_strs {H : Type} {enc : TypeId × Value → H} {base : Nat} {W : World} {v : Value} {d : DataW H} {p : List MemPlace}
    (hv : Value.okWide Tryz.prog W .any base 22 v) (h : DataW.Trod enc Tryz.prog W 0 (fun _ => true) true 22 v d p) : ∃ l, Txt W v l ∧ l.length ≤ maxLen ∧ ∀ x ∈ l, x.size ≤ maxLen := by
  obtain ⟨a0, len, cap, rfl⟩ := okWide_slice Tryz.underlying22 hv
  obtain ⟨fuel, hf⟩ := h
  have hf2 : DataW.trod enc Tryz.prog W 0 (fun _ => true) true fuel 22 [.slice a0 len cap] = some (d, p) := hf
  have c9 : Tryz.prog.cellsOf 9 = 1 := by kernel_rfl
  have u9 : Tryz.prog.underlying 9 = some .string := by kernel_rfl
  rcases Go.Deep.open_slice Tryz.underlying22 hf2 with ⟨h0, _⟩ | ⟨a, len', cap', m, n, D, Pl, h0, hb, hl, hm, hmm, _, hx⟩
  · simp at h0
    obtain ⟨rfl, rfl, rfl⟩ := h0
    exact ⟨[], ⟨none, 0, rfl, fun i hi => absurd hi (by simp)⟩, by simp, by simp⟩
  · simp at h0
    obtain ⟨rfl, rfl, rfl⟩ := h0
    have each : ∀ i, i < len → ∃ q : ByteArray, W.cell? (a.add i) = some (.string q) ∧ q.size ≤ maxLen := by
      intro i hi
      have him : i < m := by rw [hmm]; split <;> omega
      obtain ⟨cs', h1, h2⟩ := hx i him
      rw [c9, Nat.mul_one] at h1
      obtain ⟨_, hlen, hcell⟩ := World.cells?_some h1
      match cs', hlen with
      | [u], _ =>
        obtain ⟨s1, e1, _, z1⟩ := DataW.trod_string u9 h2
        have := hcell 0 (by omega)
        simp at e1
        subst e1
        exact ⟨s1, by simpa [Addr.add] using this, z1⟩
    obtain ⟨q, hq⟩ := Go.Deep.choose_lt each
    have hlen : ((List.range len).map q).length = len := by simp
    refine ⟨(List.range len).map q, ⟨some a, cap, by rw [hlen], fun k hk => ?_⟩, by rw [hlen]; omega, fun x hx => ?_⟩
    · rw [hlen] at hk
      obtain ⟨h1, h2⟩ := hq k hk
      have hb : a.block < W.heap.size := by
        have := World.block_lt_of_cell? W _ h1
        revert this
        unfold Addr.add
        split <;> exact id
      have hs : a.spot = none := World.cell?_spot (a := a) (by simpa [Addr.add] using (hq 0 (by omega)).1)
      obtain ⟨b, off, sp⟩ := a
      simp only at hs
      subst hs
      rw [addn] at h1
      have e : ((List.range len).map q)[k]'(by rw [hlen]; exact hk) = q k := by simp
      rw [e]
      exact ⟨b, off, rfl, hb, h1⟩
    · obtain ⟨i, hi, rfl⟩ := List.mem_map.1 hx
      exact (hq i (List.mem_range.1 hi)).2
/-- Strings in a row of the call's own. -/
structure Wn (w0 w : World) (v : Value) (l : List ByteArray) : Prop where
  own : w.ownsRow w0.heap.size 9 1 v l.length (l.map .string)
  old : Below w0.heap.size w0 w
theorem info9 : (Tryz.prog.info? 9).map (fun i => (i.zero, i.size, i.bytes)) = some (some (.string ⟨#[]⟩), 1, 16) := by kernel_rfl
theorem Wn.push {w0 w : World} {v : Value} {l : List ByteArray} (h : Wn w0 w v l) (hl : l.length ≤ 90000) (x : ByteArray) :
    ∃ v' w', (Builtin.append_ #[22, 22] 22 #[v, .slice (some ⟨w.heap.size, 0, none⟩) 1 1]).run Tryz.prog (w.alloc (.cells #[.string x] 9)) = .ok v' w' ∧ Wn w0 w' v' (l ++ [x]) := by
  obtain ⟨i0, hi, hz0, hz1, hz2⟩ := info_parts info9
  have hw0 : Below w.heap.size w (w.alloc (.cells #[.string x] 9)) := (Below.refl _ _).alloc (Nat.le_refl _) _
  have hown : (w.alloc (.cells #[.string x] 9)).ownsRow w0.heap.size 9 1 v l.length (l.map .string) := h.own.alloc _
  obtain ⟨v', w', h2, h3, h4, h5⟩ := run_append_own (P := Tryz.prog) (w.alloc (.cells #[.string x] 9)) w0.heap.size 22 22 9 i0 _ 1 16 Tryz.underlying22 hi hz0 hz1 hz2 rfl (by decide) v l.length _ hown ⟨w.heap.size, 0, none⟩ 1 1 [.string x] rfl
    (fun j u hj => by
      match j, hj with
      | 0, hj => simp at hj; subst hj; rw [addn]; simp only [World.cell?, heap_alloc_new w]; rfl) (by
      intro u hu
      simp at hu; subst hu
      rfl) (by unfold maxLen; omega) (by omega) (by have := h.old.size; have := hw0.size; omega)
  refine ⟨v', w', h2, by rw [List.map_append, List.length_append]; exact h3, ?_⟩
  exact h.old.trans ((hw0.mono h.old.size).trans ((Only.of_grown (S := fun i => v.ownBlock = some i) h4 (fun k hk => hk)).below (fun k hk => (hown.lt k hk).1) (by have := h.old.size; have := hw0.size; omega)))
theorem Wn.below {w0 w w' : World} {v : Value} {l : List ByteArray} (h : Wn w0 w v l) (hb : Below w.heap.size w w') : Wn w0 w' v l := by
  refine ⟨⟨h.own.1, ?_⟩, h.old.trans (hb.mono h.old.size)⟩
  rcases h.own.2 with h1 | ⟨b, cap, cur, rfl, h2, h3, h4⟩
  · exact .inl h1
  · exact .inr ⟨b, cap, cur, rfl, h2, (hb.block b (Array.getElem?_eq_some_iff.1 h3).1).trans h3, h4⟩
theorem Wn.nil (w0 : World) : Wn w0 w0 (.slice none 0 0) [] := ⟨World.ownsRow_nil _ _ _ _, Below.refl _ _⟩
theorem Wn.txt {w0 w : World} {v : Value} {l : List ByteArray} (h : Wn w0 w v l) : Txt w v l := by
  rcases h.own.2 with ⟨h1, h0⟩ | ⟨b, cap, cur, rfl, h2, h3, h4⟩
  · exact ⟨none, 0, by rw [h0]; exact h1, fun i hi => by omega⟩
  · refine ⟨_, cap, rfl, fun i hi => ⟨b, 0, rfl, (Array.getElem?_eq_some_iff.1 h3).1, ?_⟩⟩
    rw [Nat.zero_add, World.ownsRow.cellAt h.own i (by omega), List.getElem?_map, List.getElem?_eq_getElem hi]; rfl
theorem one_txt (w : World) (x : ByteArray) : Txt (w.alloc (.cells #[.string x] 9)) (.slice (some ⟨w.heap.size, 0, none⟩) 1 1) [x] :=
  ⟨_, 1, rfl, fun i hi => by
    obtain rfl : i = 0 := by simpa using hi
    exact ⟨w.heap.size, 0, rfl, by simp, by simp only [World.cell?, heap_alloc_new w]; rfl⟩⟩

theorem Txt.lie {w : World} {a : Option Addr} {c : Nat} {L : List ByteArray} (h : Txt w (.slice a L.length c) L) {k : Nat} (hk : k < L.length) :
    ∃ b off, a = some ⟨b, off, none⟩ ∧ ∀ i (hi : i < L.length), w.cell? ⟨b, off + i, none⟩ = some (.string L[i]) := by
  obtain ⟨a', c', e1, h2⟩ := h.form
  injection e1 with e2 _ e3
  subst e2
  obtain ⟨b, off, ea, _, _⟩ := h2 k hk
  refine ⟨b, off, ea, fun i hi => ?_⟩
  obtain ⟨b', off', eb, _, hc⟩ := h2 i hi
  rw [ea] at eb
  injection eb with eb
  injection eb with e4 e5 _
  rw [e4, e5]; exact hc
theorem own_below {w w' : World} {B e sz n : Nat} {v : Value} {xs : List Value} (h : w.ownsRow B e sz v n xs) (hb : Below w.heap.size w w') : w'.ownsRow B e sz v n xs := by
  refine ⟨h.1, ?_⟩
  rcases h.2 with h1 | ⟨b, cap, cur, rfl, h2, h3, h4⟩
  · exact .inl h1
  · exact .inr ⟨b, cap, cur, rfl, h2, (hb.block b (Array.getElem?_eq_some_iff.1 h3).1).trans h3, h4⟩
theorem Only.set {S : Nat → Prop} {a w : World} (h : Only S a w) {g : Nat} (hg : S g ∨ a.heap.size ≤ g) (i : Nat) (u : Value) : Only S a (w.setCell ⟨g, i, none⟩ u) :=
  ⟨h.os, h.tape, h.output, by simpa using h.size, fun k hk hn => (Below.heap_setCell _ _ _ _ (by intro e; have e : k = g := e; subst e; rcases hg with e | e; exact hn e; omega)).trans (h.block k hk hn)⟩
section
variable {w : World} {a : Nat} {cs : List Value} {ty : TypeId}
theorem cell_of (hb : w.heap[a]? = some (.cells cs.toArray ty (0, 0))) (i : Nat) : w.cell? ⟨a, i, none⟩ = cs[i]? := by
  simp only [World.cell?, hb]; simp
theorem free_of (hb : w.heap[a]? = some (.cells cs.toArray ty (0, 0))) (i : Nat) : w.frozen? ⟨a, i, none⟩ = false := by
  simp [World.frozen?, hb]
theorem set_of (hb : w.heap[a]? = some (.cells cs.toArray ty (0, 0))) (i : Nat) (v : Value) : (w.setCell ⟨a, i, none⟩ v).heap[a]? = some (.cells (cs.set i v).toArray ty (0, 0)) := by
  have h1 : (w.heap.modify a fun | .cells c elem frozen => Obj.cells (if (none : Option Nat).isSome then c else c.setIfInBounds i v) elem frozen | o => o)[a]? = some (.cells (cs.set i v).toArray ty (0, 0)) := by
    rw [Array.getElem?_modify, if_pos rfl, hb]; simp
  exact h1
theorem blk_lt (hb : w.heap[a]? = some (.cells cs.toArray ty (0, 0))) : a < w.heap.size := (Array.getElem?_eq_some_iff.1 hb).1
end

abbrev Bz := List UInt8
def u8s (l : Bz) : List Value := l.map fun c => .int .u8 c.toNat
theorem u8s_len (l : Bz) : (u8s l).length = l.length := List.length_map ..
theorem u8s_app (l m : Bz) : u8s (l ++ m) = u8s l ++ u8s m := List.map_append
theorem u8s_one (l : Bz) : ∀ u ∈ u8s l, u.oneCell' = true := fun u hu => by
  obtain ⟨c, _, rfl⟩ := List.mem_map.1 hu
  rfl
theorem u8s_at {l : Bz} {j : Nat} (h : j < l.length) : (u8s l)[j]? = some (.int .u8 (l[j].toNat : Int)) := by
  unfold u8s
  rw [List.getElem?_map, List.getElem?_eq_getElem h]; rfl
theorem info5 : (Tryz.prog.info? 5).map (fun i => (i.zero, i.size, i.bytes)) = some (some (.int .u8 0), 1, 1) := by kernel_rfl
theorem row_only {w w' : World} {B n : Nat} {v : Value} {xs : List Value} (h : w.ownsRow B 5 1 v n xs) (hb : ∀ g, v.ownBlock = some g → g < w.heap.size → w'.heap[g]? = w.heap[g]?) : w'.ownsRow B 5 1 v n xs := by
  refine ⟨h.1, ?_⟩
  rcases h.2 with hn | ⟨g, cap, cur, rfl, h1, h2, r⟩
  · exact .inl hn
  · exact .inr ⟨g, cap, cur, rfl, h1, (hb g rfl (Array.getElem?_eq_some_iff.1 h2).1).trans h2, r⟩
theorem row_lt {w : World} {B n : Nat} {v : Value} {xs : List Value} (h : w.ownsRow B 5 1 v n xs) {g : Nat} (hg : v.ownBlock = some g) : g < w.heap.size := by
  rcases h.2 with ⟨rfl, _⟩ | ⟨g', cap, cur, rfl, h1, h2, r⟩
  · cases hg
  · cases hg
    exact (Array.getElem?_eq_some_iff.1 h2).1

end Go.Proofs.YtcmjpkfinbakkaaGreatDoor

namespace Go.Proofs.YtcmjpkfinbakkaaGreatDoor
open Go Go.RowKit

section
variable {P : Program} {ops : Array Oper} {md : Region.Mode} {C : World → Prop}

/-- The first operations, in whatever order, each quiet in the class; then what L says. -/
def headQ (P : Program) (md : Region.Mode) (ops : Array Oper) (C : World → Prop) (n : Nat) (L : Array Bool → Act → Prop) : Nat → Array Bool → Act → Prop
  | 0, listed, a => L listed a
  | f + 1, listed, a =>
    Region.ready md ops listed ≠ [] ∧ ∀ i ∈ Region.ready md ops listed, i < n ∧ qOp P ops C i (headQ P md ops C n L f (listed.setIfInBounds i true)) a

theorem wpAny_of_headQ {n g : Nat} {L : Array Bool → Act → Prop} {Q' : Exit → Act → World → Prop} (hL : ∀ listed a w, C w → L listed a → wpAny P md ops Q' g listed a w) :
    ∀ (f : Nat) (listed : Array Bool) (a : Act) (w : World), C w → headQ P md ops C n L f listed a → wpAny P md ops Q' (f + g) listed a w
  | 0, listed, a, w, hw, h => by rw [Nat.zero_add]; exact hL _ _ _ hw h
  | f + 1, listed, a, w, hw, h => by
    rw [show f + 1 + g = (f + g) + 1 by omega]
    exact ⟨fun h0 => absurd h0 h.1, fun i hi => wpOp_of_qOp hw (fun a' w' hw' h' => wpAny_of_headQ hL f _ a' w' hw' h') (h.2 i hi).2⟩

theorem headQ_first {n i : Nat} {oi : Oper} {v : Value} {L : Array Bool → Act → Prop} (hi : ops[i]? = some oi) (hsel : ∀ (j : Nat) (o : Oper) cs b, ops[j]? = some o → o.op ≠ .select cs b)
    (hs : Region.sinkB md ops n = true) (hc : Region.chainB md ops n = true) (hn : n < ops.size) (hin : i < n)
    (hdone : ∀ listed a, L listed a → ∀ j ∈ Region.ready md ops listed, n ≤ j) :
    ∀ (f : Nat) (listed : Array Bool) (a : Act), HeadInv md ops n listed →
      (∀ j oj, ops[j]? = some oj → j ≠ i → listed.getD j true = false → (∀ e ∈ oj.after, Region.binds md e = true → e.on ≠ i) → oi.apart ops oj = true) →
      i ∈ Region.ready md ops listed → YieldsIn P ops C oi v a →
      headQ P md ops C n L f (listed.setIfInBounds i true) (a.put oi.dst v) → headQ P md ops C n L (f + 1) listed a := by
  intro f
  induction f with
  | zero =>
    intro listed a inv _ hr hy H
    have hun := (mem_ready.1 hr).1
    refine ⟨fun h => (by rw [h] at hr; cases hr), fun j hj => ?_⟩
    have hjn : j < n := Nat.lt_of_not_le fun h => tail_waits hs hc hn inv _ i rfl hin hun j h hj
    refine ⟨hjn, ?_⟩
    by_cases hji : j = i
    · subst hji; exact hy.qOp hi H
    · have := hdone _ _ H j (ready_mono hj hji)
      omega
  | succ f ih =>
    intro listed a inv hfree hr hy H
    have hun := (mem_ready.1 hr).1
    refine ⟨fun h => (by rw [h] at hr; cases hr), fun j hj => ?_⟩
    have hjn : j < n := Nat.lt_of_not_le fun h => tail_waits hs hc hn inv _ i rfl hin hun j h hj
    refine ⟨hjn, ?_⟩
    by_cases hji : j = i
    · subst hji; exact hy.qOp hi H
    · have h1 := (H.2 j (ready_mono hj hji)).2
      obtain ⟨hjun, oj, hoj, hall⟩ := mem_ready.1 hj
      have hnot : ∀ e ∈ oj.after, Region.binds md e = true → e.on ≠ i := fun e he hb heq => by
        have h5 := hall e he hb
        rw [heq, getD_both hun] at h5
        cases h5
      have h2 := qOp_put hoj (hfree j oj hoj hji hjun hnot) (fun cs b => hsel i oi cs b hi) (fun cs b => hsel j oj cs b hoj) hy h1
      refine qOp_mono (fun a' h3 => ih (listed.setIfInBounds j true) a' (inv.set hj hjn) (fun k ok hk hki hun' hno => ?_) (ready_mono hr (Ne.symm hji)) h3.1 ?_) h2
      · refine hfree k ok hk hki ?_ hno
        by_cases hjk : j = k
        · subst hjk; exact hjun
        · rwa [getD_set_ne true hjk] at hun'
      · rw [Array.setIfInBounds_comm _ _ hji]
        exact h3.2

theorem headQ_lex {n g : Nat} {Lq : Act → Prop} (hsel : Region.noSelect ops = true) (hs : Region.sinkB md ops n = true) (hc : Region.chainB md ops n = true) (hn : n < ops.size) :
    ∀ (l : List Oper) (k : Nat) (listed : Array Bool) (a : Act), (∀ j, j < l.length → l[j]? = ops[k + j]?) → k + l.length = n → HeadInv md ops n listed →
    Region.lexHead md ops g l.length k listed = true → wpQuiet P ops C Lq l a →
    headQ P md ops C n (fun listed' a' => Region.seqB md ops g n listed' = true ∧ Lq a') l.length listed a
  | [], k, listed, a, _, hk, _, hB, h => by
    obtain rfl : k = n := by simpa using hk
    exact ⟨by simpa [Region.lexHead] using hB, h⟩
  | o :: l, k, listed, a, hl, hk, inv, hB, h => by
    have h0 : ops[k]? = some o := by simpa using (hl 0 (by simp)).symm
    simp only [List.length_cons, Region.lexHead, Bool.and_eq_true] at hB
    obtain ⟨⟨hr, hf⟩, hB'⟩ := hB
    have hkn : k < n := by simp only [List.length_cons] at hk; omega
    have hr' : k ∈ Region.ready md ops listed := by simpa using hr
    have hst : qOp P ops C k (wpQuiet P ops C Lq l) a := by unfold qOp; simp only [h0]; exact h
    obtain ⟨v, hy, hK⟩ := yieldsIn_of_qOp h0 hst
    exact headQ_first h0 (Region.noSelect_spec hsel) hs hc hn hkn (fun listed' a' hL => seqB_ready hL.1) l.length listed a inv (Region.free_spec h0 hf) hr' hy
      (headQ_lex hsel hs hc hn l (k + 1) _ _ (fun j hj => by have := hl (j + 1) (by simp; omega); simpa [Nat.add_assoc, Nat.add_comm 1 j] using this) (by simp only [List.length_cons] at hk; omega) (inv.set hr' hkn) hB' hK)

/-- A region whose first n operations are quiet in the class C, and whose others come behind all of these, one by one. -/
theorem wp_region_quiet_tail {id : Nat} {Q : Exit → Act → World → Prop} {a : Act} {w : World} {l : List Oper} (n : Nat) (C : World → Prop) (hm : P.follows .mixedOrders = true) (hB : Region.lexTailB .any l.toArray n = true)
    (hC : C { w with drawn := w.drawn + 1 })
    (h : wpQuiet P l.toArray C (fun a' => ∀ w', C w' → wpList P l.toArray Q (l.drop n) a' w') (l.take n) a) : (Code.region id l.toArray true).wp P Q a w := by
  simp only [Region.lexTailB, Bool.and_eq_true, decide_eq_true_eq] at hB
  obtain ⟨⟨⟨⟨hsel, hn⟩, hs⟩, hc⟩, hlex⟩ := hB
  have hn' : n < l.length := by simpa using hn
  have htl : (l.take n).length = n := by simp; omega
  have hdl : (l.drop n).length = l.toArray.size - n := by simp
  have inv0 : HeadInv .any l.toArray n (Array.replicate l.toArray.size false) :=
    ⟨by simp, fun j oj _ hl => (by rw [getD_replicate_false] at hl; cases hl), fun t _ ht => getD_in (by simpa using ht) (getD_replicate_false _ _)⟩
  have H := headQ_lex (md := .any) (C := C) (g := l.toArray.size - n) hsel hs hc hn (l.take n) 0 _ a (fun j hj => by
    have hj' : j < n := by rw [htl] at hj; exact hj
    simp [hj']) (by simpa using htl) inv0 (by rw [htl]; exact hlex) h
  refine wp_region_any hm ?_
  have := wpAny_of_headQ (C := C) (Q' := Q) (g := l.toArray.size - n) (fun listed a' w' hw' hL => by
    have := wpAny_of_seq (md := .any) (Q' := Q) (l.drop n) n listed a' w' (fun j => by simp [List.getElem?_drop]) (by rw [hdl]; exact hL.1) (hL.2 w' hw')
    rwa [hdl] at this) _ _ _ _ hC H
  rw [htl, show n + (l.toArray.size - n) = l.toArray.size by omega] at this
  exact this
end

/-- The worlds that are as W below W's heap. -/
structure Bw (W : World) where
  v : World
  h : Below W.heap.size W v
instance (W : World) : Nonempty (Bw W) := ⟨⟨W, Below.refl _ _⟩⟩
def bwC (W w' : World) : Prop := ∃ b : Bw W, w' = b.v
theorem bwC_drawn (W : World) : (fun w' => ∃ b : Bw W, w' = b.v) { W with drawn := W.drawn + 1 } := ⟨⟨W.drewN 1, below_drewN (Below.refl _ _) 1⟩, rfl⟩
end Go.Proofs.YtcmjpkfinbakkaaGreatDoor
