import Derived.Test.YtcmjpkfinbakkaaGreatDoorWVL
import Derived.Test.YtcmjpkfinbakkaaGreatDoorWE
import Derived.Lib.SlBytesConst
import Derived.Lib.SmallJoins
import Derived.Test.YtcmjpkfinbakkaaGreatDoorFU
import Derived.Test.YtcmjpkfinbakkaaGreatDoorGAC
namespace Go.Proofs.YtcmjpkfinbakkaaGreatDoor.Vf
set_option maxRecDepth 100000
open Go.RowKit Go.Maps Go.ChangeMaps
set_option linter.unusedVariables false
theorem Fs.below {w w' : World} {B N f : Nat} {c : Cn} {T : Tr} {F : Nat → Prop} (h : Fs w B N f c T F) (hb : Below w.heap.size w w') : Fs w' B N f c T F := by
  obtain ⟨A, M, V, h1, h2, h3⟩ := h
  exact ⟨A, M, V, h1.only (X := fun _ => False) (Only.of_below hb) (fun _ h => h.elim), h2, h3⟩
theorem MutP.after {w w1 w' : World} {B N f : Nat} {F : Nat → Prop} {er : Int} {T : Tr} {c : Cn} {e : Ending} (hb : Below w.heap.size w w1) (h : MutP w1 B N f F er T c e w') : MutP w B N f F er T c e w' := by
  obtain ⟨h1, ⟨A, M, V, h2, h3, h4⟩, h5⟩ := h
  exact ⟨h1, ⟨A, M, V, h2, fun j hj => (h3 j hj).imp id (fun h => Nat.le_trans hb.size h), h4⟩, (Only.of_below (S := F) hb).trans h5 (fun _ h => h) (fun _ _ h => h)⟩
section
variable {w : World} {B N f : Nat} {c : Cn} {T : Tr} {F : Nat → Prop} {p : ByteArray}
set_option maxRecDepth 100000 in
set_option maxHeartbeats 4000000 in
theorem Touch_bad (hF : Fs w B N f c T F) (hp : PathOk p) (hE : findE T p ≠ 0) : Calls Tryz.prog 61 #[.pointer (some ⟨f, 0, none⟩), .string p] w (MutP w B N f F (findE T p) T c) := by
  obtain ⟨A, M, V, hT, hft, r0, h0, hr0⟩ := hF
  have HF : Hid (Fs w B N f c T F) := ⟨A, M, V, hT, hft, r0, h0, hr0⟩
  have HB := Lib.hid (find_bad (w := w) hT h0 hr0 hp hE)
  obtain ⟨er, her⟩ : ∃ er, findE T p = er := ⟨_, rfl⟩
  rw [her] at HB hE ⊢
  obtain ⟨Q, hQ⟩ : ∃ Q, MutP w B N f F er T c = Q := ⟨_, rfl⟩
  rw [hQ]
  have HQ := Lib.hid hQ
  have hne : (er != 0) = true := by simpa using hE
  clear hT hft h0 hr0 hQ hp hE her
  go_enter Tryz.func61, Tryz.ntmps61
  go_wp2_with (go_at_call 33; refine HB.out.mono ?_; rintro e w1 ⟨rfl, h1⟩; have H1 := Lib.hid h1; clear h1; simp only [spot0, spotV])
  rw [← HQ.out]
  exact MutP.same HF.out (H1.out.alloc H1.out.size _)
set_option maxRecDepth 100000 in
set_option maxHeartbeats 4000000 in
theorem Touch_root (hF : Fs w B N f c T F) (hp : PathOk p) (hE : findE T p = 0) (hL : findL p = []) : Calls Tryz.prog 61 #[.pointer (some ⟨f, 0, none⟩), .string p] w (MutP w B N f F 0 T c) := by
  obtain ⟨A, M, V, hT, hft, r0, h0, hr0⟩ := hF
  have HF : Hid (Fs w B N f c T F) := ⟨A, M, V, hT, hft, r0, h0, hr0⟩
  have HB := Lib.hid (find_root (w := w) hT h0 hr0 hp hE hL)
  obtain ⟨Q, hQ⟩ : ∃ Q, MutP w B N f F 0 T c = Q := ⟨_, rfl⟩
  rw [hQ]
  have HQ := Lib.hid hQ
  clear hT hft h0 hr0 hQ hp hE
  go_enter Tryz.func61, Tryz.ntmps61
  go_wp2_with (go_at_call 33; refine HB.out.mono ?_; rintro e w1 ⟨rfl, h1⟩; have H1 := Lib.hid h1; clear h1; simp only [spot0, spotV])
  rw [← HQ.out]
  exact MutP.same HF.out (H1.out.alloc H1.out.size _)
set_option maxRecDepth 100000 in
set_option maxHeartbeats 4000000 in
theorem Touch_old {n : Nd} (hF : Fs w B N f c T F) (hp : PathOk p) (hc : c.Ok) (hE : findE T p = 0) (hL : findL p ≠ []) (hn : T (findL p) = some n) :
    Calls Tryz.prog 61 #[.pointer (some ⟨f, 0, none⟩), .string p] w (MutP w B N f F 0 (setF T (findL p) (some { n with time := c.clock + 1 })) { c with clock := c.clock + 1 }) := by
  obtain ⟨A, M, V, hT, hft, r0, h0, hr0⟩ := hF
  obtain ⟨Q, hQ⟩ : ∃ Q, MutP w B N f F 0 (setF T (findL p) (some { n with time := c.clock + 1 })) { c with clock := c.clock + 1 } = Q := ⟨_, rfl⟩
  rw [hQ]
  have HT := Lib.hid hT
  have H0 := Lib.hid h0
  have HFT := Lib.hid hft
  rcases List.eq_nil_or_concat (findL p) with hL2 | ⟨d, k, hL2⟩
  · exact absurd hL2 hL
  have hL2 : findL p = d ++ [k] := by rw [hL2]; simp
  rw [hL2] at hQ hn
  have HQ := Lib.hid hQ
  have HN := Lib.hid hn
  have HB := Lib.hid (find_good (w := w) hT h0 hr0 hp hE hL2)
  obtain ⟨lg, hlg⟩ : ∃ lg, (d ++ [k]).length = lg := ⟨_, rfl⟩
  rw [hlg] at HB
  have hk : kidsOf T A d k = some (A (d ++ [k])) := by unfold kidsOf; rw [hn]; rfl
  rw [hk] at HB
  have HST := Lib.hid (fun (w : World) (hT : TreeAt w B N f 71 c.tl T A M V) => stamp_any hT h0 hn (by simp) hc.clock)
  obtain ⟨na, hna⟩ : ∃ na, A (d ++ [k]) = na := ⟨_, rfl⟩
  rw [hna] at HB HST
  have HNA := Lib.hid hna
  clear hT hft h0 hQ hp hE hL hL2 hn hk hna hc
  go_enter Tryz.func61, Tryz.ntmps61
  go_wp2_with (first
    | (go_at_call 33; refine HB.out.mono ?_; rintro e w1 ⟨dn, g, cc, hdn, hdf, rfl, hrow, h1⟩; have H1 := Lib.hid h1; clear h1 hrow hdn hdf; simp only [spotV, ptrV])
    | (go_at_call 36; refine (HST.out _ (HT.out.only (X := fun _ => False) (Only.of_below (H1.out.alloc H1.out.size _)) (fun _ h => h.elim))).mono ?_; rintro e w2 ⟨rfl, z1, z2⟩; have Z1 := Lib.hid z1; have Z2 := Lib.hid z2; clear z1 z2; simp only []))
  rw [← HQ.out]
  refine ⟨rfl, ⟨A, M, V, Z1.out.mono (Nat.le_succ N), fun j hj => .inl (HFT.out j (foot_setT (by rw [HN.out]; rfl) hj)), r0, ?_, hr0⟩, ?_⟩
  · rw [setF_other _ _ (by simp)]; exact H0.out
  · refine (Only.of_below (S := F) (H1.out.alloc H1.out.size _)).trans Z2.out (fun _ h => h) (fun j _ e => ?_)
    rcases e with e | e
    · rw [e]; exact HFT.out f ⟨[], r0, H0.out, .inl HT.out.a0⟩
    · rw [e]; exact HFT.out na ⟨d ++ [k], n, HN.out, .inl HNA.out⟩
set_option maxRecDepth 100000 in
set_option maxHeartbeats 4000000 in
theorem Touch_new (hF : Fs w B N f c T F) (hp : PathOk p) (hc : c.Ok) (hN : N < maxLen) (hB : B ≤ w.heap.size) (hE : findE T p = 0) (hn : T (findL p) = none) (hfull : ¬ c.nodes ≤ c.count) (hroom : c.size ≤ c.bytes) :
    Calls Tryz.prog 61 #[.pointer (some ⟨f, 0, none⟩), .string p] w (MutP w B N f F 0 (setF T (findL p) (some ⟨true, [], c.clock + 1⟩)) { c with count := c.count + 1, size := c.size + 0, clock := c.clock + 1 }) := by
  have HF := Lib.hid hF
  have HW := Lib.hid (fun (w' : World) (hw : B ≤ w'.heap.size) (hF : Fs w' B N f c T F) => Write_new w' p true hF hp hc hN hw hE hn [] none 0 ⟨none, 0, rfl, fun i h => absurd h (by simp)⟩ (fun a h => by cases h) (by simp) hfull (by simp; omega))
  simp only [List.length_nil] at HW
  obtain ⟨A, M, V, hT, hft, r0, h0, hr0⟩ := hF
  obtain ⟨Q, hQ⟩ : ∃ Q, MutP w B N f F 0 (setF T (findL p) (some ⟨true, [], c.clock + 1⟩)) { c with count := c.count + 1, size := c.size + 0, clock := c.clock + 1 } = Q := ⟨_, rfl⟩
  rw [hQ]
  have HQ := Lib.hid hQ
  rcases List.eq_nil_or_concat (findL p) with hL2 | ⟨d, k, hL2⟩
  · rw [hL2, h0] at hn; cases hn
  have hL2 : findL p = d ++ [k] := by rw [hL2]; simp
  have HB := Lib.hid (find_good (w := w) hT h0 hr0 hp hE hL2)
  obtain ⟨lg, hlg⟩ : ∃ lg, (d ++ [k]).length = lg := ⟨_, rfl⟩
  rw [hlg] at HB
  rw [hL2] at hn
  have hk : kidsOf T A d k = none := by unfold kidsOf; rw [hn]; rfl
  rw [hk] at HB
  clear hT hft h0 hQ hp hE hL2 hn hk hc
  go_enter Tryz.func61, Tryz.ntmps61
  go_wp2_with (first
    | (go_at_call 33; refine HB.out.mono ?_; rintro e w1 ⟨dn, g, cc, hdn, hdf, rfl, hrow, h1⟩; have H1 := Lib.hid h1; clear h1 hrow hdn hdf; simp only [spotV, ptrV])
    | (go_at_call 17; refine (HW.out _ (Nat.le_trans hB (H1.out.alloc H1.out.size _).size) (HF.out.below (H1.out.alloc H1.out.size _))).mono ?_; rintro e w2 hm; obtain ⟨rfl, _⟩ := id hm; have HM := Lib.hid hm; clear hm; simp only []))
  rw [← HQ.out]
  exact MutP.after (H1.out.alloc H1.out.size _) HM.out
end
end Go.Proofs.YtcmjpkfinbakkaaGreatDoor.Vf

namespace Go.Proofs.YtcmjpkfinbakkaaGreatDoor.Vf
set_option maxRecDepth 100000
open Go.RowKit Go.Maps Go.ChangeMaps
set_option linter.unusedVariables false
/-- What present says: the place of a node, or why there is none. -/
def presE (T : Tr) (p : ByteArray) : Int := if findE T p ≠ 0 then findE T p else if (T (findL p)).isSome then 0 else 6
def presD (A : Pth → Nat) (L : Pth) : Value := match L.reverse with
  | [] => .pointer none
  | _ :: r => .pointer (some ⟨A r.reverse, 0, none⟩)
section
variable {f : Nat} {p : ByteArray} {w : World} {B N : Nat} {tl : List Value} {T : Tr} {A : Pth → Nat} {M : Pth → Option Nat} {V : Pth → Value} {r0 : Nd}
theorem spot_box {w w1 : World} {v0 v1 v2 v3 u0 u1 u2 u3 : Value} (h1 : Below (w.alloc (.cells #[v0, v1, v2, v3] 74)).heap.size (w.alloc (.cells #[v0, v1, v2, v3] 74)) w1) : Below w.heap.size w (w1.alloc (.cells #[u0, u1, u2, u3] 74)) ∧ w1.heap[w.heap.size]? = some (.cells [v0, v1, v2, v3].toArray 74 (0, 0)) ∧ w.heap.size < w1.heap.size := by
  have s1 := h1.size
  have hz : (w.alloc (.cells #[v0, v1, v2, v3] 74)).heap.size = w.heap.size + 1 := by simp
  rw [hz] at s1
  refine ⟨(((Below.refl _ w).alloc (Nat.le_refl _) _).trans (h1.mono (by omega))).alloc (by omega) _, ?_, by omega⟩
  rw [h1.block _ (by omega)]
  exact heap_alloc_new w _
theorem alloc_tree (hT : TreeAt w B N f 71 tl T A M V) (o : Obj) : TreeAt (w.alloc o) B N f 71 tl T A M V := hT.only (X := fun _ => False) (Only.of_below ((Below.refl _ _).alloc (Nat.le_refl _) o)) (fun _ h => h.elim)
def box0 : Obj := .cells #[.pointer none, .string ⟨#[]⟩, .pointer none, .slice none 0 0] 74
theorem pres_box {w w1 : World} (h1 : Below (w.alloc box0).heap.size (w.alloc box0) w1) : Below w.heap.size w w1 ∧ w1.heap[w.heap.size]? = some (.cells [.pointer none, .string ⟨#[]⟩, .pointer none, .slice none 0 0].toArray 74 (0, 0)) ∧ w.heap.size < w1.heap.size := by
  have s1 := h1.size
  have hz : (w.alloc box0).heap.size = w.heap.size + 1 := by simp
  rw [hz] at s1
  refine ⟨((Below.refl _ w).alloc (Nat.le_refl _) _).trans (h1.mono (by omega)), ?_, by omega⟩
  rw [h1.block _ (by omega)]
  exact heap_alloc_new w _
theorem fin4 {w1 : World} {a : Nat} {v0 v1 v2 v3 : Value} (hb : w1.heap[a]? = some (.cells [v0, v1, v2, v3].toArray 74 (0, 0))) (u0 u1 u2 u3 : Value) (o : Obj) :
    (((((w1.setCell ⟨a, 0, none⟩ u0).setCell ⟨a, 1, none⟩ u1).setCell ⟨a, 2, none⟩ u2).setCell ⟨a, 3, none⟩ u3).alloc o).cell? ⟨a, 0, none⟩ = some u0 ∧
    (((((w1.setCell ⟨a, 0, none⟩ u0).setCell ⟨a, 1, none⟩ u1).setCell ⟨a, 2, none⟩ u2).setCell ⟨a, 3, none⟩ u3).alloc o).cell? ⟨a, 1, none⟩ = some u1 ∧
    (((((w1.setCell ⟨a, 0, none⟩ u0).setCell ⟨a, 1, none⟩ u1).setCell ⟨a, 2, none⟩ u2).setCell ⟨a, 3, none⟩ u3).alloc o).cell? ⟨a, 2, none⟩ = some u2 ∧
    (((((w1.setCell ⟨a, 0, none⟩ u0).setCell ⟨a, 1, none⟩ u1).setCell ⟨a, 2, none⟩ u2).setCell ⟨a, 3, none⟩ u3).alloc o).cell? ⟨a, 3, none⟩ = some u3 := by
  have hb4 := set_of (set_of (set_of (set_of hb 0 u0) 1 u1) 2 u2) 3 u3
  have hlt := blk_lt hb4
  have h5 := ((MapKept.heap_alloc ((((w1.setCell ⟨a, 0, none⟩ u0).setCell ⟨a, 1, none⟩ u1).setCell ⟨a, 2, none⟩ u2).setCell ⟨a, 3, none⟩ u3) o).2 a hlt).trans hb4
  exact ⟨cell_of h5 0, cell_of h5 1, cell_of h5 2, cell_of h5 3⟩
set_option maxRecDepth 100000 in
set_option maxHeartbeats 4000000 in
theorem present_bad1 (hT : TreeAt w B N f 71 tl T A M V) (h0 : T [] = some r0) (hr0 : r0.file = false) (hp : PathOk p) (hE : findE T p ≠ 0) :
    Calls Tryz.prog 37 #[.pointer (some ⟨f, 0, none⟩), .string p] w fun e w' => e = .returned (.tuple #[spot0, .int .i64 (findE T p)]) ∧ Below w.heap.size w w' := by
  have HB := Lib.hid (find_bad (alloc_tree hT box0) h0 hr0 hp hE)
  obtain ⟨er, her⟩ : ∃ er, findE T p = er := ⟨_, rfl⟩
  rw [her] at HB hE ⊢
  have hne : (er == 0) = false := by simpa using hE
  clear hT h0 hr0 hp hE her
  simp only [box0] at HB
  go_enter Tryz.func37, Tryz.ntmps37
  go_wp2_with (go_at_call 33; refine HB.out.mono ?_; rintro e w1 ⟨rfl, h1⟩; have H1 := Lib.hid (pres_box h1); obtain ⟨q0, q1, q2, q3, u0, u1, u2, u3⟩ := box_facts H1.out.2.1; have hlw := H1.out.2.2; have hnw := Nat.ne_of_lt hlw; clear h1; simp only [spot0, spotV])
  refine bodyPost_ret (v := .tuple #[spot0, .int .i64 er]) ?_ rfl ?_
  · have k0 := fun u0 u1 u2 u3 o => (fin4 H1.out.2.1 u0 u1 u2 u3 o).1
    have k1 := fun u0 u1 u2 u3 o => (fin4 H1.out.2.1 u0 u1 u2 u3 o).2.1
    have k2 := fun u0 u1 u2 u3 o => (fin4 H1.out.2.1 u0 u1 u2 u3 o).2.2.1
    have k3 := fun u0 u1 u2 u3 o => (fin4 H1.out.2.1 u0 u1 u2 u3 o).2.2.2
    simp [results, Tryz.results42, go_sem, k0, k1, k2, k3]
    try rfl
  · exact ⟨rfl, (below4 H1.out.1 _ _ _ _).alloc (by simp; omega) _⟩
set_option maxRecDepth 100000 in
set_option maxHeartbeats 4000000 in
theorem present_root (hT : TreeAt w B N f 71 tl T A M V) (h0 : T [] = some r0) (hr0 : r0.file = false) (hp : PathOk p) (hE : findE T p = 0) (hL : findL p = []) :
    Calls Tryz.prog 37 #[.pointer (some ⟨f, 0, none⟩), .string p] w fun e w' => e = .returned (.tuple #[spotV (.pointer none) ⟨#[]⟩ (.pointer (some ⟨f, 0, none⟩)) (.slice none 0 0), .int .i64 0]) ∧ Below w.heap.size w w' := by
  have HB := Lib.hid (find_root (alloc_tree hT box0) h0 hr0 hp hE hL)
  clear hT h0 hr0 hp hE
  simp only [box0] at HB
  go_enter Tryz.func37, Tryz.ntmps37
  go_wp2_with (go_at_call 33; refine HB.out.mono ?_; rintro e w1 ⟨rfl, h1⟩; have H1 := Lib.hid (pres_box h1); obtain ⟨q0, q1, q2, q3, u0, u1, u2, u3⟩ := box_facts H1.out.2.1; have hlw := H1.out.2.2; have hnw := Nat.ne_of_lt hlw; clear h1; simp only [spot0, spotV, ptrV])
  refine bodyPost_ret (v := .tuple #[spotV (.pointer none) ⟨#[]⟩ (.pointer (some ⟨f, 0, none⟩)) (.slice none 0 0), .int .i64 0]) ?_ rfl ?_
  · have k0 := fun u0 u1 u2 u3 o => (fin4 H1.out.2.1 u0 u1 u2 u3 o).1
    have k1 := fun u0 u1 u2 u3 o => (fin4 H1.out.2.1 u0 u1 u2 u3 o).2.1
    have k2 := fun u0 u1 u2 u3 o => (fin4 H1.out.2.1 u0 u1 u2 u3 o).2.2.1
    have k3 := fun u0 u1 u2 u3 o => (fin4 H1.out.2.1 u0 u1 u2 u3 o).2.2.2
    simp [results, Tryz.results42, go_sem, k0, k1, k2, k3]
    try rfl
  · exact ⟨rfl, (below4 H1.out.1 _ _ _ _).alloc (by simp; omega) _⟩
set_option maxRecDepth 100000 in
set_option maxHeartbeats 4000000 in
theorem present_none (hT : TreeAt w B N f 71 tl T A M V) (h0 : T [] = some r0) (hr0 : r0.file = false) (hp : PathOk p) (hE : findE T p = 0) (hn : T (findL p) = none) :
    Calls Tryz.prog 37 #[.pointer (some ⟨f, 0, none⟩), .string p] w fun e w' => (∃ a b c d l, e = .returned (.tuple #[.agg #[.pointer a, .string b, .pointer none, .slice c l d], .int .i64 6])) ∧ Below w.heap.size w w' := by
  rcases List.eq_nil_or_concat (findL p) with hL2 | ⟨d, k, hL2⟩
  · rw [hL2, h0] at hn; cases hn
  have hL2 : findL p = d ++ [k] := by rw [hL2]; simp
  have HB := Lib.hid (find_good (alloc_tree hT box0) h0 hr0 hp hE hL2)
  rw [hL2] at hn
  have hk : kidsOf T A d k = none := by unfold kidsOf; rw [hn]; rfl
  rw [hk] at HB
  obtain ⟨lg, hlg⟩ : ∃ lg, (d ++ [k]).length = lg := ⟨_, rfl⟩
  rw [hlg] at HB
  clear hT h0 hr0 hp hE hn hk
  simp only [box0] at HB
  go_enter Tryz.func37, Tryz.ntmps37
  go_wp2_with (go_at_call 33; refine HB.out.mono ?_; rintro e w1 ⟨dn, g, cc, hdn, hdf, rfl, hrow, h1⟩; have H1 := Lib.hid (pres_box h1); obtain ⟨q0, q1, q2, q3, u0, u1, u2, u3⟩ := box_facts H1.out.2.1; have hlw := H1.out.2.2; have hnw := Nat.ne_of_lt hlw; have HDN := Lib.hid hdn; have HDF := Lib.hid hdf; clear h1 hrow hdn hdf; simp only [spotV, ptrV])
  refine bodyPost_ret (v := .tuple #[.agg #[.pointer (some ⟨A d, 0, none⟩), .string ⟨k.toArray⟩, .pointer none, .slice (some ⟨g, 0, none⟩) lg cc], .int .i64 6]) ?_ rfl ?_
  · have k0 := fun u0 u1 u2 u3 o => (fin4 H1.out.2.1 u0 u1 u2 u3 o).1
    have k1 := fun u0 u1 u2 u3 o => (fin4 H1.out.2.1 u0 u1 u2 u3 o).2.1
    have k2 := fun u0 u1 u2 u3 o => (fin4 H1.out.2.1 u0 u1 u2 u3 o).2.2.1
    have k3 := fun u0 u1 u2 u3 o => (fin4 H1.out.2.1 u0 u1 u2 u3 o).2.2.2
    simp [results, Tryz.results42, go_sem, k0, k1, k2, k3]
    try rfl
  · exact ⟨⟨_, _, _, _, _, rfl⟩, (below4 H1.out.1 _ _ _ _).alloc (by simp; omega) _⟩
set_option maxRecDepth 100000 in
set_option maxHeartbeats 4000000 in
theorem present_good {d : Pth} {k : Bz} {n : Nd} (hT : TreeAt w B N f 71 tl T A M V) (h0 : T [] = some r0) (hr0 : r0.file = false) (hp : PathOk p) (hE : findE T p = 0) (hL : findL p = d ++ [k]) (hn : T (d ++ [k]) = some n) :
    Calls Tryz.prog 37 #[.pointer (some ⟨f, 0, none⟩), .string p] w fun e w' => (∃ g c l, e = .returned (.tuple #[spotV (.pointer (some ⟨A d, 0, none⟩)) ⟨k.toArray⟩ (.pointer (some ⟨A (d ++ [k]), 0, none⟩)) (.slice g l c), .int .i64 0])) ∧ Below w.heap.size w w' := by
  have HB := Lib.hid (find_good (alloc_tree hT box0) h0 hr0 hp hE hL)
  have hk : kidsOf T A d k = some (A (d ++ [k])) := by unfold kidsOf; rw [hn]; rfl
  rw [hk] at HB
  obtain ⟨lg, hlg⟩ : ∃ lg, (d ++ [k]).length = lg := ⟨_, rfl⟩
  rw [hlg] at HB
  obtain ⟨na, hna⟩ : ∃ na, A (d ++ [k]) = na := ⟨_, rfl⟩
  rw [hna] at HB ⊢
  clear hT h0 hr0 hp hE hn hk hna
  simp only [box0] at HB
  go_enter Tryz.func37, Tryz.ntmps37
  go_wp2_with (go_at_call 33; refine HB.out.mono ?_; rintro e w1 ⟨dn, g, cc, hdn, hdf, rfl, hrow, h1⟩; have H1 := Lib.hid (pres_box h1); obtain ⟨q0, q1, q2, q3, u0, u1, u2, u3⟩ := box_facts H1.out.2.1; have hlw := H1.out.2.2; have hnw := Nat.ne_of_lt hlw; have HDN := Lib.hid hdn; have HDF := Lib.hid hdf; clear h1 hrow hdn hdf; simp only [spotV, ptrV])
  refine bodyPost_ret (v := .tuple #[.agg #[.pointer (some ⟨A d, 0, none⟩), .string ⟨k.toArray⟩, .pointer (some ⟨na, 0, none⟩), .slice (some ⟨g, 0, none⟩) lg cc], .int .i64 0]) ?_ rfl ?_
  · have k0 := fun u0 u1 u2 u3 o => (fin4 H1.out.2.1 u0 u1 u2 u3 o).1
    have k1 := fun u0 u1 u2 u3 o => (fin4 H1.out.2.1 u0 u1 u2 u3 o).2.1
    have k2 := fun u0 u1 u2 u3 o => (fin4 H1.out.2.1 u0 u1 u2 u3 o).2.2.1
    have k3 := fun u0 u1 u2 u3 o => (fin4 H1.out.2.1 u0 u1 u2 u3 o).2.2.2
    simp [results, Tryz.results42, go_sem, k0, k1, k2, k3]
    try rfl
  · exact ⟨⟨_, _, _, rfl⟩, (below4 H1.out.1 _ _ _ _).alloc (by simp; omega) _⟩
end
end Go.Proofs.YtcmjpkfinbakkaaGreatDoor.Vf

namespace Go.Proofs.YtcmjpkfinbakkaaGreatDoor.Vf
set_option maxRecDepth 100000
open Go.RowKit Go.Maps Go.ChangeMaps
set_option linter.unusedVariables false
theorem root_no : ¬ (0 ≤ at_ root1 0 (root1.size + 1) 0) := by decide
theorem path_of {p : ByteArray} {L : Pth} (h : parts root1 p = L) (hG : Good L) (hs : ∀ x ∈ L, x.length ≤ 60) (hf : L.length ≤ 20) (hw : (written L).length ≤ 200) (hp0 : p.size ≠ 0) (hps : p.size ≤ 30000) (hz : ∀ c ∈ p.data.toList, c ≠ 0) :
    findL p = L ∧ (∀ T, findE T p = (wayE T [] L : Nat)) ∧ PathOk p := by
  have ha : abs_ root1 p = (written L, 0) := by
    unfold abs_
    rw [if_neg, h, if_neg, if_neg]
    · omega
    · rintro ⟨x, hx, g⟩; have := hs x hx; omega
    · rintro (g | g | g)
      · exact hp0 g
      · exact hz 0 ((at_mem p 0).1 g) rfl
      · exact root_no g
  have hL : findL p = L := by
    unfold findL
    rw [ha]
    show parts root1 ⟨(written L).toArray⟩ = L
    rw [parts_eq]
    have : (⟨(written L).toArray⟩ : ByteArray).data.toList = written L := by simp
    rw [this]
    exact partsL_written _ hG
  refine ⟨hL, fun T => ?_, hps, by rw [ha]; show (written L).length ≤ 40000; omega, by rw [hL]; omega, fun x hx => ?_⟩
  · unfold findE
    rw [ha, hL]; rfl
  · rw [hL] at hx
    have := hs x hx
    unfold maxLen; omega
/-- A name that a directory may hold. -/
structure Nm (s : Bz) : Prop where
  ne : s ≠ []
  dot : s ≠ [46]
  dots : s ≠ [46, 46]
  no : ∀ c ∈ s, c ≠ 47
  nul : ∀ c ∈ s, c ≠ 0
  le : s.length ≤ 60
theorem push_nm {s : Bz} (h : Nm s) (l : List Bs) : push l s = l ++ [s] := by
  unfold push
  rw [if_neg (by rintro (e | e); exact h.ne e; exact h.dot e), if_neg h.dots]
theorem parts_of (p : ByteArray) : parts root1 p = (sp p.data.toList).foldl push [] := by
  unfold parts
  by_cases h : 0 < p.size ∧ gb p 0 = 47
  · rw [if_pos h]
  · rw [if_neg h]; rfl
theorem nm_parts {s : ByteArray} (h : Nm s.data.toList) : parts root1 (⟨#[47, 100, 47]⟩ ++ s) = [[100], s.data.toList] ∧ parts root1 (⟨#[100, 47]⟩ ++ s) = [[100], s.data.toList] := by
  have e1 : ((⟨#[47, 100, 47]⟩ : ByteArray) ++ s).data.toList = [] ++ 47 :: ([100] ++ 47 :: s.data.toList) := by simp
  have e2 : ((⟨#[100, 47]⟩ : ByteArray) ++ s).data.toList = [100] ++ 47 :: s.data.toList := by simp
  have hn : ∀ c ∈ ([100] : Bz), c ≠ 47 := by decide
  have hd : push ([] : List Bs) [100] = [[100]] := by decide
  constructor
  · rw [parts_of, e1, sp_cut [] _ (by simp), sp_cut [100] _ hn, sp_all _ h.no]
    show List.foldl push (push (push (push [] []) [100]) s.data.toList) [] = _
    rw [show push ([] : List Bs) [] = [] from rfl, hd, push_nm h]; rfl
  · rw [parts_of, e2, sp_cut [100] _ hn, sp_all _ h.no]
    show List.foldl push (push (push [] [100]) s.data.toList) [] = _
    rw [hd, push_nm h]; rfl
theorem nm_good {s : Bz} (h : Nm s) : Good [[100], s] := by
  intro x hx
  simp at hx
  rcases hx with rfl | rfl
  · decide
  · exact ⟨h.ne, h.dot, h.dots, h.no⟩
theorem nm_path {s : ByteArray} (h : Nm s.data.toList) (p : ByteArray) (hp : p = ⟨#[47, 100, 47]⟩ ++ s ∨ p = ⟨#[100, 47]⟩ ++ s) : findL p = [[100], s.data.toList] ∧ (∀ T, findE T p = (wayE T [] [[100], s.data.toList] : Nat)) ∧ PathOk p := by
  have hl : s.data.toList.length = s.size := Array.length_toList
  have hle := h.le
  have hsz : p.size = p.data.toList.length := Array.length_toList.symm
  have hdl : p.data.toList = 47 :: 100 :: 47 :: s.data.toList ∨ p.data.toList = 100 :: 47 :: s.data.toList := by
    rcases hp with rfl | rfl
    · exact .inl (by simp)
    · exact .inr (by simp)
  have hw : (written [[100], s.data.toList]).length ≤ 200 := by simp [written, joined]; omega
  refine path_of ?_ (nm_good h) (fun x hx => ?_) (by simp) hw ?_ ?_ ?_
  · rcases hp with rfl | rfl
    · exact (nm_parts h).1
    · exact (nm_parts h).2
  · simp at hx
    rcases hx with rfl | rfl
    · simp
    · exact hle
  · rw [hsz]; rcases hdl with e | e <;> rw [e] <;> simp
  · rw [hsz]; rcases hdl with e | e <;> rw [e] <;> simp only [List.length_cons] <;> omega
  · intro c hc
    rcases hdl with e | e
    · rw [e] at hc
      simp at hc
      rcases hc with rfl | rfl | rfl | hc
      · decide
      · decide
      · decide
      · exact h.nul c (by simpa using hc)
    · rw [e] at hc
      simp at hc
      rcases hc with rfl | rfl | hc
      · decide
      · decide
      · exact h.nul c (by simpa using hc)
theorem path_d : findL ⟨#[47, 100]⟩ = [[100]] ∧ (∀ T, findE T ⟨#[47, 100]⟩ = (wayE T [] [[100]] : Nat)) ∧ PathOk ⟨#[47, 100]⟩ :=
  path_of (by decide) (by unfold Good; decide) (by decide) (by decide) (by decide) (by decide) (by decide) (by decide)
theorem path_x : findL ⟨#[47, 120]⟩ = [[120]] ∧ (∀ T, findE T ⟨#[47, 120]⟩ = (wayE T [] [[120]] : Nat)) ∧ PathOk ⟨#[47, 120]⟩ :=
  path_of (by decide) (by unfold Good; decide) (by decide) (by decide) (by decide) (by decide) (by decide) (by decide)
theorem path_a : findL ⟨#[47, 97]⟩ = [[97]] ∧ (∀ T, findE T ⟨#[47, 97]⟩ = (wayE T [] [[97]] : Nat)) ∧ PathOk ⟨#[47, 97]⟩ :=
  path_of (by decide) (by unfold Good; decide) (by decide) (by decide) (by decide) (by decide) (by decide) (by decide)
end Go.Proofs.YtcmjpkfinbakkaaGreatDoor.Vf

namespace Go.Proofs.YtcmjpkfinbakkaaGreatDoor.Vf
set_option maxRecDepth 100000
open Go.RowKit Go.Maps Go.ChangeMaps
set_option linter.unusedVariables false
section
variable {f : Nat} {p : ByteArray} {w : World} {B N : Nat} {tl : List Value} {T : Tr} {A : Pth → Nat} {M : Pth → Option Nat} {V : Pth → Value} {r0 : Nd}
theorem present_err (hT : TreeAt w B N f 71 tl T A M V) (h0 : T [] = some r0) (hr0 : r0.file = false) (hp : PathOk p) (hE : presE T p ≠ 0) :
    Calls Tryz.prog 37 #[.pointer (some ⟨f, 0, none⟩), .string p] w fun e w' => (∃ a b c d l, e = .returned (.tuple #[.agg #[.pointer a, .string b, .pointer none, .slice c l d], .int .i64 (presE T p)])) ∧ Below w.heap.size w w' := by
  by_cases h : findE T p = 0
  · cases hx : T (findL p) with
    | some n => exact absurd (by rw [presE, if_neg (fun e => e h), hx]; rfl) hE
    | none =>
      have : presE T p = 6 := by rw [presE, if_neg (fun e => e h), hx]; rfl
      rw [this]
      exact present_none hT h0 hr0 hp h hx
  · have : presE T p = findE T p := by rw [presE, if_pos h]
    rw [this]
    refine (present_bad1 hT h0 hr0 hp h).mono ?_
    rintro e w' ⟨rfl, h2⟩
    exact ⟨⟨none, ⟨#[]⟩, none, 0, 0, rfl⟩, h2⟩
theorem present_ok {n : Nd} (hT : TreeAt w B N f 71 tl T A M V) (h0 : T [] = some r0) (hr0 : r0.file = false) (hp : PathOk p) (hE : findE T p = 0) (hn : T (findL p) = some n) :
    Calls Tryz.prog 37 #[.pointer (some ⟨f, 0, none⟩), .string p] w fun e w' => (∃ a b c d l, e = .returned (.tuple #[.agg #[.pointer a, .string b, .pointer (some ⟨A (findL p), 0, none⟩), .slice c l d], .int .i64 0])) ∧ Below w.heap.size w w' := by
  rcases List.eq_nil_or_concat (findL p) with hL | ⟨d, k, hL⟩
  · refine (present_root hT h0 hr0 hp hE hL).mono ?_
    rintro e w' ⟨rfl, h2⟩
    rw [hL, hT.a0]
    exact ⟨⟨none, ⟨#[]⟩, none, 0, 0, rfl⟩, h2⟩
  · have hL : findL p = d ++ [k] := by rw [hL]; simp
    rw [hL] at hn
    refine (present_good hT h0 hr0 hp hE hL hn).mono ?_
    rintro e w' ⟨⟨g, c, l, rfl⟩, h2⟩
    rw [hL]
    exact ⟨⟨_, _, _, _, _, rfl⟩, h2⟩
end
end Go.Proofs.YtcmjpkfinbakkaaGreatDoor.Vf

namespace Go.Proofs.YtcmjpkfinbakkaaGreatDoor.Vf
set_option maxRecDepth 100000
open Go.RowKit Go.Maps Go.ChangeMaps
set_option linter.unusedVariables false
theorem Fs.cap {w : World} {B N f : Nat} {c : Cn} {T : Tr} {F : Nat → Prop} (h : Fs w B N f c T F) : Fs w B N f c T (fun j => F j ∧ j < w.heap.size) := by
  obtain ⟨A, M, V, h1, h2, h3⟩ := h
  exact ⟨A, M, V, h1, fun j hj => ⟨h2 j hj, h1.lt hj⟩, h3⟩
theorem Fs.imp {w : World} {B N f : Nat} {c : Cn} {T : Tr} {F F' : Nat → Prop} (h : Fs w B N f c T F) (hF : ∀ j, F j → F' j) : Fs w B N f c T F' := by
  obtain ⟨A, M, V, h1, h2, h3⟩ := h
  exact ⟨A, M, V, h1, fun j hj => hF j (h2 j hj), h3⟩
section
variable {w : World} {B N f : Nat} {c : Cn} {T : Tr} {F : Nat → Prop} {p : ByteArray}
set_option maxRecDepth 100000 in
set_option maxHeartbeats 4000000 in
theorem Time_ok {n : Nd} (hF : Fs w B N f c T F) (hp : PathOk p) (hE : findE T p = 0) (hn : T (findL p) = some n) :
    Calls Tryz.prog 242 #[.pointer (some ⟨f, 0, none⟩), .string p] w fun e w' => e = .returned (.int .i64 n.time) ∧ Below w.heap.size w w' := by
  obtain ⟨A, M, V, hT, hft, r0, h0, hr0⟩ := hF
  have HB := Lib.hid (present_ok hT h0 hr0 hp hE hn)
  have HT := Lib.hid hT
  have HN := Lib.hid hn
  obtain ⟨L, hL⟩ : ∃ L, findL p = L := ⟨_, rfl⟩
  rw [hL] at HB HN
  clear hT hft h0 hr0 hp hE hn hL
  go_enter Tryz.func242, Tryz.ntmps242
  go_wp2_with (go_at_call 37; refine HB.out.mono ?_; rintro e w1 ⟨⟨a, b, c, d, l, rfl⟩, h1⟩; have H1 := Lib.hid h1; have h2 := (HT.out.only (X := fun _ => False) (Only.of_below (h1.alloc h1.size (.cells #[.pointer a, .string b, .pointer (some ⟨A L, 0, none⟩), .slice c l d] 74))) (fun _ h => h.elim)).blk _ n HN.out; have q0 : (w1.alloc (.cells #[.pointer a, .string b, .pointer (some ⟨A L, 0, none⟩), .slice c l d] 74)).cell? ⟨A L, 2, none⟩ = some (.int .i64 n.time) := cell_of h2 2; clear h1 h2; simp only [])
  go_ret
  exact ⟨rfl, H1.out.alloc H1.out.size _⟩
end
end Go.Proofs.YtcmjpkfinbakkaaGreatDoor.Vf

namespace Go.Proofs.YtcmjpkfinbakkaaGreatDoor.Vf
set_option maxRecDepth 100000
open Go.RowKit Go.Maps Go.ChangeMaps
set_option linter.unusedVariables false
theorem new_at {w w' : World} {B N f : Nat} {c c' : Cn} {F : Nat → Prop} (h : Fs w B N f c newT F) (hc : c = c') : Fs w B N f c' newT F := hc ▸ h
end Go.Proofs.YtcmjpkfinbakkaaGreatDoor.Vf

namespace Go.Proofs.YtcmjpkfinbakkaaGreatDoor.Vf
set_option maxRecDepth 100000
open Go.RowKit Go.Maps Go.ChangeMaps
set_option linter.unusedVariables false
theorem New_small (n m : Int) (hn0 : 0 ≤ n) (hn : n ≤ 10000) (hm0 : 0 ≤ m) (hm : m ≤ 1048576) (w : World) {B : Nat} (hB : B ≤ w.heap.size) : Calls Tryz.prog 14 #[.int .i64 n, .int .i64 m] w fun e w1 => ∃ f, e = .returned (.pointer (some ⟨f, 0, none⟩)) ∧ Fs w1 B 0 f ⟨n, m, 0, 0, 0⟩ newT (fun j => w.heap.size ≤ j ∧ j < w1.heap.size) ∧ Below w.heap.size w w1 := by
  refine (New_any n m w (B := B) (N := 0) hB).mono ?_
  rintro e w1 ⟨f, h1, h2, h3⟩
  rw [show min (max n 0) 10000 = n by omega, show min (max m 0) 1048576 = m by omega] at h2
  exact ⟨f, h1, h2.cap, h3⟩
theorem MutP.fs {w w' : World} {B N f : Nat} {F : Nat → Prop} {er : Int} {T : Tr} {c : Cn} {e : Ending} (h : MutP w B N f F er T c e w') : e = .returned (.int .i64 er) ∧ Fs w' B (N + 1) f c T (fun j => (F j ∨ w.heap.size ≤ j) ∧ j < w'.heap.size) ∧ Only F w w' :=
  ⟨h.1, h.2.1.cap, h.2.2⟩
structure Sx (B : Nat) (w : World) (N f : Nat) (c : Cn) (T : Tr) : Prop where
  fs : ∃ F : Nat → Prop, Fs w B N f c T F ∧ ∀ j, F j → B ≤ j ∧ j < w.heap.size
  le : B ≤ w.heap.size
theorem Sx.below {B : Nat} {w w' : World} {N f : Nat} {c : Cn} {T : Tr} (h : Sx B w N f c T) (hb : Below w.heap.size w w') : Sx B w' N f c T := by
  obtain ⟨⟨F, h1, h2⟩, h3⟩ := h
  exact ⟨⟨F, h1.below hb, fun j hj => ⟨(h2 j hj).1, Nat.lt_of_lt_of_le (h2 j hj).2 hb.size⟩⟩, Nat.le_trans h3 hb.size⟩
theorem New_sx (n m : Int) (hn0 : 0 ≤ n) (hn : n ≤ 10000) (hm0 : 0 ≤ m) (hm : m ≤ 1048576) (w : World) : Calls Tryz.prog 14 #[.int .i64 n, .int .i64 m] w fun e w1 => ∃ f, e = .returned (.pointer (some ⟨f, 0, none⟩)) ∧ Sx w.heap.size w1 0 f ⟨n, m, 0, 0, 0⟩ newT ∧ Below w.heap.size w w1 := by
  refine (New_small n m hn0 hn hm0 hm w (B := w.heap.size) (Nat.le_refl _)).mono ?_
  rintro e w1 ⟨f, h1, h2, h3⟩
  exact ⟨f, h1, ⟨⟨_, h2, fun j hj => hj⟩, h3.size⟩, h3⟩
theorem Sx.mut {B : Nat} {w w' : World} {N f : Nat} {c c' : Cn} {T T' : Tr} {F : Nat → Prop} {er : Int} {e : Ending} (h1 : Fs w B N f c T F) (h2 : ∀ j, F j → B ≤ j ∧ j < w.heap.size) (h3 : B ≤ w.heap.size) (h : MutP w B N f F er T' c' e w') :
    e = .returned (.int .i64 er) ∧ Sx B w' (N + 1) f c' T' ∧ Below B w w' := by
  obtain ⟨e1, e2, e3⟩ := h.fs
  refine ⟨e1, ⟨⟨_, e2, fun j hj => ⟨?_, hj.2⟩⟩, Nat.le_trans h3 e3.size⟩, e3.below (fun k hk => (h2 k hk).1) h3⟩
  rcases hj.1 with h | h
  · exact (h2 j h).1
  · exact Nat.le_trans h3 h
/-- A file that is not there is written. -/
theorem Write_sx {B : Nat} {w : World} {N f : Nat} {c : Cn} {T : Tr} (h : Sx B w N f c T) (p : ByteArray) (hp : PathOk p) (hE : findE T p = 0) (hn : T (findL p) = none) (hc : c.Ok) (hN : N < maxLen) (bl : Bz) (ba : Option Addr) (bc : Nat) (hb : Bin w (.slice ba bl.length bc) bl) (hba : ∀ a, ba = some a → 0 < bl.length → a.block < B) (hbl : bl.length ≤ 1000000) (hfull : ¬ c.nodes ≤ c.count) (hroom : ¬ c.bytes - c.size < bl.length) :
    Calls Tryz.prog 17 #[.pointer (some ⟨f, 0, none⟩), .string p, .slice ba bl.length bc, .bool false] w fun e w' => e = .returned (.int .i64 0) ∧ Sx B w' (N + 1) f { c with count := c.count + 1, size := c.size + bl.length, clock := c.clock + 1 } (setF T (findL p) (some ⟨true, bl, c.clock + 1⟩)) ∧ Below B w w' := by
  obtain ⟨⟨F, h1, h2⟩, h3⟩ := h
  refine (Write_new w p false h1 hp hc hN h3 hE hn bl ba bc hb (fun a ha h0 hF => by have := (h2 _ hF).1; have := hba a ha h0; omega) hbl hfull hroom).mono ?_
  intro e w' hm
  exact Sx.mut h1 h2 h3 hm
end Go.Proofs.YtcmjpkfinbakkaaGreatDoor.Vf

namespace Go.Proofs.YtcmjpkfinbakkaaGreatDoor
open Go.RowKit Go.ChangeShapes Go.WideShapes
set_option linter.unusedVariables false
set_option maxRecDepth 100000

theorem new_cell9 (w : World) (v : Value) (t : TypeId) : (w.alloc (.cells #[v] t)).cell? ⟨w.heap.size, 0, none⟩ = some v := by simp
theorem qt_plain : ∀ (l : List UInt8), (∀ c ∈ l, Gb.spc c = false) → Gb.qt l = l
  | [], _ => rfl
  | c :: l, h => by
    have ih := qt_plain l (fun x hx => h x (by simp [hx]))
    have hc := h c (by simp)
    unfold Gb.qt at ih ⊢
    rw [List.flatMap_cons, ih, hc]
    rfl
/-- What a word of one part matches is that part alone, if it is quoted or has no sign of a pattern. -/
theorem plain_pat (k : Int) (s : ByteArray) (h : k ≠ 1 ∨ ∀ c ∈ s.data.toList, Gb.spc c = false) : (⟨(Fd.patL (Fd.p2s [Fd.lit k s])).toArray⟩ : ByteArray) = Gb.Q s.data.toList := by
  have e : Fd.patL (Fd.p2s [Fd.lit k s]) = if k = 1 then s.data.toList else Fd.qt s.data.toList := by
    show (([Fd.lit k s].map Fd.Pt.p2).flatMap fun p => if p.1 = 1 then p.2 else Fd.qt p.2) = _
    simp [Fd.Pt.p2, Fd.lit]
  rw [e]
  unfold Gb.Q
  by_cases hk : k = 1
  · rw [if_pos hk]
    rcases h with h | h
    · exact absurd hk h
    · rw [qt_plain _ h]
  · rw [if_neg hk]; rfl
theorem patL_one (k : Int) (s : ByteArray) : (Fd.patL (Fd.p2s [Fd.lit k s])).length ≤ 2 * s.size := by
  have e : Fd.patL (Fd.p2s [Fd.lit k s]) = if k = 1 then s.data.toList else Fd.qt s.data.toList := by
    show (([Fd.lit k s].map Fd.Pt.p2).flatMap fun p => if p.1 = 1 then p.2 else Fd.qt p.2) = _
    simp [Fd.Pt.p2, Fd.lit]
  have hl : s.data.toList.length = s.size := Array.length_toList
  rw [e]
  split
  · omega
  · have := Fd.qt_le s.data.toList; omega
set_option maxHeartbeats 8000000 in
theorem paths_plain (kf : Option Addr) (k : Int) (s : ByteArray) (hs : s.size ≤ 100) (hk : -9223372036854775808 ≤ k ∧ k ≤ 9223372036854775807) (h : k ≠ 1 ∨ ∀ c ∈ s.data.toList, Gb.spc c = false) (a : Option Addr) (c : Nat) (w : World) (hS : Fd.Sl w (.slice a 1 c) [Fd.lit k s]) :
    Calls Tryz.prog 20 #[.pointer kf, .string ⟨#[47]⟩, .slice a 1 c] w fun e w' => ∃ g, e = .returned (.slice (some ⟨g, 0, none⟩) 1 1) ∧ w.heap.size ≤ g ∧ g < w'.heap.size ∧ w'.cell? ⟨g, 0, none⟩ = some (.string s) ∧ Below w.heap.size w w' := by
  have hpat := plain_pat k s h
  have hlen := patL_one k s
  have HP := Lib.hid (Fd.Pattern_any (.slice a 1 c) [Fd.lit k s] w (by simp) (by omega) (fun p hp => by rw [List.mem_singleton] at hp; subst hp; show s.size ≤ 100000; omega) hS)
  rw [hpat] at HP
  have hqs : (Gb.Q s.data.toList).size ≤ 200 := by rw [← hpat]; show (Fd.patL (Fd.p2s [Fd.lit k s])).toArray.size ≤ 200; rw [List.size_toArray]; omega
  have hlit := Gb.chars_lits s.data.toList
  have HPL : Hid (∀ w, Calls Tryz.prog 40 #[.string (Gb.Q s.data.toList)] w fun e w' => e = .returned (.tuple #[.string s, .bool true]) ∧ Below w.heap.size w w') := fun w => by
    have := Gb.Plain_any (Gb.Q s.data.toList) w (by omega) _ (Gb.pcs_Q s.data.toList)
    rw [hlit.1, hlit.2, if_pos rfl] at this
    exact this
  generalize Gb.Q s.data.toList = P at HP HPL
  clear hpat hlen hqs hlit hS h
  go_enter Tryz.func20, Tryz.ntmps20
  go_wp2
  refine wp_scope_straight ?_
  go_wp2_with (first
    | (go_at_call 39; refine HP.out.mono ?_; rintro e w1 ⟨rfl, h1⟩; have H1 := Lib.hid h1; clear h1; simp only [])
    | (go_at_call 40; refine (HPL.out _).mono ?_; rintro e w2 ⟨rfl, h2⟩; have H2 := Lib.hid (H1.out.trans (h2.mono H1.out.size)); clear h2; simp only []))
  simp +zetaDelta only [Exit.noGoto_ret, Exit.inBlock, Exit.then]
  go_ret
  exact ⟨_, rfl, H2.out.size, by show w2.heap.size < (w2.heap.push _).size; rw [Array.size_push]; omega, new_cell9 w2 _ _, H2.out.alloc H2.out.size _⟩
end Go.Proofs.YtcmjpkfinbakkaaGreatDoor
