import Derived.Test.YtjagnihkpgbjeaaDoorVL
namespace Go.Proofs.YtjagnihkpgbjeaaDoor
open Go.RowKit Go.Maps Go.ChangeMaps
set_option linter.unusedVariables false
theorem Fs.below {w w' : World} {B N f : Nat} {c : Cn} {T : Tr} {F : Nat → Prop} (h : Fs w B N f c T F) (hb : Below w.heap.size w w') : Fs w' B N f c T F := by
  obtain ⟨A, M, V, h1, h2, h3⟩ := h
  exact ⟨A, M, V, h1.only (X := fun _ => False) (Only.of_below hb) (fun _ h => h.elim), h2, h3⟩
theorem MutP.after {w w1 w' : World} {B N f : Nat} {F : Nat → Prop} {er : Int} {T : Tr} {c : Cn} {e : Ending} (hb : Below w.heap.size w w1) (h : MutP w1 B N f F er T c e w') : MutP w B N f F er T c e w' := by
  obtain ⟨h1, ⟨A, M, V, h2, h3, h4⟩, h5⟩ := h
  exact ⟨h1, ⟨A, M, V, h2, fun j hj => (h3 j hj).imp id (fun h => Nat.le_trans hb.size h), h4⟩, (Only.of_below (S := F) hb).trans h5 (fun _ h => h) (fun _ _ h => h)⟩
section
variable {w : World} {B N f : Nat} {c : Cn} {T : Tr} {F : Nat → Prop} {p : ByteArray}
set_option maxRecDepth 100000 in
set_option maxHeartbeats 4000000 in
theorem Touch_bad (hF : Fs w B N f c T F) (hp : PathOk p) (hE : findE T p ≠ 0) : Calls Tryd.prog 21 #[.pointer (some ⟨f, 0, none⟩), .string p] w (MutP w B N f F (findE T p) T c) := by
  obtain ⟨A, M, V, hT, hft, r0, h0, hr0⟩ := hF
  have HF : Hid (Fs w B N f c T F) := ⟨A, M, V, hT, hft, r0, h0, hr0⟩
  have HB := Lib.hid (find_bad (w := w) hT h0 hr0 hp hE)
  obtain ⟨er, her⟩ : ∃ er, findE T p = er := ⟨_, rfl⟩
  rw [her] at HB hE ⊢
  obtain ⟨Q, hQ⟩ : ∃ Q, MutP w B N f F er T c = Q := ⟨_, rfl⟩
  rw [hQ]
  have HQ := Lib.hid hQ
  have hne : (er != 0) = true := by simpa using hE
  clear hT hft h0 hr0 hQ hp hE her
  go_enter Tryd.func21, Tryd.ntmps21
  go_wp2_with (go_at_call 38; refine HB.out.mono ?_; rintro e w1 ⟨rfl, h1⟩; have H1 := Lib.hid h1; clear h1; simp only [spot0, spotV])
  rw [← HQ.out]
  exact MutP.same HF.out (H1.out.alloc H1.out.size _)
set_option maxRecDepth 100000 in
set_option maxHeartbeats 4000000 in
theorem Touch_root (hF : Fs w B N f c T F) (hp : PathOk p) (hE : findE T p = 0) (hL : findL p = []) : Calls Tryd.prog 21 #[.pointer (some ⟨f, 0, none⟩), .string p] w (MutP w B N f F 0 T c) := by
  obtain ⟨A, M, V, hT, hft, r0, h0, hr0⟩ := hF
  have HF : Hid (Fs w B N f c T F) := ⟨A, M, V, hT, hft, r0, h0, hr0⟩
  have HB := Lib.hid (find_root (w := w) hT h0 hr0 hp hE hL)
  obtain ⟨Q, hQ⟩ : ∃ Q, MutP w B N f F 0 T c = Q := ⟨_, rfl⟩
  rw [hQ]
  have HQ := Lib.hid hQ
  clear hT hft h0 hr0 hQ hp hE
  go_enter Tryd.func21, Tryd.ntmps21
  go_wp2_with (go_at_call 38; refine HB.out.mono ?_; rintro e w1 ⟨rfl, h1⟩; have H1 := Lib.hid h1; clear h1; simp only [spot0, spotV])
  rw [← HQ.out]
  exact MutP.same HF.out (H1.out.alloc H1.out.size _)
set_option maxRecDepth 100000 in
set_option maxHeartbeats 4000000 in
theorem Touch_old {n : Nd} (hF : Fs w B N f c T F) (hp : PathOk p) (hc : c.Ok) (hE : findE T p = 0) (hL : findL p ≠ []) (hn : T (findL p) = some n) :
    Calls Tryd.prog 21 #[.pointer (some ⟨f, 0, none⟩), .string p] w (MutP w B N f F 0 (setF T (findL p) (some { n with time := c.clock + 1 })) { c with clock := c.clock + 1 }) := by
  obtain ⟨A, M, V, hT, hft, r0, h0, hr0⟩ := hF
  obtain ⟨Q, hQ⟩ : ∃ Q, MutP w B N f F 0 (setF T (findL p) (some { n with time := c.clock + 1 })) { c with clock := c.clock + 1 } = Q := ⟨_, rfl⟩
  rw [hQ]
  have HT := Lib.hid hT
  have H0 := Lib.hid h0
  have HFT := Lib.hid hft
  rcases List.eq_nil_or_concat (findL p) with hL2 | ⟨d, k, hL2⟩
  · exact absurd hL2 hL
  have hL2 : findL p = d ++ [k] := by rw [hL2]; simp
  rw [hL2] at hQ hn
  have HQ := Lib.hid hQ
  have HN := Lib.hid hn
  have HB := Lib.hid (find_good (w := w) hT h0 hr0 hp hE hL2)
  obtain ⟨lg, hlg⟩ : ∃ lg, (d ++ [k]).length = lg := ⟨_, rfl⟩
  rw [hlg] at HB
  have hk : kidsOf T A d k = some (A (d ++ [k])) := by unfold kidsOf; rw [hn]; rfl
  rw [hk] at HB
  have HST := Lib.hid (fun (w : World) (hT : TreeAt w B N f 71 c.tl T A M V) => stamp_any hT h0 hn (by simp) hc.clock)
  obtain ⟨na, hna⟩ : ∃ na, A (d ++ [k]) = na := ⟨_, rfl⟩
  rw [hna] at HB HST
  have HNA := Lib.hid hna
  clear hT hft h0 hQ hp hE hL hL2 hn hk hna hc
  go_enter Tryd.func21, Tryd.ntmps21
  go_wp2_with (first
    | (go_at_call 38; refine HB.out.mono ?_; rintro e w1 ⟨dn, g, cc, hdn, hdf, rfl, hrow, h1⟩; have H1 := Lib.hid h1; clear h1 hrow hdn hdf; simp only [spotV, ptrV])
    | (go_at_call 41; refine (HST.out _ (HT.out.only (X := fun _ => False) (Only.of_below (H1.out.alloc H1.out.size _)) (fun _ h => h.elim))).mono ?_; rintro e w2 ⟨rfl, z1, z2⟩; have Z1 := Lib.hid z1; have Z2 := Lib.hid z2; clear z1 z2; simp only []))
  rw [← HQ.out]
  refine ⟨rfl, ⟨A, M, V, Z1.out.mono (Nat.le_succ N), fun j hj => .inl (HFT.out j (foot_setT (by rw [HN.out]; rfl) hj)), r0, ?_, hr0⟩, ?_⟩
  · rw [setF_other _ _ (by simp)]; exact H0.out
  · refine (Only.of_below (S := F) (H1.out.alloc H1.out.size _)).trans Z2.out (fun _ h => h) (fun j _ e => ?_)
    rcases e with e | e
    · rw [e]; exact HFT.out f ⟨[], r0, H0.out, .inl HT.out.a0⟩
    · rw [e]; exact HFT.out na ⟨d ++ [k], n, HN.out, .inl HNA.out⟩
set_option maxRecDepth 100000 in
set_option maxHeartbeats 4000000 in
theorem Touch_new (hF : Fs w B N f c T F) (hp : PathOk p) (hc : c.Ok) (hN : N < maxLen) (hB : B ≤ w.heap.size) (hE : findE T p = 0) (hn : T (findL p) = none) (hfull : ¬ c.nodes ≤ c.count) (hroom : c.size ≤ c.bytes) :
    Calls Tryd.prog 21 #[.pointer (some ⟨f, 0, none⟩), .string p] w (MutP w B N f F 0 (setF T (findL p) (some ⟨true, [], c.clock + 1⟩)) { c with count := c.count + 1, size := c.size + 0, clock := c.clock + 1 }) := by
  have HF := Lib.hid hF
  have HW := Lib.hid (fun (w' : World) (hw : B ≤ w'.heap.size) (hF : Fs w' B N f c T F) => Write_new w' p true hF hp hc hN hw hE hn [] none 0 ⟨none, 0, rfl, fun i h => absurd h (by simp)⟩ (fun a h => by cases h) (by simp) hfull (by simp; omega))
  simp only [List.length_nil] at HW
  obtain ⟨A, M, V, hT, hft, r0, h0, hr0⟩ := hF
  obtain ⟨Q, hQ⟩ : ∃ Q, MutP w B N f F 0 (setF T (findL p) (some ⟨true, [], c.clock + 1⟩)) { c with count := c.count + 1, size := c.size + 0, clock := c.clock + 1 } = Q := ⟨_, rfl⟩
  rw [hQ]
  have HQ := Lib.hid hQ
  rcases List.eq_nil_or_concat (findL p) with hL2 | ⟨d, k, hL2⟩
  · rw [hL2, h0] at hn; cases hn
  have hL2 : findL p = d ++ [k] := by rw [hL2]; simp
  have HB := Lib.hid (find_good (w := w) hT h0 hr0 hp hE hL2)
  obtain ⟨lg, hlg⟩ : ∃ lg, (d ++ [k]).length = lg := ⟨_, rfl⟩
  rw [hlg] at HB
  rw [hL2] at hn
  have hk : kidsOf T A d k = none := by unfold kidsOf; rw [hn]; rfl
  rw [hk] at HB
  clear hT hft h0 hQ hp hE hL2 hn hk hc
  go_enter Tryd.func21, Tryd.ntmps21
  go_wp2_with (first
    | (go_at_call 38; refine HB.out.mono ?_; rintro e w1 ⟨dn, g, cc, hdn, hdf, rfl, hrow, h1⟩; have H1 := Lib.hid h1; clear h1 hrow hdn hdf; simp only [spotV, ptrV])
    | (go_at_call 15; refine (HW.out _ (Nat.le_trans hB (H1.out.alloc H1.out.size _).size) (HF.out.below (H1.out.alloc H1.out.size _))).mono ?_; rintro e w2 hm; obtain ⟨rfl, _⟩ := id hm; have HM := Lib.hid hm; clear hm; simp only []))
  rw [← HQ.out]
  exact MutP.after (H1.out.alloc H1.out.size _) HM.out
end
end Go.Proofs.YtjagnihkpgbjeaaDoor
