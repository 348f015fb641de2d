import Derived.Test.YtcmjpkfinbakkaaGreatDoorWVF
import Derived.Laws.AppendOwn
import Derived.Laws.AppendOwnNone
namespace Go.Proofs.YtcmjpkfinbakkaaGreatDoor.Vf
set_option maxRecDepth 100000
open Go.RowKit Go.Maps Go.ChangeMaps
set_option linter.unusedVariables false
section
variable {w w' : World} {B N f : Nat} {ty : TypeId} {tl : List Value} {T : Tr} {A : Pth → Nat} {M : Pth → Option Nat} {V : Pth → Value}
theorem TreeAt.none_app (h : TreeAt w B N f ty tl T A M V) {q : Pth} (hq : T q = none) : ∀ (r : Pth), T (q ++ r) = none := by
  intro r
  induction r generalizing q with
  | nil => simpa using hq
  | cons k r ih =>
    have h1 : T (q ++ [k]) = none := by
      cases hx : T (q ++ [k]) with
      | none => rfl
      | some n =>
        obtain ⟨m, hm, _⟩ := h.up q k (by rw [hx]; rfl)
        rw [hq] at hm; cases hm
    have := ih h1
    simpa using this
theorem TreeAt.graft_leaf (h : TreeAt w B N f ty tl T A M V) {L : Pth} (hL : T L = none) (n : Nd) : graftF T L (leafT n) = setF T L (some n) := by
  funext q
  rcases pre_cases L q with ⟨r, rfl⟩ | hn
  · rw [graftF_in]
    cases r with
    | nil => simp [leafT, setF]
    | cons k r =>
      rw [setF_other _ _ (by simp), h.none_app hL]
      rfl
  · rw [graftF_out _ _ _ hn, setF_other _ _ (fun e => hn (by rw [e]; exact List.prefix_refl _))]
theorem setF_setF {α : Type} (F : Pth → α) (p : Pth) (x y : α) : setF (setF F p x) p y = setF F p y := by
  funext q; unfold setF
  by_cases h : q = p
  · rw [if_pos h, if_pos h]
  · rw [if_neg h, if_neg h, if_neg h]
theorem foot_graft {p : Pth} {T2 : Tr} {A2 : Pth → Nat} {M2 : Pth → Option Nat} {V2 : Pth → Value} {j : Nat} (h : foot (graftF T p T2) (graftF A p A2) (graftF M p M2) (graftF V p V2) j) : foot T A M V j ∨ foot T2 A2 M2 V2 j := by
  obtain ⟨q, n, hq, e⟩ := h
  rcases pre_cases p q with ⟨r, rfl⟩ | hn
  · rw [graftF_in] at hq
    rw [graftF_in, graftF_in, graftF_in] at e
    exact .inr ⟨r, n, hq, e⟩
  · rw [graftF_out _ _ _ hn] at hq
    rw [graftF_out _ _ _ hn, graftF_out _ _ _ hn, graftF_out _ _ _ hn] at e
    exact .inl ⟨q, n, hq, e⟩
theorem foot_setM {d : Pth} {m' : Option Nat} {j : Nat} (h : foot T A (setF M d m') V j) : foot T A M V j ∨ m' = some j := by
  obtain ⟨q, n, hq, e⟩ := h
  by_cases hd : q = d
  · rw [hd, setF_same] at e
    rcases e with e | e | e
    · exact .inl ⟨q, n, hq, .inl (by rw [hd]; exact e)⟩
    · exact .inr e
    · exact .inl ⟨q, n, hq, .inr (.inr (by rw [hd]; exact e))⟩
  · rw [setF_other _ _ hd] at e
    exact .inl ⟨q, n, hq, e⟩
theorem foot_setT {p : Pth} {n : Nd} {j : Nat} (hs : (T p).isSome) (h : foot (setF T p (some n)) A M V j) : foot T A M V j := by
  obtain ⟨q, m, hq, e⟩ := h
  by_cases hp : q = p
  · obtain ⟨n0, h0⟩ := Option.isSome_iff_exists.1 hs
    exact ⟨q, n0, by rw [hp]; exact h0, e⟩
  · rw [setF_other _ _ hp] at hq
    exact ⟨q, m, hq, e⟩
end
/-- What a call that changes a file system leaves. -/
def MutP (w : World) (B N f : Nat) (F : Nat → Prop) (er : Int) (T : Tr) (c : Cn) (e : Ending) (w' : World) : Prop :=
  e = .returned (.int .i64 er) ∧ Fs w' B (N + 1) f c T (fun j => F j ∨ w.heap.size ≤ j) ∧ Only F w w'
theorem MutP.same {w w' : World} {B N f : Nat} {F : Nat → Prop} {er : Int} {T : Tr} {c : Cn} (h : Fs w B N f c T F) (hb : Below w.heap.size w w') : MutP w B N f F er T c (.returned (.int .i64 er)) w' := by
  obtain ⟨A, M, V, h1, h2, h3⟩ := h
  exact ⟨rfl, ⟨A, M, V, (h1.only (X := fun _ => False) (Only.of_below hb) (fun _ h => h.elim)).mono (Nat.le_succ N), fun j hj => .inl (h2 j hj), h3⟩, Only.of_below hb⟩
def mkdirF (T : Tr) (c : Cn) (p : ByteArray) : Int × Tr × Cn :=
  if findE T p ≠ 0 then (findE T p, T, c)
  else if (T (findL p)).isSome then (12, T, c)
  else if c.nodes ≤ c.count then (13, T, c)
  else (0, setF T (findL p) (some ⟨false, [], c.clock + 1⟩), { c with count := c.count + 1, clock := c.clock + 1 })
/-- The counters are no great numbers. -/
structure Cn.Ok (c : Cn) : Prop where
  nodes : 0 ≤ c.nodes ∧ c.nodes ≤ 1000000000000
  bytes : 0 ≤ c.bytes ∧ c.bytes ≤ 1000000000000
  count : 0 ≤ c.count ∧ c.count ≤ 1000000000000
  size : 0 ≤ c.size ∧ c.size ≤ 1000000000000
  clock : 0 ≤ c.clock ∧ c.clock ≤ 1000000000000
set_option maxRecDepth 100000 in
set_option maxHeartbeats 4000000 in
theorem Mkdir_any (w : World) {B N f : Nat} {c : Cn} {T : Tr} {F : Nat → Prop} (p : ByteArray) (hF : Fs w B N f c T F) (hp : PathOk p) (hc : c.Ok) (hN : N < maxLen) (hB : B ≤ w.heap.size) (er : Int) (T' : Tr) (c' : Cn) (hm : Hid (mkdirF T c p = (er, T', c'))) :
    Calls Tryz.prog 15 #[.pointer (some ⟨f, 0, none⟩), .string p] w (MutP w B N f F er T' c') := by
  obtain ⟨A, M, V, hT, hft, r0, h0, hr0⟩ := hF
  have HF : Hid (Fs w B N f c T F) := ⟨A, M, V, hT, hft, r0, h0, hr0⟩
  have HHE := Lib.hid (fun w => here_any f w)
  obtain ⟨Q, hQ⟩ : ∃ Q, MutP w B N f F er T' c' = Q := ⟨_, rfl⟩
  rw [hQ]
  have HQ := Lib.hid hQ
  have HP := Lib.hid hp
  by_cases hE : findE T p = 0
  case neg =>
    have HB := Lib.hid (find_bad (w := w) hT h0 hr0 hp hE)
    have hm' := hm.out
    rw [mkdirF, if_pos hE] at hm'
    injection hm' with e1 e2
    injection e2 with e2 e3
    subst e2; subst e3
    have hne : (er != 0) = true := by rw [← e1]; simpa using hE
    rw [e1] at HB
    clear hT hft h0 hr0 hQ hp hE hm e1
    go_enter Tryz.func15, Tryz.ntmps15
    go_wp2_with (first
      | (go_at_call 33; refine HB.out.mono ?_; rintro e w1 ⟨rfl, h1⟩; have H1 := Lib.hid h1; clear h1; simp only [spot0, spotV])
      | (go_at_call 34; refine (HHE.out _).mono ?_; rintro e w2 ⟨rfl, h2⟩; obtain rfl := h2.symm; simp only []))
    rw [← HQ.out]
    exact MutP.same HF.out (H1.out.alloc H1.out.size _)
  case pos =>
  have hm' := hm.out
  rw [mkdirF, if_neg (fun e => e hE)] at hm'
  rcases List.eq_nil_or_concat (findL p) with hL | ⟨d, k, hL⟩
  · rw [hL, if_pos (by rw [h0]; rfl)] at hm'
    injection hm' with e1 e2
    injection e2 with e2 e3
    subst e1; subst e2; subst e3
    have HB := Lib.hid (find_root (w := w) hT h0 hr0 hp hE hL)
    clear hT hft h0 hr0 hQ hp hE hm hL
    go_enter Tryz.func15, Tryz.ntmps15
    go_wp2_with (first
      | (go_at_call 33; refine HB.out.mono ?_; rintro e w1 ⟨rfl, h1⟩; have H1 := Lib.hid h1; clear h1; simp only [spot0, spotV])
      | (go_at_call 34; refine (HHE.out _).mono ?_; rintro e w2 ⟨rfl, h2⟩; obtain rfl := h2.symm; simp only []))
    rw [← HQ.out]
    exact MutP.same HF.out (H1.out.alloc H1.out.size _)
  have hL : findL p = d ++ [k] := by rw [hL]; simp
  have HB := Lib.hid (find_good (w := w) hT h0 hr0 hp hE hL)
  obtain ⟨lg, hlg⟩ : ∃ lg, (d ++ [k]).length = lg := ⟨_, rfl⟩
  rw [hlg] at HB
  rw [hL] at hm'
  cases hx : T (d ++ [k]) with
  | some n =>
    have hk : kidsOf T A d k = some (A (d ++ [k])) := by unfold kidsOf; rw [hx]; rfl
    rw [hk] at HB
    rw [if_pos (by rw [hx]; rfl)] at hm'
    injection hm' with e1 e2
    injection e2 with e2 e3
    subst e1; subst e2; subst e3
    clear hT hft h0 hr0 hQ hp hE hm hL hk
    go_enter Tryz.func15, Tryz.ntmps15
    go_wp2_with (first
      | (go_at_call 33; refine HB.out.mono ?_; rintro e w1 ⟨dn, g, cc, hdn, hdf, rfl, hrow, h1⟩; have H1 := Lib.hid h1; clear h1 hrow hdn hdf; simp only [ptrV, spotV])
      | (go_at_call 34; refine (HHE.out _).mono ?_; rintro e w2 ⟨rfl, h2⟩; obtain rfl := h2.symm; simp only []))
    rw [← HQ.out]
    exact MutP.same HF.out (H1.out.alloc H1.out.size _)
  | none =>
    have hk : kidsOf T A d k = none := by unfold kidsOf; rw [hx]; rfl
    rw [hk] at HB
    rw [if_neg (by rw [hx]; simp)] at hm'
    have HT := Lib.hid hT
    have H0 := Lib.hid h0
    by_cases hfull : c.nodes ≤ c.count
    · rw [if_pos hfull] at hm'
      injection hm' with e1 e2
      injection e2 with e2 e3
      subst e1; subst e2; subst e3
      have hd : decide (c.nodes ≤ c.count) = true := decide_eq_true hfull
      clear hT hft h0 hr0 hQ hp hE hm hL hk
      go_enter Tryz.func15, Tryz.ntmps15
      go_wp2_with (first
        | (go_at_call 33; refine HB.out.mono ?_; rintro e w1 ⟨dn, g, cc, hdn, hdf, rfl, hrow, h1⟩; have H1 := Lib.hid h1; have h2 := (HT.out.only (X := fun _ => False) (Only.of_below h1) (fun _ h => h.elim)).rootBlk H0.out; have q4 : w1.cell? ⟨f, 4, none⟩ = some (.int .i64 c.nodes) := cell_of h2 4; have q6 : w1.cell? ⟨f, 6, none⟩ = some (.int .i64 c.count) := cell_of h2 6; have hlf := blk_lt h2; clear h1 hrow hdn hdf h2; simp only [ptrV, spotV])
        | (go_at_call 34; refine (HHE.out _).mono ?_; rintro e w2 ⟨rfl, h2⟩; obtain rfl := h2.symm; simp only []))
      have q6' : (w1.alloc (.cells #[.pointer (some ⟨A d, 0, none⟩), .string ⟨k.toArray⟩, .pointer none, .slice (some ⟨g, 0, none⟩) lg cc] 74)).cell? ⟨f, 6, none⟩ = some (.int .i64 c.count) := by rw [World.cell?_alloc_old _ _ _ (Nat.ne_of_lt hlf)]; exact q6
      have q4' : (w1.alloc (.cells #[.pointer (some ⟨A d, 0, none⟩), .string ⟨k.toArray⟩, .pointer none, .slice (some ⟨g, 0, none⟩) lg cc] 74)).cell? ⟨f, 4, none⟩ = some (.int .i64 c.nodes) := by rw [World.cell?_alloc_old _ _ _ (Nat.ne_of_lt hlf)]; exact q4
      go_quiet (fail)
      go_wp2_with fail
      rw [← HQ.out]
      exact MutP.same HF.out (below_drewN (H1.out.alloc H1.out.size _) _)
    · rw [if_neg hfull] at hm'
      injection hm' with e1 e2
      injection e2 with e2 e3
      have hd : decide (c.nodes ≤ c.count) = false := decide_eq_false hfull
      have HFT := Lib.hid hft
      have HX := Lib.hid hx
      have hkl : k.length ≤ maxLen := hp.each k (by rw [hL]; simp)
      have hcount := hc.count
      have hclock := hc.clock
      have HE2 := Lib.hid e2
      have HE3 := Lib.hid e3
      subst e1
      clear hT hft h0 hQ hp hE hm hL hk e2 e3 hc
      go_enter Tryz.func15, Tryz.ntmps15
      go_wp2_with (first
        | (go_at_call 33; refine HB.out.mono ?_; rintro e w1 ⟨dn, g, cc, hdn, hdf, rfl, hrow, h1⟩; have H1 := Lib.hid h1; have h2 := (HT.out.only (X := fun _ => False) (Only.of_below h1) (fun _ h => h.elim)).rootBlk H0.out; have q4 : w1.cell? ⟨f, 4, none⟩ = some (.int .i64 c.nodes) := cell_of h2 4; have q6 : w1.cell? ⟨f, 6, none⟩ = some (.int .i64 c.count) := cell_of h2 6; have hlf := blk_lt h2; have HDN := Lib.hid hdn; have HDF := Lib.hid hdf; clear h1 hrow hdn hdf h2; simp only [ptrV, spotV])
        | (go_at_call 34; refine (HHE.out _).mono ?_; rintro e w2 ⟨rfl, h2⟩; obtain rfl := h2.symm; simp only []))
      have q6' : (w1.alloc (.cells #[.pointer (some ⟨A d, 0, none⟩), .string ⟨k.toArray⟩, .pointer none, .slice (some ⟨g, 0, none⟩) lg cc] 74)).cell? ⟨f, 6, none⟩ = some (.int .i64 c.count) := by rw [World.cell?_alloc_old _ _ _ (Nat.ne_of_lt hlf)]; exact q6
      have q4' : (w1.alloc (.cells #[.pointer (some ⟨A d, 0, none⟩), .string ⟨k.toArray⟩, .pointer none, .slice (some ⟨g, 0, none⟩) lg cc] 74)).cell? ⟨f, 4, none⟩ = some (.int .i64 c.nodes) := by rw [World.cell?_alloc_old _ _ _ (Nat.ne_of_lt hlf)]; exact q4
      go_quiet (fail)
      go_wp2_with fail
      have hz : (((w1.alloc (.cells #[.pointer (some ⟨A d, 0, none⟩), .string ⟨k.toArray⟩, .pointer none, .slice (some ⟨g, 0, none⟩) lg cc] 74)).drewN nq)).heap.size = w1.heap.size + 1 := by simp [World.drewN]
      obtain ⟨W3, hW3⟩ : ∃ W3, (((w1.alloc (.cells #[.pointer (some ⟨A d, 0, none⟩), .string ⟨k.toArray⟩, .pointer none, .slice (some ⟨g, 0, none⟩) lg cc] 74)).drewN nq).alloc (.cells #[.bool false, .slice none 0 0, .int .i64 0, .map none] 69)) = W3 := ⟨_, rfl⟩
      rw [hW3]
      have hbel : Below w.heap.size w W3 := by
        rw [← hW3]
        refine (below_drewN (H1.out.alloc H1.out.size _) _).alloc ?_ _
        rw [hz]; have := H1.out.size; omega
      have hnew : W3.heap[w1.heap.size + 1]? = some (.cells (ndC ⟨false, [], 0⟩ (.slice none 0 0) none ++ []).toArray 69 (0, 0)) := by
        rw [← hW3, ← hz]
        exact heap_alloc_new _ _
      have hnb : w.heap.size ≤ w1.heap.size := H1.out.size
      obtain ⟨nb, hnbe⟩ : ∃ nb, w1.heap.size + 1 = nb := ⟨_, rfl⟩
      rw [hnbe] at hnew ⊢
      have hnbB : w.heap.size ≤ nb := by omega
      have hT3 := HT.out.only (X := fun _ => False) (Only.of_below hbel) (fun _ h => h.elim)
      have hlf3 := TreeAt.leaf' (B := B) (N := 0) (n := ⟨false, [], 0⟩) (v := .slice none 0 0) hnew ⟨rfl, .inl ⟨rfl, rfl⟩⟩ (by omega)
      have hdis : ∀ j, foot T A M V j → ¬ foot (leafT ⟨false, [], 0⟩) (fun _ => nb) (fun _ => none) (fun _ => .slice none 0 0) j := fun j h1 h2 => by
        have := HT.out.lt h1
        rcases leaf_foot h2 with e | e
        · omega
        · cases e
      have HADD := add_any hT3 hlf3 (Nat.zero_le _) H0.out HDN.out HDF.out hdis (by have := hbel.size; omega) hkl hN hcount (.pointer none) (.slice (some ⟨g, 0, none⟩) lg cc) none rfl _ _ _ rfl
      simp only [spotV] at HADD
      have HBEL := Lib.hid hbel
      have HT3 := Lib.hid hT3
      have HLF := Lib.hid (fun j h => leaf_foot (n := ⟨false, [], 0⟩) (c := nb) (v := .slice none 0 0) (j := j) h)
      clear hz hW3 hbel hnew hT3 hlf3 hdis
      refine HADD.mono ?_
      rintro e w4 ⟨rfl, m', a1, a2, a3⟩
      have A1 := Lib.hid a1
      have A2 := Lib.hid a2
      have A3 := Lib.hid a3
      have hTL : graftF T (d ++ [k]) (leafT ⟨false, [], 0⟩) (d ++ [k]) = some ⟨false, [], 0⟩ := by rw [graft_self]; rfl
      have hT0 : graftF T (d ++ [k]) (leafT ⟨false, [], 0⟩) [] = some r0 := by
        rw [graftF_out _ _ _ (fun e => by have := e.length_le; simp at this)]; exact H0.out
      have HST := stamp_any a1 hT0 hTL (by simp) hclock
      rw [graft_self] at HST
      have HGL : Hid (graftF T (d ++ [k]) (leafT ⟨false, [], 0⟩) = setF T (d ++ [k]) (some ⟨false, [], 0⟩)) := HT.out.graft_leaf HX.out _
      clear a1 a2 a3 hTL hT0 HADD
      simp only []
      have HST := Lib.hid HST
      go_wp2_with (go_at_call 36; refine HST.out.mono ?_; rintro e w5 ⟨rfl, s1, s2⟩; have S1 := Lib.hid s1; have S2 := Lib.hid s2; clear s1 s2; simp only [])
      rw [← HQ.out, ← HE2.out, ← HE3.out]
      have s1 := S1.out
      rw [HGL.out, setF_setF] at s1
      refine ⟨rfl, ⟨_, _, _, s1, fun j hj => ?_, r0, ?_, hr0⟩, ?_⟩
      · have hj2 : foot (setF (graftF T (d ++ [k]) (leafT ⟨false, [], 0⟩)) (d ++ [k]) (some ⟨false, [], c.clock + 1⟩)) (graftF A (d ++ [k]) fun _ => nb) (graftF (setF M d m') (d ++ [k]) fun _ => none) (graftF V (d ++ [k]) fun _ => .slice none 0 0) j := by
          rw [HGL.out, setF_setF]; exact hj
        rcases foot_graft (foot_setT (by rw [graft_self]; rfl) hj2) with e | e
        · rcases foot_setM e with e | e
          · exact .inl (HFT.out j e)
          · rcases A3.out with e2 | ⟨b, e2, e3⟩
            · exact .inl (HFT.out j ⟨d, dn, HDN.out, .inr (.inl (e2.symm.trans e))⟩)
            · rw [e2] at e; cases e
              exact .inr (Nat.le_trans HBEL.out.size e3)
        · rcases HLF.out j e with e | e
          · exact .inr (by omega)
          · cases e
      · rw [setF_other _ _ (by simp)]; exact H0.out
      · have hff : F f := HFT.out f ⟨[], r0, H0.out, .inl HT.out.a0⟩
        refine (Only.of_below (S := F) HBEL.out).trans (A2.out.trans (T := fun j => F j ∨ w.heap.size ≤ j) S2.out (fun j e => ?_) (fun j hj e => ?_)) (fun _ h => h) (fun i hi h => h.resolve_right (by omega))
        · rcases e with e | e | e
          · exact .inl (HFT.out j ⟨d, dn, HDN.out, .inl e.symm⟩)
          · exact .inl (HFT.out j ⟨d, dn, HDN.out, .inr (.inl e)⟩)
          · rw [e]; exact .inl hff
        · rcases e with e | e
          · rw [e]; exact .inl hff
          · exact .inr (by rw [e]; exact hnbB)
end Go.Proofs.YtcmjpkfinbakkaaGreatDoor.Vf

namespace Go.Proofs.YtcmjpkfinbakkaaGreatDoor.Vf
set_option maxRecDepth 100000
open Go.RowKit Go.Maps Go.ChangeMaps
set_option linter.unusedVariables false
/-- What a call of Write comes to. -/
def writeF (T : Tr) (c : Cn) (p : ByteArray) (bl : Bz) (more : Bool) : Int × Tr × Cn :=
  if findE T p ≠ 0 then (findE T p, T, c)
  else match T (findL p) with
    | none => if c.nodes ≤ c.count ∨ c.bytes - c.size < bl.length then (13, T, c)
      else (0, setF T (findL p) (some ⟨true, bl, c.clock + 1⟩), { c with count := c.count + 1, size := c.size + bl.length, clock := c.clock + 1 })
    | some n => if n.file = false then (10, T, c)
      else if c.bytes - (c.size - n.data.length + (if more then n.data else []).length) < bl.length then (13, T, c)
      else (0, setF T (findL p) (some ⟨true, (if more then n.data else []) ++ bl, c.clock + 1⟩), { c with size := c.size - n.data.length + ((if more then n.data else []) ++ bl).length, clock := c.clock + 1 })
/-- Bytes to be read behind b. -/
def Bin (w : World) (b : Value) (bl : Bz) : Prop := ∃ a cp, b = .slice a bl.length cp ∧ ∀ i (h : i < bl.length), ∃ g o, a = some ⟨g, o, none⟩ ∧ g < w.heap.size ∧ w.cell? ⟨g, o + i, none⟩ = some (.int .u8 bl[i].toNat)
theorem Bin.below {w w' : World} {b : Value} {bl : Bz} (h : Bin w b bl) (hb : Below w.heap.size w w') : Bin w' b bl := by
  obtain ⟨a, cp, h1, h2⟩ := h
  refine ⟨a, cp, h1, fun i hi => ?_⟩
  obtain ⟨g, o, e1, e2, e3⟩ := h2 i hi
  exact ⟨g, o, e1, Nat.lt_of_lt_of_le e2 hb.size, (hb.cell (p := ⟨g, _, none⟩) e2).trans e3⟩
set_option maxRecDepth 100000 in
set_option maxHeartbeats 4000000 in
theorem Write_no (w : World) {B N f : Nat} {c : Cn} {T : Tr} {F : Nat → Prop} (p : ByteArray) (b : Value) (bl : Bz) (more : Bool) (hF : Fs w B N f c T F) (hp : PathOk p) (er : Int)
    (hm : (findE T p ≠ 0 ∧ er = findE T p) ∨ (findE T p = 0 ∧ (∃ n, T (findL p) = some n ∧ n.file = false) ∧ er = 10)) (hb : ∃ a n cp, b = .slice a n cp) :
    Calls Tryz.prog 17 #[.pointer (some ⟨f, 0, none⟩), .string p, b, .bool more] w (MutP w B N f F er T c) := by
  obtain ⟨A, M, V, hT, hft, r0, h0, hr0⟩ := hF
  have HF : Hid (Fs w B N f c T F) := ⟨A, M, V, hT, hft, r0, h0, hr0⟩
  have HHE := Lib.hid (fun w => here_any f w)
  obtain ⟨Q, hQ⟩ : ∃ Q, MutP w B N f F er T c = Q := ⟨_, rfl⟩
  rw [hQ]
  have HQ := Lib.hid hQ
  obtain ⟨ba, bn, bc, rfl⟩ := hb
  rcases hm with ⟨hE, rfl⟩ | ⟨hE, ⟨n, hn, hnf⟩, rfl⟩
  · have HB := Lib.hid (find_bad (w := w) hT h0 hr0 hp hE)
    obtain ⟨er, her⟩ : ∃ er, findE T p = er := ⟨_, rfl⟩
    rw [her] at HB hE HQ
    have HQ2 : Hid (MutP w B N f F er T c = Q) := HQ.out
    have hne : (er != 0) = true := by simpa using hE
    clear hT hft h0 hr0 hQ hp hE her HQ
    go_enter Tryz.func17, Tryz.ntmps17
    go_wp2_with (first
      | (go_at_call 33; refine HB.out.mono ?_; rintro e w1 ⟨rfl, h1⟩; have H1 := Lib.hid h1; clear h1; simp only [spot0, spotV])
      | (go_at_call 34; refine (HHE.out _).mono ?_; rintro e w2 ⟨rfl, h2⟩; obtain rfl := h2.symm; simp only []))
    rw [← HQ2.out]
    exact MutP.same HF.out (H1.out.alloc H1.out.size _)
  · have HT := Lib.hid hT
    rcases List.eq_nil_or_concat (findL p) with hL | ⟨d, k, hL⟩
    · have HB := Lib.hid (find_root (w := w) hT h0 hr0 hp hE hL)
      have HN : Hid (T [] = some n) := by rw [Hid, ← hL]; exact hn
      clear hT hft h0 hr0 hQ hp hE hL hn
      go_enter Tryz.func17, Tryz.ntmps17
      go_wp2_with (first
        | (go_at_call 33; refine HB.out.mono ?_; rintro e w1 ⟨rfl, h1⟩; have H1 := Lib.hid h1; have h2 := (HT.out.only (X := fun _ => False) (Only.of_below h1) (fun _ h => h.elim)).rootBlk HN.out; have q0 : w1.cell? ⟨f, 0, none⟩ = some (.bool n.file) := cell_of h2 0; rw [hnf] at q0; have hlf := blk_lt h2; clear h1 h2; simp only [spot0, spotV])
        | (go_at_call 34; refine (HHE.out _).mono ?_; rintro e w2 ⟨rfl, h2⟩; obtain rfl := h2.symm; simp only []))
      have q2 : (w1.alloc (.cells #[.pointer none, .string ⟨#[]⟩, .pointer (some ⟨f, 0, none⟩), .slice none 0 0] 74)).cell? ⟨w1.heap.size, 2, none⟩ = some (.pointer (some ⟨f, 0, none⟩)) := cell_of (cs := [.pointer none, .string ⟨#[]⟩, .pointer (some ⟨f, 0, none⟩), .slice none 0 0]) (heap_alloc_new w1 _) 2
      go_quiet (fail)
      obtain ⟨W, hW⟩ : ∃ W, (w1.alloc (.cells #[.pointer none, .string ⟨#[]⟩, .pointer (some ⟨f, 0, none⟩), .slice none 0 0] 74)).drewN nq = W := ⟨_, rfl⟩
      rw [hW]
      have hbW : Below w.heap.size w W := by rw [← hW]; exact below_drewN (H1.out.alloc H1.out.size _) _
      have q0' : W.cell? ⟨f, 0, none⟩ = some (.bool false) := by
        rw [← hW, World.drewN]
        show (w1.alloc _).cell? _ = _
        rw [World.cell?_alloc_old _ _ _ (Nat.ne_of_lt hlf)]; exact q0
      clear hW q2
      go_wp2_with fail
      rw [← HQ.out]
      exact MutP.same HF.out hbW
    · have hL : findL p = d ++ [k] := by rw [hL]; simp
      have HB := Lib.hid (find_good (w := w) hT h0 hr0 hp hE hL)
      obtain ⟨lg, hlg⟩ : ∃ lg, (d ++ [k]).length = lg := ⟨_, rfl⟩
      rw [hlg] at HB
      have HN : Hid (T (d ++ [k]) = some n) := by rw [Hid, ← hL]; exact hn
      have hk : kidsOf T A d k = some (A (d ++ [k])) := by unfold kidsOf; rw [HN.out]; rfl
      rw [hk] at HB
      obtain ⟨na, hna⟩ : ∃ na, A (d ++ [k]) = na := ⟨_, rfl⟩
      rw [hna] at HB
      have HNA := Lib.hid hna
      clear hT hft h0 hr0 hQ hp hE hL hn hk hna
      go_enter Tryz.func17, Tryz.ntmps17
      go_wp2_with (first
        | (go_at_call 33; refine HB.out.mono ?_; rintro e w1 ⟨dn, g, cc, hdn, hdf, rfl, hrow, h1⟩; have H1 := Lib.hid h1; have h2 := (HT.out.only (X := fun _ => False) (Only.of_below h1) (fun _ h => h.elim)).blk _ n HN.out; rw [HNA.out] at h2; have q0 : w1.cell? ⟨na, 0, none⟩ = some (.bool n.file) := cell_of h2 0; rw [hnf] at q0; have hlf := blk_lt h2; clear h1 h2 hrow hdn hdf; simp only [spotV, ptrV])
        | (go_at_call 34; refine (HHE.out _).mono ?_; rintro e w2 ⟨rfl, h2⟩; obtain rfl := h2.symm; simp only []))
      have q2 : (w1.alloc (.cells #[.pointer (some ⟨A d, 0, none⟩), .string ⟨k.toArray⟩, .pointer (some ⟨na, 0, none⟩), .slice (some ⟨g, 0, none⟩) lg cc] 74)).cell? ⟨w1.heap.size, 2, none⟩ = some (.pointer (some ⟨na, 0, none⟩)) := cell_of (cs := [.pointer (some ⟨A d, 0, none⟩), .string ⟨k.toArray⟩, .pointer (some ⟨na, 0, none⟩), .slice (some ⟨g, 0, none⟩) lg cc]) (heap_alloc_new w1 _) 2
      go_quiet (fail)
      obtain ⟨W, hW⟩ : ∃ W, (w1.alloc (.cells #[.pointer (some ⟨A d, 0, none⟩), .string ⟨k.toArray⟩, .pointer (some ⟨na, 0, none⟩), .slice (some ⟨g, 0, none⟩) lg cc] 74)).drewN nq = W := ⟨_, rfl⟩
      rw [hW]
      have hbW : Below w.heap.size w W := by rw [← hW]; exact below_drewN (H1.out.alloc H1.out.size _) _
      have q0' : W.cell? ⟨na, 0, none⟩ = some (.bool false) := by
        rw [← hW, World.drewN]
        show (w1.alloc _).cell? _ = _
        rw [World.cell?_alloc_old _ _ _ (Nat.ne_of_lt hlf)]; exact q0
      clear hW q2
      go_wp2_with fail
      rw [← HQ.out]
      exact MutP.same HF.out hbW
end Go.Proofs.YtcmjpkfinbakkaaGreatDoor.Vf
