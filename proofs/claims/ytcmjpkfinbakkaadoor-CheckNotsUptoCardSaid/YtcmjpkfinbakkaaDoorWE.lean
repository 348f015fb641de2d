import Derived.Test.YtcmjpkfinbakkaaDoorWA
import Derived.RegionTactic
import Derived.BigQuiet
import Derived.Deep.QuietTactic
import Derived.Deep.RegionHeld3
import Derived.Maps.RangeWalk
import Derived.Test.YtcmjpkfinbakkaaDoorVG
import Derived.Test.YtcmjpkfinbakkaaDoorVM
import Derived.StillTailTactics
import Derived.Test.YtcmjpkfinbakkaaDoorA
namespace Go.Proofs.YtcmjpkfinbakkaaDoor
set_option maxRecDepth 100000
open Go.RowKit Go.Maps Go.ChangeMaps Go.Sort
set_option linter.unusedVariables false
theorem TreeAt.lower {w : World} {B B' N f : Nat} {ty : TypeId} {tl : List Value} {T : Tr} {A : Pth → Nat} {M : Pth → Option Nat} {V : Pth → Value} (h : TreeAt w B N f ty tl T A M V) (hB : B' ≤ B) : TreeAt w B' N f ty tl T A M V :=
  ⟨h.a0, h.root, h.up, h.blk, fun p n hp => by
    obtain ⟨h1, h2⟩ := h.data p n hp
    refine ⟨h1, ?_⟩
    rcases h2 with hn | ⟨g, cap, cur, e, h3, r⟩
    · exact .inl hn
    · exact .inr ⟨g, cap, cur, e, Nat.le_trans hB h3, r⟩, h.kids, fun p n hp => ⟨Nat.le_trans hB (h.base p n hp).1, fun b hb => Nat.le_trans hB ((h.base p n hp).2 b hb)⟩, h.injA, h.injM, h.injV⟩
theorem ranges_only {w w' : World} {b r n cnt : Nat} {D : DataW Unit} {left : Lit → Bool} {X : Nat → Prop} (h : w.ranges Tryd.prog 9 ptrR b r n D left cnt) (ho : Only X w w') (hb' : ¬ X b) (hr' : ¬ X r) : w'.ranges Tryd.prog 9 ptrR b r n D left cnt := by
  have h1 := h.owns.lt
  have h2 := h.lt
  obtain ⟨es, clock, since, seen, c0, hb, F, hs, hD, hr, rest⟩ := h
  exact ⟨es, clock, since, seen, c0, (ho.block b h1 hb').trans hb, F, hs, hD, (ho.block r h2 hr').trans hr, rest⟩
theorem ranges_iter {w : World} {b r n cnt : Nat} {D : DataW Unit} {left : Lit → Bool} (h : w.ranges Tryd.prog 9 ptrR b r n D left cnt) : ∃ m a s c, w.heap[r]? = some (.mapIter m a s c) := by
  obtain ⟨es, clock, since, seen, c0, hb, F, hs, hD, hr, rest⟩ := h
  exact ⟨_, _, _, _, hr⟩
theorem ptr_inv {v : Value} {y : DataW Unit × List MemPlace} (h : ptrR v = some y) : ∃ c, v = ptrV c := by
  unfold ptrR at h
  split at h
  · exact ⟨none, rfl⟩
  · exact ⟨some _, rfl⟩
  · cases h
theorem Below.only0 {w w' : World} (h : Below w.heap.size w w') : Only (fun _ => False) w w' := Only.of_below h
/-- A node's copy takes a name. -/
theorem put_after {w1 w2 : World} {B N c : Nat} {T : Tr} {A : Pth → Nat} {M : Pth → Option Nat} {V : Pth → Value} (h : TreeAt w1 B N c 45 [] T A M V) (hb : Below w1.heap.size w1 w2) (c2 : Nat) (x : ByteArray) (hx : x.size ≤ maxLen) (hN : N < 1000000) {n : Nd} (hn : T [] = some n) :
    Calls Tryd.prog 35 #[.pointer (some ⟨c, 0, none⟩), .string x, .pointer (some ⟨c2, 0, none⟩)] w2 (PutP c c2 N (ndC n (V []) (M [])) 45 (M []) (kidsOf T A []) x w2) := by
  have h2 : TreeAt w2 B N c 45 [] T A M V := h.only (X := fun _ => False) (Only.of_below hb) (fun _ h => h.elim)
  have hbk := h2.blk [] n hn
  rw [h2.a0] at hbk
  exact put_any c c2 N (ndC n (V []) (M [])) 45 (M []) (kidsOf T A []) x w2 (by simpa [tlOf, tyOf] using hbk) rfl (h2.kids [] n hn) hx (by unfold maxLen; omega)
section
variable {B N f : Nat} {ty : TypeId} {tl : List Value} {T : Tr} {A : Pth → Nat} {M : Pth → Option Nat} {V : Pth → Value}
set_option pp.maxSteps 6000 in
set_option maxHeartbeats 8000000 in
theorem copy_step (hty : ty ≠ 5) (hN : N < 1000000) (K : Nat) (hK : ∀ p, (T p).isSome = true → p.length < K) (hd : ∀ p n, T p = some n → n.data.length ≤ 1000000) (m : Nat)
    (ih : ∀ (w : World) (p : Pth) (n : Nd), K - p.length ≤ m → TreeAt w B N f ty tl T A M V → T p = some n → Calls Tryd.prog 27 #[.pointer (some ⟨A p, 0, none⟩)] w (CopyP w N T p))
    (w : World) (p : Pth) (n : Nd) (hm : K - p.length ≤ m + 1) (hT : TreeAt w B N f ty tl T A M V) (hp : T p = some n) : Calls Tryd.prog 27 #[.pointer (some ⟨A p, 0, none⟩)] w (CopyP w N T p) := by
  have HT := Lib.hid hT
  have HP := Lib.hid hp
  have hb := hT.blk p n hp
  have hlt : A p < w.heap.size := blk_lt hb
  obtain ⟨va, vc, hv, _⟩ := own_slice (hT.data p n hp)
  rw [hv] at hb
  have HDT : Hid (w.ownsRow B 5 1 (.slice va n.data.length vc) n.data.length (u8s n.data)) := by rw [← hv]; exact hT.data p n hp
  have HCL : Hid (∀ w1, Below w.heap.size w w1 → Calls Tryd.prog 25 #[.slice va n.data.length vc] w1 fun e w' => ∃ a c, e = .returned (.slice a n.data.length c) ∧ w'.ownsRow w1.heap.size 5 1 (.slice a n.data.length c) n.data.length (u8s n.data) ∧ Below w1.heap.size w1 w') := fun w1 hb1 => by
    refine (clone_own (row5_old HDT.out hb1) (hd p n hp)).mono ?_
    rintro e w' ⟨v', rfl, k1, k2⟩
    obtain ⟨a, c, rfl, _⟩ := own_slice k1
    exact ⟨a, c, rfl, k1, k2⟩
  have HC : Hid (∀ w1, Below w.heap.size w w1 → w1.cell? ⟨A p, 0, none⟩ = some (.bool n.file) ∧ w1.cell? ⟨A p, 1, none⟩ = some (.slice va n.data.length vc) ∧ w1.cell? ⟨A p, 2, none⟩ = some (.int .i64 n.time)) := fun w1 hb1 => by
    have hb' := (hb1.block _ hlt).trans hb
    exact ⟨cell_of hb' 0, cell_of hb' 1, cell_of hb' 2⟩
  obtain ⟨c0, c1, c2⟩ := HC.out w (Below.refl _ _)
  obtain ⟨Q', hQ⟩ : ∃ Q', CopyP w N T p = Q' := ⟨_, rfl⟩
  rw [hQ]
  have HQ := Lib.hid hQ
  clear hT hp hb hv hQ
  obtain ⟨dl, hdl⟩ : ∃ dl, n.data.length = dl := ⟨_, rfl⟩
  have HDL := Lib.hid hdl
  rw [hdl] at HCL HC HDT c1
  clear hdl
  go_enter Tryd.func27, Tryd.ntmps27
  go_wp2_with fail
  go_region_held3 (fun w' => w'.cell? ⟨A p, 0, none⟩ = some (.bool n.file) ∧ w'.cell? ⟨A p, 1, none⟩ = some (.slice va dl vc) ∧ w'.cell? ⟨A p, 2, none⟩ = some (.int .i64 n.time)) (first | exact HC.out _ ((Below.refl _ _).drew.trans (hbq.alloc hbq.size _)) | exact HC.out _ ((Below.refl _ _).drew.trans hbq) | exact HC.out _ (Below.refl _ _).drew) (first
    | (go_at_call 25; ((with_reducible refine (HCL.out _ (Below.refl _ _).drew).mono ?_)); rintro e wq ⟨ca, cc, rfl, hrq, hbq⟩))
  have hbw : Below w.heap.size w wq := (Below.refl w.heap.size w).drew.trans hbq
  obtain ⟨W1, hW1⟩ : ∃ W1, wq.alloc (.cells #[.bool n.file, .slice ca dl cc, .int .i64 n.time, .map none] 45) = W1 := ⟨_, rfl⟩
  rw [hW1]
  have hblk : W1.heap[wq.heap.size]? = some (.cells (ndC n (.slice ca dl cc) none).toArray 45 (0, 0)) := by rw [← hW1]; exact heap_alloc_new _ _
  have hq1 : Below wq.heap.size wq W1 := by rw [← hW1]; exact (Below.refl _ _).alloc (Nat.le_refl _) _
  have hb1 : Below w.heap.size w W1 := hbw.trans (hq1.mono hbw.size)
  have hrow : W1.ownsRow w.heap.size 5 1 (.slice ca dl cc) n.data.length (u8s n.data) := by rw [HDL.out]; exact row5_old hrq hq1
  have hcs : w.heap.size ≤ wq.heap.size := hbw.size
  generalize wq.heap.size = c at hblk hq1 hcs ⊢
  have HLF : Hid (TreeAt W1 w.heap.size N c 45 [] (leafT n) (fun _ => c) (fun _ => none) (fun _ => .slice ca dl cc)) := TreeAt.leaf' (tl := []) hblk hrow hcs
  have HT1 := Lib.hid (HT.out.only (X := fun _ => False) (Only.of_below hb1) (fun _ h => h.elim))
  have c3 : W1.cell? ⟨A p, 3, none⟩ = some (.map (M p)) := cell_of (HT1.out.blk p n HP.out) 3
  have HB1 := Lib.hid hb1
  clear hbw hW1 hblk hq1 hb1 hrow hrq hbq c0 c1 c2 hlt
  cases hM : M p with
  | none =>
    rw [hM] at c3
    have hno := (HT1.out.kids p n HP.out).no hM
    have hsub : leafT n = subT T p := by
      funext q
      cases q with
      | nil => show some n = T (p ++ []); rw [List.append_nil, HP.out]
      | cons k r =>
        show none = T (p ++ k :: r)
        cases hx : T (p ++ k :: r) with
        | none => rfl
        | some m' =>
          have h1 := HT.out.pre (p ++ [k]) r (by rw [List.append_assoc]; show (T (p ++ k :: r)).isSome = true; rw [hx]; rfl)
          have h2 := kidsOf_some T A p k
          rw [hno k, h1] at h2
          cases h2
    have HSUB := Lib.hid hsub
    have hrg := run_range_nilMap (P := Tryd.prog) W1 43 9 48 Tryd.underlying43
    have hnx := fun ty => run_next_nilMap (P := Tryd.prog) W1 ty 0 0 #[]
    clear hno hsub
    go_wp2_with fail
    refine wp_loop_rounds 1 ?_
    rw [rounds_succ]
    go_wp2_with fail
    rw [← HQ.out]
    have hal : Below W1.heap.size W1 (W1.alloc (.mapIter none 0 #[] 0)) := (Below.refl _ _).alloc (Nat.le_refl _) _
    exact ⟨c, fun _ => c, fun _ => none, fun _ => .slice ca dl cc, rfl, HSUB.out ▸ (HLF.out.only (X := fun _ => False) (Only.of_below hal) (fun _ h => h.elim)), HB1.out.trans (hal.mono HB1.out.size)⟩
  | some b =>
    rw [hM] at c3
    obtain ⟨nn, D, hnn, hown, hg⟩ := (HT1.out.kids p n HP.out).yes b hM
    have hbl : b < w.heap.size := HT.out.lt ⟨p, n, HP.out, .inr (.inl hM)⟩
    have HG := Lib.hid hg
    have HM := Lib.hid hM
    clear hg hM
    go_wp2_with (at_range; refine wpList_range_own _ rfl _ 43 rfl 9 48 keyedS Tryd.underlying43 _ b nn D rfl hown ?_; intro w0 hrg0 hg0 hs0)
    go_frame
    obtain ⟨r, hr⟩ : ∃ r, W1.heap.size = r := ⟨_, rfl⟩
    rw [hr] at hrg0 ⊢
    have HR := Lib.hid hr
    have ho0 : Only (fun _ => False) W1 w0 := Only.of_grown hg0 (fun k e => by cases e)
    have hb0 : Below W1.heap.size W1 w0 := ho0.below (fun _ h => h.elim) (Nat.le_refl _)
    have HB0 := Lib.hid (HB1.out.trans (hb0.mono HB1.out.size))
    have HL0 := Lib.hid (HLF.out.only (X := fun _ => False) ho0 (fun _ h => h.elim))
    have hst : halfT T p (Maps.has D) = leafT n := half_start HT.out HP.out (fun k hk => by rw [(HG.out k).2, kidsOf_some]; exact hk)
    have HST := Lib.hid hst
    clear hg0 hs0 hr hb0 ho0 hst
    go_loopw [] (fun wx => ∃ (left : Lit → Bool) (cnt : Nat) (A2 : Pth → Nat) (M2 : Pth → Option Nat) (V2 : Pth → Value), wx.ranges Tryd.prog 9 ptrR b r nn D left cnt ∧ Hid (TreeAt wx w.heap.size N c 45 [] (halfT T p left) A2 M2 V2) ∧ Hid (Below w.heap.size w wx)) (fun wx => wx.rangeLeft b r)
    case atStart => exact ⟨_, _, _, _, _, hrg0, by rw [HST.out]; exact HL0.out, HB0.out⟩
    case round =>
      obtain ⟨left, cnt, A2, M2, V2, hrg, HT2, HBx⟩ := hrel
      go_wp2_with (at_next; refine wpList_next_ranges _ rfl _ rfl 9 keyedS ptrR Value.string ptrV (fun key kl h => by obtain ⟨s, h1, _⟩ := key_inv h; exact ⟨s, h1⟩) (fun v y h => ptr_inv h) b r nn _ _ _ rfl hrg ?_ ?_)
      · intro hc0 hl0
        have HE := Lib.hid (half_end (T := T) (p := p) hl0)
        clear hrg
        go_wp2_with fail
        rw [← HQ.out]
        exact ⟨c, _, _, _, rfl, by rw [← HE.out]; exact HT2.out, HBx.out⟩
      · intro x cp kl y1 y2 w1 cnt1 hkey hlk hv hat hrg1 hlt1 hg1 hs1 hen
        obtain ⟨sx, ex, rfl, hxs⟩ := key_inv hkey
        injection ex with ex
        subst ex
        have hhas := left_has hrg hlk
        rw [(HG.out x.data.toList).2] at hhas
        have hD := (HG.out x.data.toList).1
        rw [hat .nil] at hD
        have hptr : ptrV cp = ptrV (kidsOf T A p x.data.toList) := ptrR_inv (ps := y2) (by rw [hv, ← hD])
        have hksome : (T (p ++ [x.data.toList])).isSome = true := by rw [← kidsOf_some T A]; exact hhas
        have hkid : kidsOf T A p x.data.toList = some (A (p ++ [x.data.toList])) := by unfold kidsOf; rw [if_pos hksome]
        rw [hkid] at hptr
        have hptr : ptrV cp = .pointer (some ⟨A (p ++ [x.data.toList]), 0, none⟩) := hptr
        rw [hptr] at hen ⊢
        obtain ⟨n', hn'⟩ := Option.isSome_iff_exists.1 hksome
        have hfile : n.file = false := by
          obtain ⟨n0, h1, h2⟩ := HT.out.up p x.data.toList hksome
          rw [HP.out] at h1
          injection h1 with h1
          rw [h1]; exact h2
        have hlow : Below w.heap.size w w1 := HBx.out.trans (Only.below (S := fun j => j = r) (Only.of_grown hg1 (fun k e => by cases e; rfl)) (fun k e => by rw [e, ← HR.out]; exact HB1.out.size) HBx.out.size)
        have hTw : TreeAt w1 B N f ty tl T A M V := HT.out.only (X := fun _ => False) (Only.of_below hlow) (fun _ h => h.elim)
        have hC := ih w1 (p ++ [x.data.toList]) n' (by rw [List.length_append]; simp; omega) hTw hn'
        obtain ⟨im, ia, is_, ic, hiter⟩ := ranges_iter hrg
        have hft : ∀ j, foot (halfT T p left) A2 M2 V2 j → j ≠ r := fun j hj e => by
          subst e
          obtain ⟨q, nq, hq, e | e | e⟩ := hj
          · have := HT2.out.blk q nq hq
            rw [e, hiter] at this; cases this
          · obtain ⟨nn2, D2, _, hown2, _⟩ := (HT2.out.kids q nq hq).yes j e
            obtain ⟨es2, ck2, hb2, _⟩ := hown2
            rw [hiter] at hb2; cases hb2
          · have h5 := HT2.out.data q nq hq
            rcases h5.2 with ⟨e2, _⟩ | ⟨g, cap, cur, e2, _, hg2, _⟩
            · rw [e2] at e; cases e
            · rw [e2] at e
              injection e with e
              subst e
              rw [hiter] at hg2; cases hg2
        have hTc1 : TreeAt w1 w.heap.size N c 45 [] (halfT T p left) A2 M2 V2 := HT2.out.only (X := fun j => j = r) (Only.of_grown hg1 (fun k e => by cases e; rfl)) (fun k e hf => hft k hf e)
        have HTC1 := Lib.hid hTc1
        have HC2 := Lib.hid hC
        have HXS := Lib.hid hxs
        have HLOW := Lib.hid hlow
        have HRG1 := Lib.hid hrg1
        have HRGO := Lib.hid hrg
        have HN' := Lib.hid hn'
        have HFI := Lib.hid hfile
        have HKS := Lib.hid hksome
        have HFT := Lib.hid hft
        have HLT := Lib.hid hlt1
        clear hkey hlk hv hat hhas hD hkid hptr hn' hfile hlow hTw hC hiter hft hTc1 hrg hrg1 hg1 hs1 hksome hxs hlt1
        go_wp2_with (first
          | (go_at_call 27; refine HC2.out.mono ?_; rintro e w2 ⟨c2, A3, M3, V3, rfl, hT3, hb2⟩; have HT3 := Lib.hid hT3; have HB2 := Lib.hid hb2; have HPUT := Lib.hid (put_after HTC1.out hb2 c2 x HXS.out hN (show (halfT T p left) [] = some n from HP.out)); clear hT3 hb2; simp only [])
          | (go_at_call 35; refine HPUT.out.mono ?_; rintro e w3 ⟨rfl, m', hm1, hm2, hm3, hm4⟩; have HM1 := Lib.hid hm1; have HM2 := Lib.hid hm2; have HM3 := Lib.hid hm3; have HM4 := Lib.hid hm4; clear hm1 hm2 hm3 hm4; simp only []))
        have hd0 : (halfT T p left) [] = some n := HP.out
        have hb2 := HB2.out
        have hT3 := HT3.out
        have hwc : w.heap.size ≤ w1.heap.size := HLOW.out.size
        have hT2 : TreeAt w2 w.heap.size N c 45 [] (halfT T p left) A2 M2 V2 := HTC1.out.only (X := fun _ => False) (Only.of_below hb2) (fun _ h => h.elim)
        have hbase := hT2.base [] n hd0
        have ha0 := hT2.a0
        have hr0 : r ≠ c := fun e => HFT.out c ⟨[], n, hd0, .inl ha0⟩ e.symm
        have hX1 : ¬ (b = c ∨ M2 [] = some b) := fun e => by
          rcases e with e | e
          · rw [ha0] at hbase; have := hbase.1; omega
          · have := hbase.2 b e; omega
        have hX2 : ¬ (r = c ∨ M2 [] = some r) := fun e => by
          rcases e with e | e
          · exact hr0 e
          · exact HFT.out r ⟨[], n, hd0, .inr (.inl e)⟩ rfl
        have hrg3 := ranges_only (ranges_only HRG1.out (X := fun _ => False) (Only.of_below hb2) (fun h => h) (fun h => h)) HM3.out hX1 hX2
        have hdis : ∀ j, foot (halfT T p left) A2 M2 V2 j → ¬ foot (subT T (p ++ [x.data.toList])) A3 M3 V3 j := fun j h1 h2 => by
          have := HTC1.out.lt h1
          have := hT3.ge h2
          omega
        have hgr := hT2.graft (hT3.lower hwc) (Nat.le_succ N) (by decide) (d := []) (k := x.data.toList) hd0 HFI.out hdis HM3.out (fun j hj => by rw [ha0]; exact hj) m'
          (by rw [ha0]; simpa [ndC, tlOf, tyOf] using HM1.out) HM2.out
          (by
            rcases HM4.out with ⟨h1, _⟩ | ⟨_, h2⟩
            · exact .inl h1
            · exact .inr (fun b' hb' => by rw [h2] at hb'; injection hb' with hb'; omega))
          (by
            intro b' hb'
            rcases HM4.out with ⟨h1, _⟩ | ⟨_, h2⟩
            · exact hbase.2 b' (h1 ▸ hb')
            · rw [h2] at hb'; injection hb' with hb'
              have := hb2.size; omega)
        rw [half_step] at hgr
        have hgr2 := hgr.tight (N' := N) (fun q hq => half_cnt HT.out (by rw [HP.out]; rfl) _ q hq)
        refine ⟨⟨_, _, _, _, _, hrg3, hgr2, ?_⟩, by rw [hrg3.left_eq, HRGO.out.left_eq]; exact HLT.out⟩
        refine (HLOW.out.trans (hb2.mono hwc)).trans (HM3.out.below (fun k hk => ?_) (Nat.le_trans hwc hb2.size))
        rcases hk with e | e
        · rw [e, ← ha0]; exact hbase.1
        · exact hbase.2 k e
theorem copy_any (hty : ty ≠ 5) (hN : N < 1000000) (K : Nat) (hK : ∀ p, (T p).isSome = true → p.length < K) (hd : ∀ p n, T p = some n → n.data.length ≤ 1000000) :
    ∀ (m : Nat) (w : World) (p : Pth) (n : Nd), K - p.length ≤ m → TreeAt w B N f ty tl T A M V → T p = some n → Calls Tryd.prog 27 #[.pointer (some ⟨A p, 0, none⟩)] w (CopyP w N T p)
  | 0, w, p, n, hm, hT, hp => by
    have := hK p (by rw [hp]; rfl)
    omega
  | m + 1, w, p, n, hm, hT, hp => copy_step hty hN K hK hd m (copy_any hty hN K hK hd m) w p n hm hT hp
end
end Go.Proofs.YtcmjpkfinbakkaaDoor

namespace Go.Proofs.YtcmjpkfinbakkaaDoor
set_option maxRecDepth 100000
open Go.RowKit Go.Maps Go.ChangeMaps Go.Sort
set_option linter.unusedVariables false
/-- A tree with another block at its root. -/
theorem TreeAt.reroot {w w' : World} {B N f f' : Nat} {ty ty' : TypeId} {tl tl' : List Value} {T : Tr} {A : Pth → Nat} {M : Pth → Option Nat} {V : Pth → Value} (h : TreeAt w B N f ty tl T A M V) {n : Nd} (h0 : T [] = some n)
    (hb : w'.heap[f']? = some (.cells (ndC n (V []) (M []) ++ tl').toArray ty' (0, 0))) (hB : B ≤ f') (hne : ∀ q, q ≠ [] → (T q).isSome = true → A q ≠ f')
    (ho : ∀ j, foot T A M V j → j ≠ A [] → w'.heap[j]? = w.heap[j]?) (hM : ∀ q, (T q).isSome = true → M q ≠ some (A [])) (hV : ∀ q, (T q).isSome = true → (V q).ownBlock ≠ some (A [])) :
    TreeAt w' B N f' ty' tl' T (setF A [] f') M V := by
  have ha : ∀ {q : Pth}, q ≠ [] → setF A [] f' q = A q := fun {q} e => setF_other _ _ e
  have hk : ∀ q, kidsOf T (setF A [] f') q = kidsOf T A q := fun q => funext fun k => by
    unfold kidsOf; rw [ha (by simp)]
  have hs : ∀ {q : Pth} {m : Nd}, T q = some m → (T q).isSome = true := fun h => by rw [h]; rfl
  refine ⟨setF_same .., h.root, h.up, fun q m hq => ?_, fun q m hq => ?_, fun q m hq => ?_, fun q m hq => ?_, fun q q2 hq hq2 e => ?_, h.injM, h.injV⟩
  · by_cases e : q = []
    · subst e
      rw [setF_same]
      rw [h0] at hq; injection hq with hq; subst hq
      exact hb
    · rw [ha e]
      have e1 : tlOf tl' q = tlOf tl q := by cases q with | nil => exact absurd rfl e | cons _ _ => rfl
      have e2 : tyOf ty' q = tyOf ty q := by cases q with | nil => exact absurd rfl e | cons _ _ => rfl
      rw [e1, e2, ho (A q) ⟨q, m, hq, .inl rfl⟩ (fun e3 => e (h.injA q [] (hs hq) (hs h0) e3))]
      exact h.blk q m hq
  · exact row_only (h.data q m hq) (fun g hg hl => ho g ⟨q, m, hq, .inr (.inr hg)⟩ (fun e => hV q (hs hq) (e ▸ hg)))
  · rw [hk]
    exact (h.kids q m hq).only (fun b hb hl => ho b ⟨q, m, hq, .inr (.inl hb)⟩ (fun e => hM q (hs hq) (e ▸ hb)))
  · refine ⟨?_, (h.base q m hq).2⟩
    by_cases e : q = []
    · rw [e, setF_same]; exact hB
    · rw [ha e]; exact (h.base q m hq).1
  · by_cases e1 : q = []
    · by_cases e2 : q2 = []
      · rw [e1, e2]
      · rw [e1, setF_same, ha e2] at e
        exact absurd e.symm (hne q2 e2 hq2)
    · by_cases e2 : q2 = []
      · rw [e2, setF_same, ha e1] at e
        exact absurd e (hne q e1 hq)
      · rw [ha e1, ha e2] at e
        exact h.injA q q2 hq hq2 e
theorem tree_nm {w : World} {B N f : Nat} {ty : TypeId} {tl : List Value} {T : Tr} {A : Pth → Nat} {M : Pth → Option Nat} {V : Pth → Value} (h : TreeAt w B N f ty tl T A M V) (hty : ty ≠ 5) : (∀ q, (T q).isSome = true → M q ≠ some (A [])) ∧ ∀ q, (T q).isSome = true → (V q).ownBlock ≠ some (A []) := by
  obtain ⟨n, h0⟩ := h.root
  have hs : (T []).isSome = true := by rw [h0]; rfl
  exact ⟨fun q hq e => h.neAM hs hq e rfl, fun q hq e => h.neAV hty hs hq e rfl⟩
def CopyFP (w : World) (N : Nat) (c : Cn) (T : Tr) (e : Ending) (w' : World) : Prop :=
  ∃ f', e = .returned (.pointer (some ⟨f', 0, none⟩)) ∧ Fs w' w.heap.size N f' c T (fun j => w.heap.size ≤ j ∧ j < w'.heap.size) ∧ Below w.heap.size w w'
theorem subT_nil (T : Tr) : subT T [] = T := funext fun q => by unfold subT; rfl
set_option pp.maxSteps 6000 in
set_option maxHeartbeats 8000000 in
theorem Copy_any {w : World} {B N f : Nat} {c : Cn} {T : Tr} {F : Nat → Prop} (hF : Fs w B N f c T F) (hB : B ≤ w.heap.size) (hN : N < 1000000) (hd : ∀ p n, T p = some n → n.data.length ≤ 1000000) :
    Calls Tryd.prog 11 #[.pointer (some ⟨f, 0, none⟩)] w (CopyFP w N c T) := by
  obtain ⟨A, M, V, hT, hft, r0, h0, hr0⟩ := hF
  have hb := hT.blk [] r0 h0
  rw [hT.a0] at hb
  obtain ⟨va, vc, hv, _⟩ := own_slice (hT.data [] r0 h0)
  rw [hv] at hb
  have q0 : w.cell? ⟨f, 0, none⟩ = some (.bool r0.file) := cell_of hb 0
  have q1 : w.cell? ⟨f, 1, none⟩ = some (.slice va r0.data.length vc) := cell_of hb 1
  have q2 : w.cell? ⟨f, 2, none⟩ = some (.int .i64 r0.time) := cell_of hb 2
  have q3 : w.cell? ⟨f, 3, none⟩ = some (.map (M [])) := cell_of hb 3
  have q4 : w.cell? ⟨f, 4, none⟩ = some (.int .i64 c.nodes) := cell_of hb 4
  have q5 : w.cell? ⟨f, 5, none⟩ = some (.int .i64 c.bytes) := cell_of hb 5
  have q6 : w.cell? ⟨f, 6, none⟩ = some (.int .i64 c.count) := cell_of hb 6
  have q7 : w.cell? ⟨f, 7, none⟩ = some (.int .i64 c.size) := cell_of hb 7
  have q8 : w.cell? ⟨f, 8, none⟩ = some (.int .i64 c.clock) := cell_of hb 8
  have HHE := Lib.hid (fun w => here_any f w)
  obtain ⟨W1, hW1⟩ : ∃ W1, w.alloc (.cells #[.bool r0.file, .slice va r0.data.length vc, .int .i64 r0.time, .map (M []), .int .i64 c.nodes, .int .i64 c.bytes, .int .i64 c.count, .int .i64 c.size, .int .i64 c.clock] 47) = W1 := ⟨_, rfl⟩
  have hb1 : Below w.heap.size w W1 := by rw [← hW1]; exact (Below.refl _ _).alloc (Nat.le_refl _) _
  have hs1 : W1.heap.size = w.heap.size + 1 := by rw [← hW1]; simp
  have hk1 : W1.heap[w.heap.size]? = some (.cells (ndC r0 (.slice va r0.data.length vc) (M []) ++ c.tl).toArray 47 (0, 0)) := by rw [← hW1]; exact heap_alloc_new _ _
  have hnm := tree_nm hT (by decide)
  have hTr : TreeAt W1 B N w.heap.size 47 c.tl T (setF A [] w.heap.size) M V :=
    hT.reroot h0 (by rw [hv]; exact hk1) hB (fun q _ hq e => by
      obtain ⟨m, hm⟩ := Option.isSome_iff_exists.1 hq
      have := hT.lt ⟨q, m, hm, .inl rfl⟩
      omega) (fun j hj _ => hb1.block j (hT.lt hj)) hnm.1 hnm.2
  have hcp := copy_any (by decide) hN W1.heap.size (fun p hp => hTr.depth hp) hd W1.heap.size W1 [] r0 (by omega) hTr h0
  rw [setF_same] at hcp
  obtain ⟨Q', hQ⟩ : ∃ Q', CopyFP w N c T = Q' := ⟨_, rfl⟩
  rw [hQ]
  have HQ := Lib.hid hQ
  have HCP := Lib.hid hcp
  have HW1 := Lib.hid hW1
  have HB1 := Lib.hid hb1
  have HK1 := Lib.hid hk1
  have HS1 := Lib.hid hs1
  have H0 := Lib.hid h0
  have HR0 := Lib.hid hr0
  clear hT hft hb hv hW1 hb1 hs1 hk1 hnm hTr hcp hQ h0 hr0
  go_enter Tryd.func11, Tryd.ntmps11
  go_wp2_with (first
    | (go_at_call 21; refine (HHE.out _).mono ?_; rintro e w' ⟨rfl, h9⟩; obtain rfl := h9.symm; simp only [])
    | (go_at_call 27; rw [HW1.out]; refine HCP.out.mono ?_; rintro e w2 ⟨c2, A2, M2, V2, rfl, hT2, hb2⟩; have hk2 := (hb2.block w.heap.size (by rw [HS1.out]; omega)).trans HK1.out; have hc2 := hT2.blk [] r0 (show subT T [] [] = some r0 from H0.out); rw [hT2.a0] at hc2; obtain ⟨ua, uc, hu, _⟩ := own_slice (hT2.data [] r0 (show subT T [] [] = some r0 from H0.out)); rw [hu] at hc2; have HU := Lib.hid hu; have p0 : w2.cell? ⟨c2, 0, none⟩ = some (.bool r0.file) := cell_of hc2 0; have p1 : w2.cell? ⟨c2, 1, none⟩ = some (.slice ua r0.data.length uc) := cell_of hc2 1; have p2 : w2.cell? ⟨c2, 2, none⟩ = some (.int .i64 r0.time) := cell_of hc2 2; have p3 : w2.cell? ⟨c2, 3, none⟩ = some (.map (M2 [])) := cell_of hc2 3; have s0 : w2.cell? ⟨w.heap.size, 0, none⟩ = some (.bool r0.file) := cell_of hk2 0; have s1 : w2.cell? ⟨w.heap.size, 1, none⟩ = some (.slice va r0.data.length vc) := cell_of hk2 1; have s2 : w2.cell? ⟨w.heap.size, 2, none⟩ = some (.int .i64 r0.time) := cell_of hk2 2; have s3 : w2.cell? ⟨w.heap.size, 3, none⟩ = some (.map (M [])) := cell_of hk2 3; have f0 := free_of hk2 0; have f1 := free_of hk2 1; have f2 := free_of hk2 2; have f3 := free_of hk2 3; have HK2 := Lib.hid hk2; have HT2 := Lib.hid hT2; have HB2 := Lib.hid hb2; clear hk2 hc2 hT2 hb2 hu; simp only []))
  rw [← HQ.out]
  have hs := set_of (set_of (set_of (set_of HK2.out 0 (.bool r0.file)) 1 (.slice ua r0.data.length uc)) 2 (.int .i64 r0.time)) 3 (.map (M2 []))
  have hw3 : ∀ g, g ≠ w.heap.size → ((((w2.setCell ⟨w.heap.size, 0, none⟩ (.bool r0.file)).setCell ⟨w.heap.size, 1, none⟩ (.slice ua r0.data.length uc)).setCell ⟨w.heap.size, 2, none⟩ (.int .i64 r0.time)).setCell ⟨w.heap.size, 3, none⟩ (.map (M2 []))).heap[g]? = w2.heap[g]? := fun g hg => by
    rw [Below.heap_setCell _ _ _ _ hg, Below.heap_setCell _ _ _ _ hg, Below.heap_setCell _ _ _ _ hg, Below.heap_setCell _ _ _ _ hg]
  have hb3 : Below w.heap.size w ((((w2.setCell ⟨w.heap.size, 0, none⟩ (.bool r0.file)).setCell ⟨w.heap.size, 1, none⟩ (.slice ua r0.data.length uc)).setCell ⟨w.heap.size, 2, none⟩ (.int .i64 r0.time)).setCell ⟨w.heap.size, 3, none⟩ (.map (M2 []))) := by
    have hb2 : Below w.heap.size w w2 := HB1.out.trans (HB2.out.mono (by rw [HS1.out]; omega))
    exact (((hb2.setCell (Nat.le_refl _) _).setCell (Nat.le_refl _) _).setCell (Nat.le_refl _) _).setCell (Nat.le_refl _) _
  generalize ((((w2.setCell ⟨w.heap.size, 0, none⟩ (.bool r0.file)).setCell ⟨w.heap.size, 1, none⟩ (.slice ua r0.data.length uc)).setCell ⟨w.heap.size, 2, none⟩ (.int .i64 r0.time)).setCell ⟨w.heap.size, 3, none⟩ (.map (M2 []))) = w3 at hs hw3 hb3 ⊢
  have hT2 := HT2.out
  rw [subT_nil] at hT2
  have hge : ∀ j, foot T A2 M2 V2 j → w.heap.size + 1 ≤ j := fun j hj => by rw [← HS1.out]; exact hT2.ge hj
  have hlow := hT2.lower (B' := w.heap.size) (by rw [HS1.out]; omega)
  have hnm := tree_nm hlow (by decide)
  have hfin : TreeAt w3 w.heap.size N w.heap.size 47 c.tl T (setF A2 [] w.heap.size) M2 V2 :=
    hlow.reroot H0.out (by rw [HU.out]; exact hs) (Nat.le_refl _) (fun q _ hq e => by
      obtain ⟨m, hm⟩ := Option.isSome_iff_exists.1 hq
      have := hge _ ⟨q, m, hm, .inl rfl⟩
      omega) (fun j hj _ => hw3 j (fun e => by have := hge j hj; omega)) hnm.1 hnm.2
  exact ⟨w.heap.size, rfl, ⟨_, M2, V2, hfin, fun j hj => ⟨hfin.ge hj, hfin.lt hj⟩, r0, H0.out, HR0.out⟩, hb3⟩
end Go.Proofs.YtcmjpkfinbakkaaDoor

namespace Go.Proofs.YtcmjpkfinbakkaaDoor
set_option maxRecDepth 100000
open Go.RowKit Go.Maps Go.ChangeMaps
set_option linter.unusedVariables false
theorem own_slice0 {w : World} {B e sz n : Nat} {v : Value} {xs : List Value} (h : w.ownsRow B e sz v n xs) : ∃ a c, v = .slice a n c ∧ n ≤ c := by
  rcases h.2 with ⟨h1, h0⟩ | ⟨b, cap, cur, rfl, h2, h3, h4, _⟩
  · exact ⟨none, 0, by rw [h0]; exact h1, by omega⟩
  · exact ⟨_, cap, rfl, h4⟩
set_option pp.maxSteps 8000 in
set_option maxHeartbeats 8000000 in
theorem Write_over (w : World) {B N f : Nat} {c : Cn} {T : Tr} {F : Nat → Prop} (p : ByteArray) (hF : Fs w B N f c T F) (hp : PathOk p) (hc : c.Ok) (hN : N < maxLen) (hB : B ≤ w.heap.size) (hE : findE T p = 0) {n : Nd} (hn : T (findL p) = some n) (hnf : n.file = true) (hol : n.data.length ≤ 1000000) (bl : Bz) (ba : Option Addr) (bc : Nat) (hb : Bin w (.slice ba bl.length bc) bl) (hba : ∀ a, ba = some a → ¬ F a.block) (hbl : bl.length ≤ 1000000)
    (hroom : ¬ c.bytes - (c.size - n.data.length) < bl.length) :
    Calls Tryd.prog 8 #[.pointer (some ⟨f, 0, none⟩), .string p, .slice ba bl.length bc, .bool false] w (MutP w B N f F 0 (setF T (findL p) (some ⟨true, bl, c.clock + 1⟩)) { c with size := c.size - n.data.length + bl.length, clock := c.clock + 1 }) := by
  obtain ⟨A, M, V, hT, hft, r0, h0, hr0⟩ := hF
  have HF : Hid (Fs w B N f c T F) := ⟨A, M, V, hT, hft, r0, h0, hr0⟩
  have HHE := Lib.hid (fun w => here_any f w)
  obtain ⟨Q, hQ⟩ : ∃ Q, MutP w B N f F 0 (setF T (findL p) (some ⟨true, bl, c.clock + 1⟩)) { c with size := c.size - n.data.length + bl.length, clock := c.clock + 1 } = Q := ⟨_, rfl⟩
  rw [hQ]
  have HT := Lib.hid hT
  have H0 := Lib.hid h0
  have HFT := Lib.hid hft
  have HBIN := Lib.hid hb
  rcases List.eq_nil_or_concat (findL p) with hL | ⟨d, k, hL⟩
  · rw [hL, h0] at hn; injection hn with hn; rw [hn, hnf] at hr0; cases hr0
  have hL : findL p = d ++ [k] := by rw [hL]; simp
  rw [hL] at hQ hn
  have HQ := Lib.hid hQ
  have HX := Lib.hid hn
  have HB := Lib.hid (find_good (w := w) hT h0 hr0 hp hE hL)
  obtain ⟨lg, hlg⟩ : ∃ lg, (d ++ [k]).length = lg := ⟨_, rfl⟩
  rw [hlg] at HB
  obtain ⟨na, hna⟩ : ∃ na, A (d ++ [k]) = na := ⟨_, rfl⟩
  have HNA := Lib.hid hna
  have hk : kidsOf T A d k = some na := by unfold kidsOf; rw [hn, ← hna]; rfl
  rw [hk] at HB
  have hclock := hc.clock
  have hsize := hc.size
  have hbytes := hc.bytes
  obtain ⟨ova, ovc, hov, _⟩ := own_slice0 (hT.data _ n hn)
  have hfa : na ≠ f := fun e => by
    have := hT.injA (d ++ [k]) [] (by rw [hn]; rfl) (by rw [h0]; rfl) ((hna.trans e).trans hT.a0.symm)
    simp at this
  have hfa' : f ≠ na := fun e => hfa e.symm
  have HND : Hid (∀ w1, Below w.heap.size w w1 → w1.heap[na]? = some (.cells (ndC n (.slice ova n.data.length ovc) (M (d ++ [k])) ++ []).toArray 45 (0, 0))) := fun w1 hb1 => by
    have h1 := hT.blk _ n hn
    rw [hna, hov] at h1
    have e1 : tlOf c.tl (d ++ [k]) = [] := by cases d <;> rfl
    have e2 : tyOf 47 (d ++ [k]) = 45 := by cases d <;> rfl
    rw [e1, e2] at h1
    exact (hb1.block na (blk_lt h1)).trans h1
  have HRB : Hid (∀ w1, Below w.heap.size w w1 → w1.heap[f]? = some (.cells (ndC r0 (V []) (M []) ++ c.tl).toArray 47 (0, 0))) := fun w1 hb1 => by
    have h1 := hT.rootBlk h0
    exact (hb1.block f (blk_lt h1)).trans h1
  obtain ⟨bn, hbn⟩ : ∃ bn, bl.length = bn := ⟨_, rfl⟩
  have HBN := Lib.hid hbn
  obtain ⟨on, hon⟩ : ∃ on, n.data.length = on := ⟨_, rfl⟩
  have HON := Lib.hid hon
  rw [hbn] at hroom hbl HBIN ⊢
  rw [hon] at hroom hol HND
  have hd2 : decide (c.bytes - (c.size - (on : Int)) < (bn : Int)) = false := decide_eq_false hroom
  have hw1 : IntKind.i64.wrap (c.size - (on : Int)) = c.size - (on : Int) := IntWalk.i64_in _ (by omega)
  have hw2 : IntKind.i64.wrap (c.bytes - (c.size - (on : Int))) = c.bytes - (c.size - (on : Int)) := IntWalk.i64_in _ (by omega)
  have hw3 : IntKind.i64.wrap (c.size - (on : Int) + (bn : Int)) = c.size - (on : Int) + (bn : Int) := IntWalk.i64_in _ (by omega)
  have HOV := Lib.hid hov
  clear hT hft h0 hQ hp hE hL hk hn hb hc hbn hna hov hon
  go_enter Tryd.func8, Tryd.ntmps8
  go_wp2_with (first
    | (go_at_call 20; refine HB.out.mono ?_; rintro e w1 ⟨dn, g, cc, hdn, hdf, rfl, hrow, h1⟩; have H1 := Lib.hid h1; clear h1 hrow hdn hdf; simp only [ptrV, spotV])
    | (go_at_call 21; refine (HHE.out _).mono ?_; rintro e w2 ⟨rfl, h2⟩; obtain rfl := h2.symm; simp only []))
  have q2 : (w1.alloc (.cells #[.pointer (some ⟨A d, 0, none⟩), .string ⟨k.toArray⟩, .pointer (some ⟨na, 0, none⟩), .slice (some ⟨g, 0, none⟩) lg cc] 50)).cell? ⟨w1.heap.size, 2, none⟩ = some (.pointer (some ⟨na, 0, none⟩)) := cell_of (cs := [.pointer (some ⟨A d, 0, none⟩), .string ⟨k.toArray⟩, .pointer (some ⟨na, 0, none⟩), .slice (some ⟨g, 0, none⟩) lg cc]) (heap_alloc_new w1 _) 2
  go_quiet (fail)
  obtain ⟨W, hW⟩ : ∃ W, (w1.alloc (.cells #[.pointer (some ⟨A d, 0, none⟩), .string ⟨k.toArray⟩, .pointer (some ⟨na, 0, none⟩), .slice (some ⟨g, 0, none⟩) lg cc] 50)).drewN nq = W := ⟨_, rfl⟩
  rw [hW]
  have hbW : Below w1.heap.size w1 W := by rw [← hW]; exact below_drewN ((Below.refl _ _).alloc (Nat.le_refl _) _) _
  have hBW : Below w.heap.size w W := H1.out.trans (hbW.mono H1.out.size)
  have hNb := HND.out W hBW
  have hRb := HRB.out W hBW
  have c0 : W.cell? ⟨na, 0, none⟩ = some (.bool n.file) := cell_of hNb 0
  rw [hnf] at c0
  have c1 : W.cell? ⟨na, 1, none⟩ = some (.slice ova on ovc) := cell_of hNb 1
  have p5 : W.cell? ⟨f, 5, none⟩ = some (.int .i64 c.bytes) := cell_of hRb 5
  have p7 : W.cell? ⟨f, 7, none⟩ = some (.int .i64 c.size) := cell_of hRb 7
  have HBW := Lib.hid hBW
  clear hW q2 hbW hNb hRb hBW
  go_wp2_with fail
  go_quiet (fail)
  obtain ⟨W4, hW4⟩ : ∃ W4, W.drewN nq = W4 := ⟨_, rfl⟩
  rw [hW4]
  have hb4 : Below w.heap.size w W4 := by rw [← hW4]; exact below_drewN HBW.out _
  have hT4 := HT.out.only (X := fun _ => False) (Only.of_below hb4) (fun _ h => h.elim)
  have hNb := HND.out W4 hb4
  have hRb := HRB.out W4 hb4
  have p1 : W4.cell? ⟨na, 1, none⟩ = some (.slice ova on ovc) := cell_of hNb 1
  have e1 := free_of hNb 1
  have p7b : W4.cell? ⟨f, 7, none⟩ = some (.int .i64 c.size) := cell_of hRb 7
  have e7 := free_of hRb 7
  have HT4 := Lib.hid hT4
  have HB4 := Lib.hid hb4
  clear c0 c1 p5 p7 hW4 hNb hRb hT4 hb4
  go_wp2_with fail
  go_still_tail 12, (by kernel_rfl)
  change wpList _ _ _ _ _ W4.drew
  obtain ⟨w6, hw6⟩ : ∃ w6, W4.drew = w6 := ⟨_, rfl⟩
  have p7d : w6.cell? ⟨f, 7, none⟩ = some (.int .i64 c.size) := by rw [← hw6]; exact p7b
  have e7d : w6.frozen? ⟨f, 7, none⟩ = false := by rw [← hw6]; exact e7
  have hA6 := HT4.out.only (w' := w6) (X := fun _ => False) (Only.of_below (by rw [← hw6]; exact (Below.refl _ _).drew)) (fun _ h => h.elim)
  have hO6 : Only F w w6 := Only.of_below (by rw [← hw6]; exact HB4.out.drew)
  rw [hw6]
  obtain ⟨hA7, hO7⟩ := sized hA6 H0.out (c.size - on)
  obtain ⟨w7, hw7⟩ : ∃ w7, w6.setCell ⟨f, 7, none⟩ (.int .i64 (c.size - (on : Int))) = w7 := ⟨_, rfl⟩
  rw [hw7] at hA7 hO7
  have hff : F f := HFT.out f ⟨[], r0, H0.out, .inl HT.out.a0⟩
  have hO7' : Only F w w7 := hO6.trans hO7 (fun _ h => h) (fun j _ e => by rw [e]; exact hff)
  obtain ⟨va, vc, w8, hrun, hrow, hb8⟩ := app_bytes HBN.out (HBIN.out.only hO7' hba) (by rw [HBN.out]; exact hbl)
  have hA8 := hA7.only (w' := w8) (X := fun _ => False) (Only.of_below hb8) (fun _ h => h.elim)
  have hn8 := hA8.blk _ _ HX.out
  rw [HNA.out] at hn8
  have s1 : w8.cell? ⟨na, 1, none⟩ = some (V (d ++ [k])) := cell_of hn8 1
  rw [HOV.out, HON.out] at s1
  have t1 := free_of hn8 1
  have HRUN := Lib.hid hrun
  have HROW := Lib.hid hrow
  have HB8 := Lib.hid hb8
  have HA8 := Lib.hid hA8
  have HA7 := Lib.hid hA7
  have HO7 := Lib.hid hO7'
  have HW7 := Lib.hid hw7
  clear hw7 hrun hrow hb8 hA8 hn8 hA7 hO7 hO7' hO6 hA6 hw6 p7b e7 p1 e1
  go_wp2_with (at_builtin; rw [HW7.out]; refine wpList_run_append _ rfl _ _ 28 28 rfl _ _ rfl rfl HRUN.out ?_)
  have hset := set_of (HA8.out.blk _ _ HX.out) 1 (.slice va bn vc)
  rw [HNA.out] at hset
  obtain ⟨w9, hw9⟩ : ∃ w9, w8.setCell ⟨na, 1, none⟩ (.slice va bn vc) = w9 := ⟨_, rfl⟩
  rw [hw9] at hset ⊢
  have hO9 : Only (fun j => j = na) w8 w9 := by rw [← hw9]; exact (Only.refl (fun j => j = na) _).set (.inl rfl) 1 _
  have hnb8 : na < w7.heap.size := by have := blk_lt (HA7.out.blk _ _ HX.out); rw [HNA.out] at this; exact this
  have hO79 : Only (fun j => j = na) w7 w9 := (Only.of_below (S := fun j => j = na) HB8.out).trans hO9 (fun _ h => h) (fun _ _ h => h)
  have hrow9 : w9.ownsRow w7.heap.size 5 1 (.slice va bn vc) bn (u8s bl) := row_only HROW.out fun g hg _ => by
    rw [← hw9]
    exact Below.heap_setCell _ _ _ _ (fun e => by have := row_ge HROW.out hg; have e : g = na := e; omega)
  have hB7 : B ≤ w7.heap.size := by have := HO7.out.size; omega
  have hA9 := HA7.out.setNode (w' := w9) (n' := ⟨true, bl, n.time⟩) (by decide) HX.out hnf.symm (.slice va bn vc) hO79 (fun j e => .inl (by rw [HNA.out]; exact e)) (by rw [HNA.out, show ndC ⟨true, bl, n.time⟩ (.slice va bn vc) (M (d ++ [k])) = (ndC n (V (d ++ [k])) (M (d ++ [k]))).set 1 (.slice va bn vc) by unfold ndC; rw [hnf]; rfl]; exact hset) (by rw [HBN.out]; exact row_base hrow9 hB7) (fun b e => .inr (row_ge HROW.out e))
  have HT9 : Hid (setF T (d ++ [k]) (some ⟨true, bl, n.time⟩) [] = some r0) := by
    rw [Hid, setF_other _ _ (by simp)]; exact H0.out
  have hr9 := hA9.rootBlk HT9.out
  have p7' : w9.cell? ⟨f, 7, none⟩ = some (.int .i64 (c.size - (on : Int))) := cell_of hr9 7
  have e7' := free_of hr9 7
  have p1' : w9.cell? ⟨na, 1, none⟩ = some (.slice va bn vc) := cell_of hset 1
  have HA9 := Lib.hid hA9
  have HO79 := Lib.hid hO79
  clear hA9 hr9 hset hw9 hO9 hrow9 hO79 s1 t1
  go_still_tail 12, (by kernel_rfl)
  change wpList _ _ _ _ _ w9.drew
  obtain ⟨w10, hw10⟩ : ∃ w10, w9.drew = w10 := ⟨_, rfl⟩
  have p7d' : w10.cell? ⟨f, 7, none⟩ = some (.int .i64 (c.size - (on : Int))) := by rw [← hw10]; exact p7'
  have e7d' : w10.frozen? ⟨f, 7, none⟩ = false := by rw [← hw10]; exact e7'
  have hA10 := HA9.out.only (w' := w10) (X := fun _ => False) (Only.of_below (by rw [← hw10]; exact (Below.refl _ _).drew)) (fun _ h => h.elim)
  have hO10 : Only (fun _ => False) w9 w10 := Only.of_below (by rw [← hw10]; exact (Below.refl _ _).drew)
  rw [hw10]
  obtain ⟨hA11, hO11⟩ := sized hA10 HT9.out (c.size - on + bn)
  have HST := stamp_any hA11 HT9.out (p := d ++ [k]) (n := ⟨true, bl, n.time⟩) (setF_same _ _ _) (by simp) hclock
  rw [HNA.out] at HST
  obtain ⟨w11, hw11⟩ : ∃ w11, w10.setCell ⟨f, 7, none⟩ (.int .i64 (c.size - (on : Int) + (bn : Int))) = w11 := ⟨_, rfl⟩
  rw [hw11] at HST hO11
  have HW11 := Lib.hid hw11
  have HST := Lib.hid HST
  have HO10 := Lib.hid hO10
  have HO11 := Lib.hid hO11
  clear hA10 hA11 hO10 hO11 hw10 hw11 p7' e7' p1'
  go_wp2_with (go_at_call 23; rw [HW11.out]; refine HST.out.mono ?_; rintro e w12 ⟨rfl, z1, z2⟩; have Z1 := Lib.hid z1; have Z2 := Lib.hid z2; clear z1 z2; simp only [])
  rw [← HQ.out]
  rw [HBN.out, HON.out]
  have z1 := Z1.out
  rw [setF_setF] at z1
  have hfna : F na := HFT.out na ⟨d ++ [k], n, HX.out, .inl HNA.out⟩
  refine ⟨rfl, ⟨_, _, _, z1.mono (Nat.le_succ N), fun j hj => ?_, r0, ?_, hr0⟩, ?_⟩
  · rcases foot_setV (foot_setT (by rw [HX.out]; rfl) hj) with e | e
    · exact .inl (HFT.out j e)
    · exact .inr (Nat.le_trans HO7.out.size (row_ge HROW.out e))
  · rw [setF_other _ _ (by simp)]; exact H0.out
  · have t9 : Only F w7 w9 := HO79.out.mono fun j e => by have e : j = na := e; rw [e]; exact hfna
    have t10 : Only F w9 w10 := HO10.out.mono fun j e => e.elim
    have t11 : Only F w10 w11 := HO11.out.mono fun j e => by have e : j = f := e; rw [e]; exact hff
    have t12 : Only F w11 w12 := Z2.out.mono fun j e => by
      rcases e with e | e
      · rw [e]; exact hff
      · rw [e]; exact hfna
    exact HO7.out.trans (((t9.trans t10 (fun _ h => h) (fun _ _ h => h)).trans t11 (fun _ h => h) (fun _ _ h => h)).trans t12 (fun _ h => h) (fun _ _ h => h)) (fun _ h => h) (fun j _ e => e)
end Go.Proofs.YtcmjpkfinbakkaaDoor

namespace Go.Proofs.YtcmjpkfinbakkaaDoor
open Go.RowKit Go.Maps Go.ChangeMaps
set_option linter.unusedVariables false
theorem root_no : ¬ (0 ≤ at_ root1 0 (root1.size + 1) 0) := by decide
theorem path_of {p : ByteArray} {L : Pth} (h : parts root1 p = L) (hG : Good L) (hs : ∀ x ∈ L, x.length ≤ 60) (hf : L.length ≤ 20) (hw : (written L).length ≤ 200) (hp0 : p.size ≠ 0) (hps : p.size ≤ 30000) (hz : ∀ c ∈ p.data.toList, c ≠ 0) :
    findL p = L ∧ (∀ T, findE T p = (wayE T [] L : Nat)) ∧ PathOk p := by
  have ha : abs_ root1 p = (written L, 0) := by
    unfold abs_
    rw [if_neg, h, if_neg, if_neg]
    · omega
    · rintro ⟨x, hx, g⟩; have := hs x hx; omega
    · rintro (g | g | g)
      · exact hp0 g
      · exact hz 0 ((at_mem p 0).1 g) rfl
      · exact root_no g
  have hL : findL p = L := by
    unfold findL
    rw [ha]
    show parts root1 ⟨(written L).toArray⟩ = L
    rw [parts_eq]
    have : (⟨(written L).toArray⟩ : ByteArray).data.toList = written L := by simp
    rw [this]
    exact partsL_written _ hG
  refine ⟨hL, fun T => ?_, hps, by rw [ha]; show (written L).length ≤ 40000; omega, by rw [hL]; omega, fun x hx => ?_⟩
  · unfold findE
    rw [ha, hL]; rfl
  · rw [hL] at hx
    have := hs x hx
    unfold maxLen; omega
/-- A name that a directory may hold. -/
structure Nm (s : Bz) : Prop where
  ne : s ≠ []
  dot : s ≠ [46]
  dots : s ≠ [46, 46]
  no : ∀ c ∈ s, c ≠ 47
  nul : ∀ c ∈ s, c ≠ 0
  le : s.length ≤ 60
theorem push_nm {s : Bz} (h : Nm s) (l : List Bs) : push l s = l ++ [s] := by
  unfold push
  rw [if_neg (by rintro (e | e); exact h.ne e; exact h.dot e), if_neg h.dots]
theorem parts_of (p : ByteArray) : parts root1 p = (sp p.data.toList).foldl push [] := by
  unfold parts
  by_cases h : 0 < p.size ∧ gb p 0 = 47
  · rw [if_pos h]
  · rw [if_neg h]; rfl
theorem nm_parts {s : ByteArray} (h : Nm s.data.toList) : parts root1 (⟨#[47, 100, 47]⟩ ++ s) = [[100], s.data.toList] ∧ parts root1 (⟨#[100, 47]⟩ ++ s) = [[100], s.data.toList] := by
  have e1 : ((⟨#[47, 100, 47]⟩ : ByteArray) ++ s).data.toList = [] ++ 47 :: ([100] ++ 47 :: s.data.toList) := by simp
  have e2 : ((⟨#[100, 47]⟩ : ByteArray) ++ s).data.toList = [100] ++ 47 :: s.data.toList := by simp
  have hn : ∀ c ∈ ([100] : Bz), c ≠ 47 := by decide
  have hd : push ([] : List Bs) [100] = [[100]] := by decide
  constructor
  · rw [parts_of, e1, sp_cut [] _ (by simp), sp_cut [100] _ hn, sp_all _ h.no]
    show List.foldl push (push (push (push [] []) [100]) s.data.toList) [] = _
    rw [show push ([] : List Bs) [] = [] from rfl, hd, push_nm h]; rfl
  · rw [parts_of, e2, sp_cut [100] _ hn, sp_all _ h.no]
    show List.foldl push (push (push [] [100]) s.data.toList) [] = _
    rw [hd, push_nm h]; rfl
theorem nm_good {s : Bz} (h : Nm s) : Good [[100], s] := by
  intro x hx
  simp at hx
  rcases hx with rfl | rfl
  · decide
  · exact ⟨h.ne, h.dot, h.dots, h.no⟩
theorem nm_path {s : ByteArray} (h : Nm s.data.toList) (p : ByteArray) (hp : p = ⟨#[47, 100, 47]⟩ ++ s ∨ p = ⟨#[100, 47]⟩ ++ s) : findL p = [[100], s.data.toList] ∧ (∀ T, findE T p = (wayE T [] [[100], s.data.toList] : Nat)) ∧ PathOk p := by
  have hl : s.data.toList.length = s.size := Array.length_toList
  have hle := h.le
  have hsz : p.size = p.data.toList.length := Array.length_toList.symm
  have hdl : p.data.toList = 47 :: 100 :: 47 :: s.data.toList ∨ p.data.toList = 100 :: 47 :: s.data.toList := by
    rcases hp with rfl | rfl
    · exact .inl (by simp)
    · exact .inr (by simp)
  have hw : (written [[100], s.data.toList]).length ≤ 200 := by simp [written, joined]; omega
  refine path_of ?_ (nm_good h) (fun x hx => ?_) (by simp) hw ?_ ?_ ?_
  · rcases hp with rfl | rfl
    · exact (nm_parts h).1
    · exact (nm_parts h).2
  · simp at hx
    rcases hx with rfl | rfl
    · simp
    · exact hle
  · rw [hsz]; rcases hdl with e | e <;> rw [e] <;> simp
  · rw [hsz]; rcases hdl with e | e <;> rw [e] <;> simp only [List.length_cons] <;> omega
  · intro c hc
    rcases hdl with e | e
    · rw [e] at hc
      simp at hc
      rcases hc with rfl | rfl | rfl | hc
      · decide
      · decide
      · decide
      · exact h.nul c (by simpa using hc)
    · rw [e] at hc
      simp at hc
      rcases hc with rfl | rfl | hc
      · decide
      · decide
      · exact h.nul c (by simpa using hc)
theorem path_d : findL ⟨#[47, 100]⟩ = [[100]] ∧ (∀ T, findE T ⟨#[47, 100]⟩ = (wayE T [] [[100]] : Nat)) ∧ PathOk ⟨#[47, 100]⟩ :=
  path_of (by decide) (by unfold Good; decide) (by decide) (by decide) (by decide) (by decide) (by decide) (by decide)
theorem path_x : findL ⟨#[47, 120]⟩ = [[120]] ∧ (∀ T, findE T ⟨#[47, 120]⟩ = (wayE T [] [[120]] : Nat)) ∧ PathOk ⟨#[47, 120]⟩ :=
  path_of (by decide) (by unfold Good; decide) (by decide) (by decide) (by decide) (by decide) (by decide) (by decide)
theorem path_a : findL ⟨#[47, 97]⟩ = [[97]] ∧ (∀ T, findE T ⟨#[47, 97]⟩ = (wayE T [] [[97]] : Nat)) ∧ PathOk ⟨#[47, 97]⟩ :=
  path_of (by decide) (by unfold Good; decide) (by decide) (by decide) (by decide) (by decide) (by decide) (by decide)
end Go.Proofs.YtcmjpkfinbakkaaDoor
