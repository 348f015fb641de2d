import Derived.Test.YtjagnihkpgbjeaaDoorFB
import Derived.Test.YtjagnihkpgbjeaaDoorZB
import Derived.Test.YtjagnihkpgbjeaaDoorZ
import Derived.RangeFuncNested
import Derived.RangeFuncBound
import Derived.RangeFuncCalls
import Derived.RangeFuncLeaves
import Derived.RangeFuncBox
import Derived.Shelf.Abstract
import Derived.Shelf.RegionOpen
import Derived.OwnWalkIn
import Derived.TacticsInMore
import Derived.LoopNIn
import Derived.LoopIn
import Derived.Maps.AppendAt
namespace Go.Proofs.YtjagnihkpgbjeaaDoor
open Go.RowKit Go.Maps Go.ChangeMaps
set_option linter.unusedVariables false
/-- Where the way to a place ends: 0, or 6 (there is no node), or 11 (a file is on the way). -/
def wayE (T : Tr) : Pth → Pth → Nat
  | _, [] => 0
  | _, [_] => 0
  | pre, k :: l :: r => match T (pre ++ [k]) with
    | none => 6
    | some n => if n.file = true then 11 else wayE T (pre ++ [k]) (l :: r)
def spotV (d : Value) (nm : ByteArray) (n : Value) (ns : Value) : Value := .agg #[d, .string nm, n, ns]
def spot0 : Value := spotV (.pointer none) ⟨#[]⟩ (.pointer none) (.slice none 0 0)
theorem below_drewN {a w : World} (h : Below a.heap.size a w) (n : Nat) : Below a.heap.size a (w.drewN n) := ⟨h.os, h.tape, h.output, h.size, h.block⟩
set_option maxRecDepth 100000 in
set_option maxHeartbeats 2000000 in
theorem walk_root (f : Nat) (Ad : Option Addr) (c : Nat) (w : World) :
    Calls Tryd.prog 65 #[.pointer (some ⟨f, 0, none⟩), .slice Ad 0 c] w fun e w' => e = .returned (.tuple #[spotV (.pointer none) ⟨#[]⟩ (.pointer (some ⟨f, 0, none⟩)) (.slice none 0 0), .int .i64 0]) ∧ Below w.heap.size w w' := by
  go_enter Tryd.func65, Tryd.ntmps65
  go_wp2_with fail
  refine wp_scope_straight ?_
  go_wp2_with fail
  simp +zetaDelta only [Exit.noGoto_ret]
  refine bodyPost_ret (v := .tuple #[spotV (.pointer none) ⟨#[]⟩ (.pointer (some ⟨f, 0, none⟩)) (.slice none 0 0), .int .i64 0]) ?_ rfl ?_
  · simp [results, Tryd.results65, go_sem]
    rfl
  · exact ⟨rfl, (Below.refl _ _).alloc (Nat.le_refl _) _⟩
theorem below4 {w W : World} (h : Below w.heap.size w W) (v0 v1 v2 v3 : Value) : Below w.heap.size w ((((W.setCell ⟨w.heap.size, 0, none⟩ v0).setCell ⟨w.heap.size, 1, none⟩ v1).setCell ⟨w.heap.size, 2, none⟩ v2).setCell ⟨w.heap.size, 3, none⟩ v3) :=
  (((h.setCell (p := ⟨w.heap.size, 0, none⟩) (Nat.le_refl _) v0).setCell (p := ⟨w.heap.size, 1, none⟩) (Nat.le_refl _) v1).setCell (p := ⟨w.heap.size, 2, none⟩) (Nat.le_refl _) v2).setCell (p := ⟨w.heap.size, 3, none⟩) (Nat.le_refl _) v3
/-- What the walk's end says: the place's spot. -/
def WalkP (T : Tr) (A : Pth → Nat) (M : Pth → Option Nat) (L : Pth) (nv : Value) (w : World) (e : Ending) (w' : World) : Prop :=
  Below w.heap.size w w' ∧ ((wayE T [] L ≠ 0 ∧ e = .returned (.tuple #[spot0, .int .i64 (wayE T [] L)])) ∨
    (wayE T [] L = 0 ∧ ∃ d k dn, L = d ++ [k] ∧ T d = some dn ∧ dn.file = false ∧ e = .returned (.tuple #[spotV (.pointer (some ⟨A d, 0, none⟩)) ⟨k.toArray⟩ (ptrV (kidsOf T A d k)) nv, .int .i64 0])))
theorem wayE_step {T : Tr} {L : Pth} {i : Nat} (hi : i + 1 < L.length) (pre : Pth) : wayE T pre (L.drop i) = match T (pre ++ [L[i]]) with
    | none => 6
    | some n => if n.file = true then 11 else wayE T (pre ++ [L[i]]) (L.drop (i + 1)) := by
  rw [List.drop_eq_getElem_cons (by omega), List.drop_eq_getElem_cons (l := L) (i := i + 1) (by omega)]
  rfl
theorem wayE_last {T : Tr} {L : Pth} {i : Nat} (hi : i + 1 = L.length) (pre : Pth) : wayE T pre (L.drop i) = 0 := by
  rw [List.drop_eq_getElem_cons (by omega), List.drop_eq_nil_of_le (by omega)]
  rfl
set_option maxRecDepth 100000 in
set_option maxHeartbeats 4000000 in
theorem walk_any (f g c base n0 : Nat) (L : Pth) (w : World) {B N : Nat} {tl : List Value} {T : Tr} {A : Pth → Nat} {M : Pth → Option Nat} {V : Pth → Value} (hT : TreeAt w B N f 71 tl T A M V) {r0 : Nd} (h0 : T [] = some r0) (hr0 : r0.file = false)
    (hL : 0 < L.length) (hL2 : L.length ≤ 1000000) (hc : L.length ≤ c) (hS : ∀ i (h : i < L.length), w.cell? ⟨g, i, none⟩ = some (.string ⟨L[i].toArray⟩)) (hs : ∀ x ∈ L, x.length ≤ maxLen) :
    Calls Tryd.prog 65 #[.pointer (some ⟨f, 0, none⟩), .slice (some ⟨g, 0, none⟩) L.length c] w (WalkP T A M L (.slice (some ⟨g, 0, none⟩) L.length c) w) := by
  have hsl := slice_last g L.length c hL hc
  have HT := Lib.hid hT
  have HS := Lib.hid hS
  have Hs := Lib.hid hs
  have hq := hS (L.length - 1) (by omega)
  obtain ⟨n1, hn1⟩ : ∃ n1, n1 + 1 = L.length := ⟨L.length - 1, by omega⟩
  obtain ⟨ln, hln⟩ : ∃ ln, L.length = ln := ⟨_, rfl⟩
  have HLN := Lib.hid hln
  have H0 := Lib.hid h0
  have hd0 : ((ln : Int) == 0) = false := by simp; omega
  have hwr : IntKind.i64.wrap ((ln : Int) - 1) = (n1 : Int) := by rw [show (ln : Int) - 1 = (n1 : Int) by omega]; exact IntWalk.i64_in _ (by omega)
  obtain ⟨lst, hlst⟩ : ∃ lst : Bz, L[n1]'(by omega) = lst := ⟨_, rfl⟩
  have hq2 : w.cell? ⟨g, n1, none⟩ = some (.string ⟨lst.toArray⟩) := by rw [← hlst]; exact hS n1 (by omega)
  have HLST := Lib.hid hlst
  rw [hln] at hsl hn1 ⊢
  have hsl2 : ∀ w, (Instr.slice 29 (.slice (some ⟨g, 0, none⟩) ln c) none (some (.int .i64 (n1 : Int))) none).run Tryd.prog w = .ok (.slice (some ⟨g, 0, none⟩) n1 c) w := by
    intro w
    have := hsl w
    rw [show ((ln : Int) - 1) = (n1 : Int) by omega, show ln - 1 = n1 by omega] at this
    exact this
  have hg : g < w.heap.size := by
    by_cases h : g < w.heap.size
    · exact h
    · have := hq2
      simp only [World.cell?, Array.getElem?_eq_none (Nat.le_of_not_lt h)] at this
      cases this
  have hn1c : (n1 : Int) < (ln : Int) := by omega
  have hn10 : (0 : Int) ≤ (n1 : Int) := by omega
  clear hsl hq hT hS hs hlst h0
  go_enter Tryd.func65, Tryd.ntmps65
  go_wp2_with fail
  refine wp_scope_straight ?_
  go_wp2_with fail
  have hq3 : (w.alloc (.cells #[.pointer none, .string ⟨#[]⟩, .pointer none, .slice none 0 0] 74)).cell? ⟨g, n1, none⟩ = some (.string ⟨lst.toArray⟩) := by
    rw [World.cell?_alloc_old _ _ _ (Nat.ne_of_lt hg)]; exact hq2
  go_quiet (fail)
  obtain ⟨W, hW⟩ : ∃ W, (w.alloc (.cells #[.pointer none, .string ⟨#[]⟩, .pointer none, .slice none 0 0] 74)).drewN nq = W := ⟨_, rfl⟩
  rw [hW]
  have hbel : Below w.heap.size w W := by
    rw [← hW]
    exact below_drewN ((Below.refl _ _).alloc (Nat.le_refl _) _) _
  have hbox : W.heap[w.heap.size]? = some (.cells [.pointer none, .string ⟨#[]⟩, .pointer none, .slice none 0 0].toArray 74 (0, 0)) := by
    rw [← hW]
    exact heap_alloc_new w _
  have HTW := Lib.hid (HT.out.only (X := fun _ => False) (Only.of_below hbel) (fun _ h => h.elim))
  have hSW : ∀ i (h : i < L.length), W.cell? ⟨g, i, none⟩ = some (.string ⟨L[i].toArray⟩) := fun i h => (hbel.cell (p := ⟨g, i, none⟩) hg).trans (HS.out i h)
  have HSW := Lib.hid hSW
  have q0 := cell_of hbox 0
  have q1 := cell_of hbox 1
  have q2 := cell_of hbox 2
  have q3 := cell_of hbox 3
  have r0' := free_of hbox 0
  have r1' := free_of hbox 1
  have r2' := free_of hbox 2
  have r3' := free_of hbox 3
  simp only [List.getElem?_cons_zero, List.getElem?_cons_succ] at q0 q1 q2 q3
  have HBOX := Lib.hid hbox
  have HBEL := Lib.hid hbel
  have hwW : w.heap.size < W.heap.size := blk_lt hbox
  have key : ∀ p n (x : Bz), x.length ≤ maxLen → T p = some n → W.cell? ⟨A p, 3, none⟩ = some (.map (M p)) ∧ W.cell? ⟨A p, 0, none⟩ = some (.bool n.file) ∧ (Instr.lookup 67 (.map (M p)) (.string ⟨x.toArray⟩) false).run Tryd.prog W = .ok (ptrV (kidsOf T A p x)) W := fun p n x hx hp => by
    have hb := HTW.out.blk p n hp
    refine ⟨(cell_of hb 3).trans rfl, (cell_of hb 0).trans rfl, ?_⟩
    have := (HTW.out.kids p n hp).look ⟨x.toArray⟩ (by simpa [ByteArray.size] using hx)
    simpa using this
  have KEY := Lib.hid key
  obtain ⟨E, hE⟩ : ∃ E, wayE T [] L = E := ⟨_, rfl⟩
  have HE := Lib.hid hE
  have HA0 := Lib.hid HT.out.a0
  have HQ : Hid (WalkP T A M L (.slice (some ⟨g, 0, none⟩) ln c) w = WalkP T A M L (.slice (some ⟨g, 0, none⟩) ln c) w) := rfl
  clear hW hbel hbox hSW key hE hq2 hq3
  go_wp2_with fail
  refine wp_label ?_
  go_wp2_with fail
  go_loopw [6, 7, 36] (fun at' er i wx => ∃ (k : Nat) (dn : Nd), k ≤ n1 ∧ i = .int .i64 k ∧ er = .int .i64 0 ∧ at' = .pointer (some ⟨A (L.take k), 0, none⟩) ∧ wx = W ∧ Hid (wayE T (L.take k) (L.drop k) = E ∧ T (L.take k) = some dn ∧ dn.file = false)) (fun _ _ i _ => n1 - (intOf i).toNat)
  case atStart => exact ⟨0, r0, Nat.zero_le _, rfl, rfl, by rw [List.take_zero, HA0.out], rfl, HE.out, H0.out, hr0⟩
  case round =>
    obtain ⟨k, dn, hk, rfl, rfl, rfl, rfl, HR⟩ := hrel
    have hkI : (0 : Int) ≤ (k : Int) := by omega
    by_cases hlt : k < n1
    · have hltI : (k : Int) < (n1 : Int) := by omega
      have hltd : decide ((k : Int) < (n1 : Int)) = true := decide_eq_true hltI
      have hkl : k + 1 < L.length := by have := HLN.out; omega
      have b1 : IntKind.i64.wrap ((k : Int) + 1) = (k : Int) + 1 := IntWalk.i64_in _ (by omega)
      obtain ⟨x, hx⟩ : ∃ x, L[k] = x := ⟨_, rfl⟩
      have hxs : x.length ≤ maxLen := Hs.out x (by rw [← hx]; exact List.getElem_mem _)
      have hcx := HSW.out k (by omega)
      rw [hx] at hcx
      obtain ⟨hm, _, hlk⟩ := KEY.out _ dn x hxs HR.out.2.1
      have hst := wayE_step (T := T) hkl (L.take k)
      rw [hx, HR.out.1] at hst
      have htk : L.take k ++ [x] = L.take (k + 1) := by rw [← hx]; exact List.take_append_getElem (by omega)
      rw [htk] at hst
      have adk := addK g k
      have hpre : 0 < k ∨ k = 0 := by omega
      cases hTx : T (L.take (k + 1)) with
      | none =>
        rw [hTx] at hst
        have hkv : kidsOf T A (L.take k) x = none := by unfold kidsOf; rw [htk, hTx]; rfl
        rw [hkv] at hlk
        simp only [ptrV] at hlk
        have HST := Lib.hid hst
        clear hst hTx hkv htk hx hpre
        go_wp2_with fail
        try simp +zetaDelta only [Exit.noGoto_ret]
        refine bodyPost_ret (v := .tuple #[spot0, .int .i64 6]) ?_ rfl ?_
        · simp [results, Tryd.results65, go_sem, q0, q1, q2, q3]
          rfl
        · refine ⟨?_, .inl ?_⟩
          · exact below4 HBEL.out _ _ _ _
          · have e6 : wayE T [] L = 6 := HE.out.trans HST.out
            rw [e6]; exact ⟨by decide, rfl⟩
      | some n =>
        rw [hTx] at hst
        dsimp only at hst
        have hkv : kidsOf T A (L.take k) x = some (A (L.take (k + 1))) := by unfold kidsOf; rw [htk, hTx]; rfl
        rw [hkv] at hlk
        simp only [ptrV] at hlk
        obtain ⟨hm2, hf2, _⟩ := KEY.out _ n x hxs hTx
        cases hnf : n.file with
        | true =>
          rw [hnf] at hf2
          rw [hnf, if_pos rfl] at hst
          have HST := Lib.hid hst
          clear hst hTx hkv htk hx hpre hm2
          go_wp2_with fail
          try simp +zetaDelta only [Exit.noGoto_ret]
          refine bodyPost_ret (v := .tuple #[spot0, .int .i64 11]) ?_ rfl ?_
          · simp [results, Tryd.results65, go_sem, q0, q1, q2, q3]
            rfl
          · refine ⟨?_, .inl ?_⟩
            · exact below4 HBEL.out _ _ _ _
            · have e6 : wayE T [] L = 11 := HE.out.trans HST.out
              rw [e6]; exact ⟨by decide, rfl⟩
        | false =>
          rw [hnf] at hf2
          rw [hnf, if_neg (by simp)] at hst
          have HST := Lib.hid hst
          have HTX := Lib.hid hTx
          have HNF := Lib.hid hnf
          clear hst hTx hkv htk hx hpre hm2 hnf
          go_wp2_with fail
          go_roundw
          case measure => simp [intOf]; omega
          case rel =>
           exact ⟨k + 1, n, by omega, by go_num, rfl, rfl, trivial, HST.out.symm, HTX.out, HNF.out⟩
    · obtain rfl : k = n1 := by omega
      have hltd : decide ((k : Int) < (k : Int)) = false := decide_eq_false (by omega)
      obtain ⟨hm, _, hlk⟩ := KEY.out _ dn lst (Hs.out lst (by rw [← HLST.out]; exact List.getElem_mem _)) HR.out.2.1
      obtain ⟨kv, hkv⟩ : ∃ kv, ptrV (kidsOf T A (L.take k) lst) = .pointer kv := by cases kidsOf T A (L.take k) lst <;> exact ⟨_, rfl⟩
      rw [hkv] at hlk
      have HKV := Lib.hid hkv
      clear hkv
      go_wp2_with fail
      simp +zetaDelta only [Exit.noGoto_ret]
      refine bodyPost_ret (v := .tuple #[spotV (.pointer (some ⟨A (L.take k), 0, none⟩)) ⟨lst.toArray⟩ (.pointer kv) (.slice (some ⟨g, 0, none⟩) ln c), .int .i64 0]) ?_ rfl ?_
      · simp [results, Tryd.results65, go_sem, q0, q1, q2, q3]
        rfl
      · refine ⟨?_, .inr ⟨?_, L.take k, lst, dn, ?_, HR.out.2.1, HR.out.2.2, ?_⟩⟩
        · exact below4 HBEL.out _ _ _ _
        · rw [HE.out, ← HR.out.1]
          exact wayE_last (by rw [hn1, HLN.out]) _
        · have := List.take_append_getElem (l := L) (i := k) (by omega)
          rw [HLST.out] at this
          rw [this, hn1, ← HLN.out, List.take_length]
        · rw [HKV.out]
end Go.Proofs.YtjagnihkpgbjeaaDoor

namespace Go.Proofs.YtjagnihkpgbjeaaDoor
open Go.RowKit

theorem slice_some (g n c k : Nat) (hk : k ≤ c) :
    ∀ w, (Instr.slice 29 (.slice (some ⟨g, 0, none⟩) n c) none (some (.int .i64 k)) none).run Tryd.prog w = .ok (.slice (some ⟨g, 0, none⟩) k c) w := by
  intro w
  rw [run_slice_h (P := Tryd.prog) (w := w) 29 (some ⟨g, 0, none⟩) n c (by rw [elem30]; exact Tryd.underlying29) .i64 (k : Int) (by omega) (by omega), elem30, Tryd.sizeOf9]
  simp [Result.andThen, sliced, Addr.add]
theorem slice_nil : ∀ w, (Instr.slice 29 (.slice none 0 0) none (some (.int .i64 0)) none).run Tryd.prog w = .ok (.slice none 0 0) w := by
  intro w
  rw [run_slice_h (P := Tryd.prog) (w := w) 29 none 0 0 (by rw [elem30]; exact Tryd.underlying29) .i64 0 (by omega) (by omega), elem30, Tryd.sizeOf9]
  simp [Result.andThen, sliced]
/-- A row cut at its front: the slice and what it holds. -/
theorem own_cut {w : World} {B c : Nat} {A : Option Addr} {L : List Bs} {k : Nat} (h : w.ownsRow B 9 1 (.slice A L.length c) L.length (L.map encStr)) (hk : k ≤ L.length) :
    (∀ w', (Instr.slice 29 (.slice A L.length c) none (some (.int .i64 k)) none).run Tryd.prog w' = .ok (.slice A k c) w') ∧ StrsL w A (L.take k) := by
  have hs := strs_own h
  refine ⟨?_, fun hn => ?_⟩
  · rcases h.2 with ⟨h1, h0⟩ | ⟨g, c', cur, hv, _, _, h1, _⟩
    · injection h1 with e1 _ e3
      subst e1
      subst e3
      have : k = 0 := by omega
      subst this
      rw [h0]
      exact slice_nil
    · injection hv with e1 _ e3
      subst e1
      exact slice_some g L.length c k (by omega)
  · obtain ⟨g, off, e, hg, hc⟩ := hs (by rw [List.length_take] at hn; omega)
    refine ⟨g, off, e, hg, fun i hi => ?_⟩
    rw [List.length_take] at hi
    rw [hc i (by omega), List.getElem_take]

end Go.Proofs.YtjagnihkpgbjeaaDoor

namespace Go.Proofs.YtjagnihkpgbjeaaDoor
open Go.RowKit

def abs_ (cwd p : ByteArray) : Bs × Int :=
  if p.size = 0 ∨ 0 ≤ at_ p 0 (p.size + 1) 0 ∨ 0 ≤ at_ cwd 0 (cwd.size + 1) 0 then ([], 1)
  else if ∃ x ∈ parts cwd p, 60 < x.length then ([], 3)
  else if 20 < (parts cwd p).length ∨ 200 < (written (parts cwd p)).length then ([], 3)
  else (written (parts cwd p), 0)

end Go.Proofs.YtjagnihkpgbjeaaDoor

namespace Go.Proofs.YtjagnihkpgbjeaaDoor
open Go.RowKit

/-! The laws of names, strokes and pushes. -/
def Good (L : List Bs) : Prop := ∀ x ∈ L, x ≠ [] ∧ x ≠ [46] ∧ x ≠ [46, 46] ∧ ∀ c ∈ x, c ≠ 47
theorem good_nil : Good [] := fun x h => by simp at h
theorem good_sub {L M : List Bs} (h : Good M) (hs : ∀ x ∈ L, x ∈ M) : Good L := fun x hx => h x (hs x hx)
theorem good_last {L : List Bs} (h : Good L) : Good L.dropLast := good_sub h fun _ hx => List.dropLast_subset _ hx
theorem sp_no : ∀ (a : Bs) (x : Bs), x ∈ sp a → ∀ c ∈ x, c ≠ 47
  | [], x, h => by simp [sp] at h; subst h; simp
  | d :: t, x, h => by
    have ih := sp_no t
    rw [sp] at h
    split at h
    · rcases List.mem_cons.1 h with rfl | h
      · simp
      · exact ih x h
    · rename_i hd
      split at h
      · simp at h; subst h; simpa using hd
      · rename_i a r e
        rw [e] at ih
        rcases List.mem_cons.1 h with rfl | h
        · intro c hc
          rcases List.mem_cons.1 hc with rfl | hc
          · exact hd
          · exact ih a (by simp) c hc
        · exact ih x (by simp [h])
theorem sp_app : ∀ (a t : Bs), sp (a ++ 47 :: t) = sp a ++ sp t
  | [], t => by simp [sp]
  | c :: a, t => by
    have ih := sp_app a t
    rw [List.cons_append, sp]
    by_cases hc : c = 47
    · rw [if_pos hc, ih, sp, if_pos hc]; rfl
    · rw [if_neg hc, ih, sp, if_neg hc]
      cases h : sp a with
      | nil => cases a with
        | nil => simp [sp] at h
        | cons d r =>
          rw [sp] at h
          split at h
          · simp at h
          · split at h <;> simp at h
      | cons b r => rfl
theorem push_good {l : List Bs} {s : Bs} (h : Good l) (hs : ∀ c ∈ s, c ≠ 47) : Good (push l s) := by
  unfold push
  split
  · exact h
  · rename_i h1
    split
    · exact good_last h
    · rename_i h2
      intro x hx
      rcases List.mem_append.1 hx with hx | hx
      · exact h x hx
      · simp at hx; subst hx
        exact ⟨fun e => h1 (.inl e), fun e => h1 (.inr e), h2, hs⟩
theorem fold_good : ∀ (P : List Bs) {l : List Bs}, Good l → (∀ x ∈ P, ∀ c ∈ x, c ≠ 47) → Good (P.foldl push l)
  | [], _, h, _ => h
  | a :: P, _, h, hp => fold_good P (push_good h (hp a (by simp))) fun x hx => hp x (by simp [hx])
theorem parts_good (cwd p : ByteArray) : Good (parts cwd p) := by
  unfold parts
  refine fold_good _ ?_ (sp_no _)
  split
  · exact good_nil
  · exact fold_good _ good_nil (sp_no _)
theorem push_of {l : List Bs} {s : Bs} (h : s ≠ [] ∧ s ≠ [46] ∧ s ≠ [46, 46] ∧ ∀ c ∈ s, c ≠ 47) : push l s = l ++ [s] := by
  unfold push
  rw [if_neg (by rintro (e | e); exact h.1 e; exact h.2.1 e), if_neg h.2.2.1]
theorem fold_id : ∀ (L l : List Bs), Good L → L.foldl push l = l ++ L
  | [], l, _ => by simp
  | a :: L, l, h => by
    rw [List.foldl_cons, push_of (h a (by simp)), fold_id L _ (fun x hx => h x (by simp [hx]))]
    simp
theorem sp_joined : ∀ (L : List Bs), Good L → sp (joined L) = [] :: L
  | [], _ => rfl
  | a :: L, h => by
    have ih := sp_joined L (fun x hx => h x (by simp [hx]))
    have ha := (h a (by simp)).2.2.2
    rw [show joined (a :: L) = [] ++ 47 :: (a ++ joined L) by simp [joined], sp_app]
    cases L with
    | nil => rw [show joined ([] : List Bs) = [] from rfl, List.append_nil, sp_all a ha]; rfl
    | cons b M =>
      rw [show joined (b :: M) = 47 :: (b ++ joined M) by simp [joined]] at ih ⊢
      rw [show sp (47 :: (b ++ joined M)) = [] :: sp (b ++ joined M) by simp [sp]] at ih
      injection ih with _ ih
      rw [sp_cut _ _ ha, ih]; rfl
theorem push_nil (l : List Bs) : push l [] = l := by simp [push]
theorem fold_written (L : List Bs) (h : Good L) : (sp (written L)).foldl push [] = L := by
  unfold written
  split
  · rename_i e; subst e; rfl
  · rw [sp_joined L h, List.foldl_cons, push_nil, fold_id L _ h, List.nil_append]

/-- A list's bytes as a string. -/
def bs (l : Bs) : ByteArray := ⟨l.toArray⟩
theorem bs_list (l : Bs) : (bs l).data.toList = l := rfl
theorem bs_size (l : Bs) : (bs l).size = l.length := rfl
theorem bs_of (s : ByteArray) : bs s.data.toList = s := rfl
/-- Does a path begin with a stroke. -/
def rooted (a : Bs) : Prop := a.head? = some 47
instance (a : Bs) : Decidable (rooted a) := by unfold rooted; infer_instance
theorem rooted_iff (p : ByteArray) : (0 < p.size ∧ gb p 0 = 47) ↔ rooted p.data.toList := by
  have hl : p.data.toList.length = p.size := Array.length_toList
  unfold rooted gb
  cases h : p.data.toList with
  | nil => rw [h] at hl; simp at hl; simp [← hl]
  | cons a t => rw [h] at hl; simp at hl; simp; omega
def partsL (c p : Bs) : List Bs := (sp p).foldl push (if rooted p then [] else (sp c).foldl push [])
theorem parts_eq (cwd p : ByteArray) : parts cwd p = partsL cwd.data.toList p.data.toList := by
  unfold parts partsL
  simp only [rooted_iff]
theorem partsL_good (c p : Bs) : Good (partsL c p) := by
  rw [← bs_list c, ← bs_list p, ← parts_eq]; exact parts_good _ _
theorem rooted_written (L : List Bs) : rooted (written L) := by
  unfold rooted written
  split
  · rfl
  · cases L with
    | nil => contradiction
    | cons a l => simp [joined]
theorem partsL_written (c : Bs) {L : List Bs} (h : Good L) : partsL c (written L) = L := by
  unfold partsL
  rw [if_pos (rooted_written L), fold_written L h]
theorem rooted_app {p : Bs} (hp : p ≠ []) (t : Bs) : rooted (p ++ t) ↔ rooted p := by
  cases p with
  | nil => exact absurd rfl hp
  | cons a l => simp [rooted]
/-- Further names behind a path. -/
theorem partsL_app {p : Bs} (hp : p ≠ []) (c t : Bs) : partsL c (p ++ 47 :: t) = (sp t).foldl push (partsL c p) := by
  unfold partsL
  rw [sp_app, List.foldl_append]
  simp only [rooted_app hp]
theorem partsL_one {q : Bs} (hq : ¬ rooted q) {L : List Bs} (h : Good L) : partsL (written L) q = (sp q).foldl push L := by
  unfold partsL
  rw [if_neg hq, fold_written L h]
theorem steps_law {c p q : Bs} (hp : p ≠ []) (hq : ¬ rooted q) : partsL (written (partsL c p)) q = partsL c (p ++ 47 :: q) := by
  rw [partsL_one hq (partsL_good c p), partsL_app hp]
theorem dots_more {c p n : Bs} (hp : p ≠ []) (hn : n ≠ [] ∧ n ≠ [46] ∧ n ≠ [46, 46] ∧ ∀ x ∈ n, x ≠ 47) : partsL c (p ++ 47 :: n) = partsL c p ++ [n] := by
  rw [partsL_app hp, sp_all n hn.2.2.2, List.foldl_cons, push_of hn]; rfl
theorem dots_one {c p : Bs} (hp : p ≠ []) : partsL c (p ++ [47, 46, 47]) = partsL c p := by
  rw [show p ++ [47, 46, 47] = p ++ 47 :: [46, 47] from rfl, partsL_app hp]
  rfl
theorem dots_two {c p n : Bs} (hp : p ≠ []) (hn : n ≠ [] ∧ n ≠ [46] ∧ n ≠ [46, 46] ∧ ∀ x ∈ n, x ≠ 47) : partsL c (p ++ [47, 47] ++ n ++ [47, 46, 46]) = partsL c p := by
  rw [show p ++ [47, 47] ++ n ++ [47, 46, 46] = p ++ 47 :: (47 :: (n ++ 47 :: [46, 46])) by simp, partsL_app hp]
  rw [show sp (47 :: (n ++ 47 :: [46, 46])) = [] :: sp (n ++ 47 :: [46, 46]) by simp [sp], sp_cut n _ hn.2.2.2, List.foldl_cons, push_nil, List.foldl_cons, push_of hn]
  simp [sp, push]

/-- Every byte of a path's names is one of the two texts'. -/
theorem push_mem {l : List Bs} {s x : Bs} (h : x ∈ push l s) : x ∈ l ∨ x = s := by
  unfold push at h
  split at h
  · exact .inl h
  · split at h
    · exact .inl (List.dropLast_subset _ h)
    · simpa using h
theorem fold_mem : ∀ (P l : List Bs) (x : Bs), x ∈ P.foldl push l → x ∈ l ∨ x ∈ P
  | [], _, _, h => .inl h
  | a :: P, l, x, h => by
    rcases fold_mem P _ x h with h | h
    · rcases push_mem h with h | h
      · exact .inl h
      · exact .inr (by simp [h])
    · exact .inr (by simp [h])
theorem sp_mem : ∀ (a x : Bs), x ∈ sp a → ∀ c ∈ x, c ∈ a
  | [], x, h => by simp [sp] at h; subst h; simp
  | d :: t, x, h => by
    have ih := sp_mem t
    rw [sp] at h
    split at h
    · rcases List.mem_cons.1 h with rfl | h
      · simp
      · intro c hc; exact List.mem_cons_of_mem _ (ih x h c hc)
    · split at h
      · simp at h; subst h; simp
      · rename_i a r e
        rw [e] at ih
        rcases List.mem_cons.1 h with rfl | h
        · intro c hc
          rcases List.mem_cons.1 hc with rfl | hc
          · simp
          · exact List.mem_cons_of_mem _ (ih a (by simp) c hc)
        · intro c hc; exact List.mem_cons_of_mem _ (ih x (by simp [h]) c hc)
theorem partsL_bytes {c p x : Bs} (h : x ∈ partsL c p) : ∀ b ∈ x, b ∈ c ∨ b ∈ p := by
  intro b hb
  unfold partsL at h
  rcases fold_mem _ _ _ h with h | h
  · split at h
    · simp at h
    · rcases fold_mem _ _ _ h with h | h
      · simp at h
      · exact .inl (sp_mem _ _ h b hb)
  · exact .inr (sp_mem _ _ h b hb)
theorem written_bytes {L : List Bs} {b : UInt8} (h : b ∈ written L) : b = 47 ∨ ∃ x ∈ L, b ∈ x := by
  unfold written at h
  split at h
  · simp at h; exact .inl h
  · unfold joined at h
    rw [List.mem_flatMap] at h
    obtain ⟨x, hx, hb⟩ := h
    rcases List.mem_cons.1 hb with h | h
    · exact .inl h
    · exact .inr ⟨x, hx, h⟩
end Go.Proofs.YtjagnihkpgbjeaaDoor

namespace Go.Proofs.YtjagnihkpgbjeaaDoor
open Go.RowKit Go.Shelf

/-! A range over an iterator that writes cells of its own between two rounds (T), whose loop body ends every round normally. -/
section
variable {F : Fence} {n : Nat} {P : Program}

theorem stepR_scope_s {b : Frame} {a : Act} {k : List Item} {cs : List Frame} {w : World} {c : Code} : step P (lone (b.atR a (.code (.scope c) :: k)) cs w) = .next (lone (b.atR a (.code c :: .inScope c :: k)) cs w) :=
  step_lone_go (by simp [stepG, stepG.exec, Frame.atR])
theorem stepR_inScope_s {b : Frame} {a : Act} {k : List Item} {cs : List Frame} {w : World} {c : Code} : step P (lone (b.atR a (.inScope c :: k)) cs w) = .next (lone (b.atR a k) cs w) :=
  step_lone_go (by simp [stepG, stepG.exec, Frame.atR])
/-- A scope through which the run goes without a goto, under a fence. -/
theorem wpIn_scope_s {c : Code} {Q : Exit → Act → World → Prop} {a : Act} {w : World} (h : c.wpIn F n P (Exit.noGoto Q) a w) : (Code.scope c).wpIn F n P Q a w := by
  intro b k cs hro hb hr
  have h0 : (lone (b.atR a (.code (.scope c) :: k)) cs w).fenced P F := fenced_calm hb hr rfl
  obtain ⟨e, a₁, w₁, hq, harr⟩ := h b (.inScope c :: k) cs hro hb hr
  cases e with
  | normal => exact ⟨.normal, a₁, w₁, hq, .head h0 stepR_scope_s (StepsIn.trans harr (.one (fenced_calm hb hr rfl) stepR_inScope_s))⟩
  | exit id =>
    have hx : exitTo id (.inScope c :: k) = exitTo id k := by simp [exitTo]
    exact ⟨.exit id, a₁, w₁, hq, fun k' hk => .head h0 stepR_scope_s (harr.1 k' (by rw [hx]; exact hk)),
      fun hr' hk => let ⟨k₁, h1, h2⟩ := harr.2 hr' (by rw [hx]; exact hk); ⟨k₁, h1, .head h0 stepR_scope_s h2⟩⟩
  | goto l => exact hq.elim
  | ret => exact ⟨_, a₁, w₁, hq, .of_steps (.one h0 stepR_scope_s) harr⟩
  | panic ch => exact ⟨_, a₁, w₁, hq, .of_steps (.one h0 stepR_scope_s) harr⟩
  | outgrown => exact ⟨_, a₁, w₁, hq, .of_steps (.one h0 stepR_scope_s) harr⟩

/-- How a round's body is left. -/
def roundEnds {α : Type} (B : Nat) (Kp : World → World → Prop) (I : List α → World → Prop) (ys : List α) (W : World) : Exit → Act → World → Prop
  | .normal, _, W' => KeepsFrom B W W' ∧ Kp W W' ∧ I ys W'
  | _, _, _ => False

theorem wpIn_rangeFunc_T {α : Type} {g : Operand} {ps : Array Tmp} {assign body : Code} {Q : Exit → Act → World → Prop} {a : Act} {w : World}
    (hro : F.round = none) (h1 : 1 ≤ n) {gf : Nat} {lb : Array Value} (hg : a.eval g = .func (.func gf) #[] lb) (hFg : F.fn gf) (eg : ∀ args w, (callFunc gf args).run P w = .ok (.enter gf args) w)
    {encs : α → Array Value} {T Kp : World → World → Prop} {xs : List α} (hT : ∀ A C, T A C → KeepsOthers A C)
    (hseq : ∀ (l : Nat) (J : List α → World → Prop) (W : World), Below w.heap.size w W → (∀ s A C, J s A → T A C → J s C) →
      (∀ pre x W1, J pre W1 → pre ++ [x] <+: xs → YieldAt F (n - 1 - 1) P l (encs x) W1 fun e W' => e = .returned (.bool true) ∧ J (pre ++ [x]) W' ∧ Kp W1 W') →
      J [] W → CallsIn F (n - 1) P gf (#[.func (.yield l) #[] #[]] ++ lb) W fun e W' => (∃ v, e = .returned v) ∧ J xs W')
    (hKt : ∀ {A C D : World}, Kp A C → Kp C D → Kp A D) (hKb : ∀ (W : World) (l : Nat) (o : Obj), w.heap.size ≤ l → Kp W (W.putObj l o)) (hps : ∀ x, (encs x).size = ps.size)
    (I : List α → World → Prop) (hI : OwnFrom w.heap.size I) (hIT : ∀ s A C, I s A → T A C → I s C) (h0 : I [] w) (a₁ : α → Act)
    (hassign : ∀ (l : Nat) (x : α) (W : World) (K : Act → World → Prop), K (a₁ x) W →
      assign.wpIn (F.inRound l) (n - 1 - 1) P (Exit.then K (fun _ _ _ => False)) { tmps := (ps.zip (encs x)).foldl (fun t (p, v) => t.setIfInBounds p v) a.tmps, defers := [] } W)
    (hbody : ∀ (l : Nat) (pre : List α) (x : α) (W : World), I pre W → pre ++ [x] <+: xs → body.wpIn (F.inRound l) (n - 1 - 1) P (roundEnds w.heap.size Kp I (pre ++ [x]) W) (a₁ x) W)
    (hdone : ∀ (D : Nat) (W : World), w.heap.size ≤ D → I xs W → W.heap[D]? = some (.deferred (some [])) → Q .normal { a with defers := { target := .collected D, args := #[] } :: a.defers } W) :
    (Code.rangeFunc g ps assign body).wpIn F n P Q a w := by
  refine wpIn_rangeFunc fun fn hfn => ?_
  rw [hro]
  obtain ⟨N, hN⟩ : ∃ N, w.heap.size = N := ⟨_, rfl⟩
  obtain ⟨rc, hrc⟩ : ∃ rc : LoopState → Loop, rc = fun st => { state := st, pending := none, fn, tmps := a.tmps, params := ps, assign, body, defers := N } := ⟨_, rfl⟩
  obtain ⟨V, hV⟩ : ∃ V, (w.alloc (.deferred (some []))).alloc (.loop (rc .ready)) = V := ⟨_, rfl⟩
  have vl : V.heap[N + 1]? = some (.loop (rc .ready)) := by
    rw [← hV, ← hN]
    simpa using World.alloc_heap_new (w.alloc (.deferred (some []))) (.loop (rc .ready))
  have vk : V.heap[N]? = some (.deferred (some [])) := by
    rw [← hV, ← hN]
    exact (Below.heap_alloc _ _ _ (by simp)).trans (World.alloc_heap_new w _)
  have vi : I [] V := by rw [← hV]; exact hI.alloc _ (hI.alloc _ h0)
  have vb : Below w.heap.size w V := by
    rw [← hV]; exact ((Below.refl _ w).alloc (Nat.le_refl _) _).alloc (by simp) _
  refine ⟨N + 1, [{ target := .collected N, args := #[] }], V, { target := .fn (.func gf) lb, args := #[.func (.yield (N + 1)) #[] #[]] }, V, gf,
    #[.func (.yield (N + 1)) #[] #[]] ++ lb, V, ?_, by simp only [resolve, hg]; simp [go_sem], fun f' hf' => by simp [Target.leads] at hf'; subst hf'; exact hFg, by simp [invoke, go_sem, eg], fun _ => h1, ?_⟩
  · rw [← hV, hrc, ← hN]; exact run_enterLoop_outer _ _ _ _ _
  refine (hseq (N + 1) (fun pre W => I pre W ∧ W.heap[N + 1]? = some (.loop (rc .ready)) ∧ W.heap[N]? = some (.deferred (some []))) V vb
    (fun s A C hs ht => ⟨hIT s A C hs.1 ht, (hT A C ht).same _ _ hs.2.1 rfl, (hT A C ht).same _ _ hs.2.2 rfl⟩) ?_ ⟨vi, vl, vk⟩).mono ?_
  · rintro pre x W ⟨hi, hl, hk⟩ hx
    have hlt : N + 1 < W.heap.size := (Array.getElem?_eq_some_iff.1 hl).1
    have hy := run_yield (P := P) (args := encs x) hl (by rw [hrc]; exact hps x)
    rw [hrc] at hy
    refine ⟨fn, _, assign, body, hy, roundIn_of_wpIn hfn (hassign _ x W _ ⟨_, run_beginRound hl (by rw [hrc]), ?_⟩)⟩
    obtain ⟨U, hU⟩ : ∃ U, W.putObj (N + 1) (.loop (rc .busy)) = U := ⟨_, rfl⟩
    have hU' : W.putObj (N + 1) (.loop { rc .ready with state := .busy }) = U := by rw [← hU, hrc]
    have ul : U.heap[N + 1]? = some (.loop (rc .busy)) := by rw [← hU]; exact World.putObj_heap_same hlt
    have uk : U.heap[N]? = some (.deferred (some [])) := by rw [← hU]; exact (World.putObj_heap_other (by omega)).trans hk
    have ui : I pre U := by rw [← hU]; exact hI.putObj _ hi (by omega) hl rfl
    have uw : Kp W U := by rw [← hU]; exact hKb _ _ _ (by omega)
    rw [hU']
    refine wpIn_mono (hbody _ pre x U ui hx) ?_
    intro e a3 X hp
    cases e with
    | normal =>
      obtain ⟨hk3, hkp3, hi3⟩ := hp
      have xl := hk3.same (N + 1) _ (by omega) ul rfl
      have xk := hk3.same N _ (by omega) uk rfl
      have hr := run_endRound (P := P) none xl
      refine ⟨_, _, hr, rfl, ⟨hI.putObj _ hi3 (by omega) xl rfl, ?_, (World.putObj_heap_other (by omega)).trans xk⟩, hKt (hKt uw hkp3) (hKb _ _ _ (by omega))⟩
      rw [World.putObj_heap_same (Array.getElem?_eq_some_iff.1 xl).1, hrc]
      rfl
    | ret => exact hp.elim
    | exit id => exact hp.elim
    | goto t => exact hp.elim
    | panic ch => exact hp.elim
    | outgrown => exact hp.elim
  · rintro e X ⟨⟨v, rfl⟩, hi, hl, hk⟩
    have he := run_endLoop (P := P) hl (by rw [hrc]; simp)
    refine ⟨none, _, by rw [he, hrc], hdone N _ (by omega) (hI.putObj _ hi (by omega) hl rfl) ((World.putObj_heap_other (by omega)).trans hk)⟩
end
end Go.Proofs.YtjagnihkpgbjeaaDoor

namespace Go.Proofs.YtjagnihkpgbjeaaDoor
open Go.RowKit Go.Shelf
attribute [local go_sem] Oper.semAt_some

def Keep (b : Nat) (W W' : World) : Prop := ∀ k, b < k → k < b + 4 → W'.heap[k]? = W.heap[k]?
theorem Keep.box {b k t : Nat} {W W' : World} {v : Value} (h : Keep b W W') (hx : Boxed W k t v) (h1 : b < k) (h2 : k < b + 4) : Boxed W' k t v := (h k h1 h2).trans hx
theorem Keep.trans {b : Nat} {A C D : World} (h : Keep b A C) (k : Keep b C D) : Keep b A D := fun i h1 h2 => (k i h1 h2).trans (h i h1 h2)

theorem idx_none : ∀ a : Bs, (∀ c ∈ a, c ≠ 47) → Lib.indexByte a 47 = -1
  | [], _ => rfl
  | c :: t, h => by
    have h1 : (c == 47) = false := by rw [beq_eq_false_iff_ne]; exact h c (by simp)
    have h2 := idx_none t (fun x hx => h x (by simp [hx]))
    unfold Lib.indexByte
    rw [h1, h2]; rfl
theorem idx_some : ∀ (a t : Bs), (∀ c ∈ a, c ≠ 47) → Lib.indexByte (a ++ 47 :: t) 47 = a.length
  | [], t, _ => by simp [Lib.indexByte]
  | c :: a, t, h => by
    have h1 : (c == 47) = false := by rw [beq_eq_false_iff_ne]; exact h c (by simp)
    have h2 := idx_some a t (fun x hx => h x (by simp [hx]))
    have h3 : ((a.length : Int) == -1) = false := by rw [beq_eq_false_iff_ne]; omega
    rw [List.cons_append]
    unfold Lib.indexByte
    rw [h1, h2, h3]
    simp
theorem no_or : ∀ r : Bs, (∀ c ∈ r, c ≠ 47) ∨ ∃ a t, r = a ++ 47 :: t ∧ ∀ c ∈ a, c ≠ 47
  | [] => .inl (by simp)
  | c :: r => by
    by_cases hc : c = 47
    · exact .inr ⟨[], r, by simp [hc], by simp⟩
    · rcases no_or r with h | ⟨a, t, e, h⟩
      · exact .inl (by simpa [hc] using h)
      · exact .inr ⟨c :: a, t, by simp [e], by simpa [hc] using h⟩
theorem ext_bytes {s : ByteArray} {f i : Nat} {l : Bs} (h : seg s f i = l) : s.extract f i = bs l := by
  have h1 := seg_ext s f i
  rw [h, Lib.toList_data] at h1
  exact bytes_eq h1

/-- What is left in the iterator's cell. -/
def left_ (W : World) (b : Nat) : Nat := match W.cell? ⟨b + 1, 0, none⟩ with | some (.string s) => s.size | _ => 0
theorem left_eq {W : World} {b t : Nat} {s : ByteArray} (h : Boxed W (b + 1) t (.string s)) : left_ W b = s.size := by
  unfold left_; rw [h.cell]

set_option maxRecDepth 100000 in
set_option maxHeartbeats 2000000 in
theorem split_in (n : Nat) (hn : 1 ≤ n) (l b : Nat) (J : List Bs → World → Prop) (xs : List Bs)
    (hJ : ∀ s A u, J s A → J s (A.setCell ⟨b + 1, 0, none⟩ u))
    (hY : ∀ pre x W, J pre W → pre ++ [x] <+: xs → YieldAt Fence.wide (n - 1) Tryd.prog l #[encStr x] W fun e W' => e = .returned (.bool true) ∧ J (pre ++ [x]) W' ∧ Keep b W W')
    (p : ByteArray) (hx : sp p.data.toList = xs) (hp : p.size ≤ 100000) (W : World) (h1 : Boxed W (b + 1) 9 (.string p)) (h2 : Boxed W (b + 2) 9 (.string ⟨#[47]⟩)) (h3 : Boxed W (b + 3) 3 (.int .i64 0)) (h0 : J [] W) :
    CallsIn Fence.wide n Tryd.prog 156 #[.func (.yield l) #[] #[], .pointer (some ⟨b + 2, 0, none⟩), .pointer (some ⟨b + 1, 0, none⟩), .pointer (some ⟨b + 3, 0, none⟩)] W fun e W' => (∃ v, e = .returned v) ∧ J xs W' := by
  have hro : Fence.wide.round = none := rfl
  have H0 : Hid (∃ (s : ByteArray) (pre : List Bs), Boxed W (b + 1) 9 (.string s) ∧ Boxed W (b + 2) 9 (.string ⟨#[47]⟩) ∧ Boxed W (b + 3) 3 (.int .i64 0) ∧ pre ++ sp s.data.toList = xs ∧ J pre W ∧ s.size ≤ 100000) := ⟨p, [], h1, h2, h3, by simpa using hx, h0, hp⟩
  have hc2 := h2.cell
  clear hx hp h1 h2 h3 h0
  refine callsIn_of_wp Tryd.func156 rfl trivial ?_ hro
  simp only [Tryd.ntmps156, List.size_toArray, List.length_cons, List.length_nil, Nat.reduceAdd, Nat.reduceSub, Array.replicate_succ, Array.replicate_zero, List.push_toArray, List.append_toArray, List.nil_append, List.cons_append]
  gi_wp2
  gi_loopw [7, 8] (fun _ _ wr => Hid (∃ (s : ByteArray) (pre : List Bs), Boxed wr (b + 1) 9 (.string s) ∧ Boxed wr (b + 2) 9 (.string ⟨#[47]⟩) ∧ Boxed wr (b + 3) 3 (.int .i64 0) ∧ pre ++ sp s.data.toList = xs ∧ J pre wr ∧ s.size ≤ 100000)) (fun _ _ wr => left_ wr b)
  case atStart => exact H0
  case round =>
    obtain ⟨s, pre, b1, b2, b3, hxs, hj, hsz⟩ := hrel.out
    have c1 := b1.cell
    have c2 := b2.cell
    have c3 := b3.cell
    have f1 := b1.frozen
    have HJ := Lib.hid hj
    have HX := Lib.hid hxs
    have hls : s.data.toList.length = s.size := Array.length_toList
    rcases no_or s.data.toList with hno | ⟨a, t, he, hno⟩
    · have hi := idx_none _ hno
      have hpx : pre ++ [s.data.toList] = xs := by rw [← hxs, sp_all _ hno]
      obtain ⟨fn, tmps, assign, body, hy, hR⟩ := hY pre s.data.toList wr hj (by rw [hpx]; exact List.prefix_refl _)
      rw [show encStr s.data.toList = Value.string s from rfl] at hy
      have HR := Lib.hid hR
      have HPX := Lib.hid hpx
      clear hj hxs hrel hR hpx hno hls
      gi_wp2_with (refine ⟨trivial, ?_⟩; gi_at_call 86; refine (callsIn_wide.2 (Tryd.strings_Index_one s 47 _)).mono ?_; rintro e w' ⟨rfl, rfl⟩)
      refine HR.out.mono ?_
      rintro e W3 ⟨rfl, hJ3, hk3⟩
      rw [HPX.out] at hJ3
      gi_wp2
      go_end0
      exact ⟨⟨_, rfl⟩, hJ3⟩
    · have hi := idx_some a t hno
      rw [← he] at hi
      have hsp : pre ++ [a] ++ sp t = xs := by rw [← hxs, he, sp_cut a t hno]; simp
      obtain ⟨k, hk⟩ : ∃ k, a.length = k := ⟨_, rfl⟩
      rw [hk] at hi
      have hsk : k + 1 + t.length = s.size := by rw [← hls, he]; simp; omega
      have e1 : s.extract 0 k = bs a := ext_bytes (by unfold seg; rw [he, ← hk]; simp)
      have e2 : s.extract (k + 1) s.size = bs t := ext_bytes (by unfold seg; rw [List.take_of_length_le (by omega), he, ← hk]; simp)
      obtain ⟨za, hza⟩ : ∃ z, bs a = z := ⟨_, rfl⟩
      obtain ⟨zt, hzt⟩ : ∃ z, bs t = z := ⟨_, rfl⟩
      obtain ⟨fn, tmps, assign, body, hy, hR⟩ := hY pre a wr hj (by rw [← hsp]; exact List.prefix_append _ _)
      rw [show encStr a = Value.string za from congrArg Value.string hza] at hy
      rw [hza] at e1
      rw [hzt] at e2
      have HR := Lib.hid hR
      have HT : Hid (t = zt.data.toList) := by rw [← hzt]; rfl
      have HSP := Lib.hid hsp
      have HB2 := Lib.hid b2
      have HB3 := Lib.hid b3
      have HB1 := Lib.hid b1
      have hztn : t.length = zt.size := by rw [← hzt]; rfl
      have q1 : (0 : Int) ≤ (k : Int) := by omega
      have q2 : (k : Int) ≤ (s.size : Int) := by omega
      have q3 : (k : Int) + 1 ≤ (s.size : Int) := by omega
      have q4 : (0 : Int) ≤ (k : Int) + 1 := by omega
      have q5 : IntKind.i64.wrap ((k : Int) + 1) = (k : Int) + 1 := by rw [IntKind.wrap_i64]; omega
      have q6 : wrap64 ((k : Int) + 1) = (k : Int) + 1 := by unfold wrap64; omega
      have q7 : IntKind.i64.wrap (k : Int) = (k : Int) := by rw [IntKind.wrap_i64]; omega
      have q8 : wrap64 (k : Int) = (k : Int) := by unfold wrap64; omega
      clear hj hxs hrel hR hsp hno hls he hk hza hzt b1 b2 b3
      gi_wp2_with (refine ⟨trivial, ?_⟩; gi_at_call 86; refine (callsIn_wide.2 (Tryd.strings_Index_one s 47 _)).mono ?_; rintro e w' ⟨rfl, rfl⟩)
      refine HR.out.mono ?_
      rintro e W3 ⟨rfl, hJ3, hk3⟩
      have d1 := hk3.box HB1.out (by omega) (by omega)
      have d2 := hk3.box HB2.out (by omega) (by omega)
      have d3 := hk3.box HB3.out (by omega) (by omega)
      have g1 := d1.cell
      have g2 := d2.cell
      have g3 := d3.cell
      have gf := d1.frozen
      have HD1 := Lib.hid d1
      have HD2 := Lib.hid d2
      have HD3 := Lib.hid d3
      have HJ3 := Lib.hid hJ3
      clear d1 d2 d3 hJ3 hk3
      gi_wp2
      go_roundw
      case rel => exact ⟨zt, pre ++ [a], HD1.out.set _, HD2.out.other (by omega) _, HD3.out.other (by omega) _, by rw [← HT.out]; exact HSP.out, hJ _ _ _ HJ3.out, by omega⟩
      case measure => rw [left_eq (HD1.out.set (.string zt)), left_eq HB1.out]; omega
end Go.Proofs.YtjagnihkpgbjeaaDoor
