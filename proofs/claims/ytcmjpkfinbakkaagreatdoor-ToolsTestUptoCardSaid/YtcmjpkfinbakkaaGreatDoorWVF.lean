import Derived.Test.YtcmjpkfinbakkaaGreatDoorWVB
import Derived.Test.YtcmjpkfinbakkaaGreatDoorZ
import Derived.Test.YtcmjpkfinbakkaaGreatDoorWR
namespace Go.Proofs.YtcmjpkfinbakkaaGreatDoor.Vf
set_option maxRecDepth 100000
open Go.RowKit Go.Maps Go.ChangeMaps
set_option linter.unusedVariables false
/-- Where the way to a place ends: 0, or 6 (there is no node), or 11 (a file is on the way). -/
def wayE (T : Tr) : Pth → Pth → Nat
  | _, [] => 0
  | _, [_] => 0
  | pre, k :: l :: r => match T (pre ++ [k]) with
    | none => 6
    | some n => if n.file = true then 11 else wayE T (pre ++ [k]) (l :: r)
def spotV (d : Value) (nm : ByteArray) (n : Value) (ns : Value) : Value := .agg #[d, .string nm, n, ns]
def spot0 : Value := spotV (.pointer none) ⟨#[]⟩ (.pointer none) (.slice none 0 0)
theorem below_drewN {a w : World} (h : Below a.heap.size a w) (n : Nat) : Below a.heap.size a (w.drewN n) := ⟨h.os, h.tape, h.output, h.size, h.block⟩
set_option maxRecDepth 100000 in
set_option maxHeartbeats 2000000 in
theorem walk_root (f : Nat) (Ad : Option Addr) (c : Nat) (w : World) :
    Calls Tryz.prog 76 #[.pointer (some ⟨f, 0, none⟩), .slice Ad 0 c] w fun e w' => e = .returned (.tuple #[spotV (.pointer none) ⟨#[]⟩ (.pointer (some ⟨f, 0, none⟩)) (.slice none 0 0), .int .i64 0]) ∧ Below w.heap.size w w' := by
  go_enter Tryz.func76, Tryz.ntmps76
  go_wp2_with fail
  refine wp_scope_straight ?_
  go_wp2_with fail
  simp +zetaDelta only [Exit.noGoto_ret]
  refine bodyPost_ret (v := .tuple #[spotV (.pointer none) ⟨#[]⟩ (.pointer (some ⟨f, 0, none⟩)) (.slice none 0 0), .int .i64 0]) ?_ rfl ?_
  · simp [results, Tryz.results65, go_sem]
    rfl
  · exact ⟨rfl, (Below.refl _ _).alloc (Nat.le_refl _) _⟩
theorem below4 {w W : World} (h : Below w.heap.size w W) (v0 v1 v2 v3 : Value) : Below w.heap.size w ((((W.setCell ⟨w.heap.size, 0, none⟩ v0).setCell ⟨w.heap.size, 1, none⟩ v1).setCell ⟨w.heap.size, 2, none⟩ v2).setCell ⟨w.heap.size, 3, none⟩ v3) :=
  (((h.setCell (p := ⟨w.heap.size, 0, none⟩) (Nat.le_refl _) v0).setCell (p := ⟨w.heap.size, 1, none⟩) (Nat.le_refl _) v1).setCell (p := ⟨w.heap.size, 2, none⟩) (Nat.le_refl _) v2).setCell (p := ⟨w.heap.size, 3, none⟩) (Nat.le_refl _) v3
/-- What the walk's end says: the place's spot. -/
def WalkP (T : Tr) (A : Pth → Nat) (M : Pth → Option Nat) (L : Pth) (nv : Value) (w : World) (e : Ending) (w' : World) : Prop :=
  Below w.heap.size w w' ∧ ((wayE T [] L ≠ 0 ∧ e = .returned (.tuple #[spot0, .int .i64 (wayE T [] L)])) ∨
    (wayE T [] L = 0 ∧ ∃ d k dn, L = d ++ [k] ∧ T d = some dn ∧ dn.file = false ∧ e = .returned (.tuple #[spotV (.pointer (some ⟨A d, 0, none⟩)) ⟨k.toArray⟩ (ptrV (kidsOf T A d k)) nv, .int .i64 0])))
theorem wayE_step {T : Tr} {L : Pth} {i : Nat} (hi : i + 1 < L.length) (pre : Pth) : wayE T pre (L.drop i) = match T (pre ++ [L[i]]) with
    | none => 6
    | some n => if n.file = true then 11 else wayE T (pre ++ [L[i]]) (L.drop (i + 1)) := by
  rw [List.drop_eq_getElem_cons (by omega), List.drop_eq_getElem_cons (l := L) (i := i + 1) (by omega)]
  rfl
theorem wayE_last {T : Tr} {L : Pth} {i : Nat} (hi : i + 1 = L.length) (pre : Pth) : wayE T pre (L.drop i) = 0 := by
  rw [List.drop_eq_getElem_cons (by omega), List.drop_eq_nil_of_le (by omega)]
  rfl
set_option maxRecDepth 100000 in
set_option maxHeartbeats 4000000 in
theorem walk_any (f g c base n0 : Nat) (L : Pth) (w : World) {B N : Nat} {tl : List Value} {T : Tr} {A : Pth → Nat} {M : Pth → Option Nat} {V : Pth → Value} (hT : TreeAt w B N f 71 tl T A M V) {r0 : Nd} (h0 : T [] = some r0) (hr0 : r0.file = false)
    (hL : 0 < L.length) (hL2 : L.length ≤ 1000000) (hc : L.length ≤ c) (hS : ∀ i (h : i < L.length), w.cell? ⟨g, i, none⟩ = some (.string ⟨L[i].toArray⟩)) (hs : ∀ x ∈ L, x.length ≤ maxLen) :
    Calls Tryz.prog 76 #[.pointer (some ⟨f, 0, none⟩), .slice (some ⟨g, 0, none⟩) L.length c] w (WalkP T A M L (.slice (some ⟨g, 0, none⟩) L.length c) w) := by
  have hsl := slice_last g L.length c hL hc
  have HT := Lib.hid hT
  have HS := Lib.hid hS
  have Hs := Lib.hid hs
  have hq := hS (L.length - 1) (by omega)
  obtain ⟨n1, hn1⟩ : ∃ n1, n1 + 1 = L.length := ⟨L.length - 1, by omega⟩
  obtain ⟨ln, hln⟩ : ∃ ln, L.length = ln := ⟨_, rfl⟩
  have HLN := Lib.hid hln
  have H0 := Lib.hid h0
  have hd0 : ((ln : Int) == 0) = false := by simp; omega
  have hwr : IntKind.i64.wrap ((ln : Int) - 1) = (n1 : Int) := by rw [show (ln : Int) - 1 = (n1 : Int) by omega]; exact IntWalk.i64_in _ (by omega)
  obtain ⟨lst, hlst⟩ : ∃ lst : Bz, L[n1]'(by omega) = lst := ⟨_, rfl⟩
  have hq2 : w.cell? ⟨g, n1, none⟩ = some (.string ⟨lst.toArray⟩) := by rw [← hlst]; exact hS n1 (by omega)
  have HLST := Lib.hid hlst
  rw [hln] at hsl hn1 ⊢
  have hsl2 : ∀ w, (Instr.slice 22 (.slice (some ⟨g, 0, none⟩) ln c) none (some (.int .i64 (n1 : Int))) none).run Tryz.prog w = .ok (.slice (some ⟨g, 0, none⟩) n1 c) w := by
    intro w
    have := hsl w
    rw [show ((ln : Int) - 1) = (n1 : Int) by omega, show ln - 1 = n1 by omega] at this
    exact this
  have hg : g < w.heap.size := by
    by_cases h : g < w.heap.size
    · exact h
    · have := hq2
      simp only [World.cell?, Array.getElem?_eq_none (Nat.le_of_not_lt h)] at this
      cases this
  have hn1c : (n1 : Int) < (ln : Int) := by omega
  have hn10 : (0 : Int) ≤ (n1 : Int) := by omega
  clear hsl hq hT hS hs hlst h0
  go_enter Tryz.func76, Tryz.ntmps76
  go_wp2_with fail
  refine wp_scope_straight ?_
  go_wp2_with fail
  have hq3 : (w.alloc (.cells #[.pointer none, .string ⟨#[]⟩, .pointer none, .slice none 0 0] 74)).cell? ⟨g, n1, none⟩ = some (.string ⟨lst.toArray⟩) := by
    rw [World.cell?_alloc_old _ _ _ (Nat.ne_of_lt hg)]; exact hq2
  go_quiet (fail)
  obtain ⟨W, hW⟩ : ∃ W, (w.alloc (.cells #[.pointer none, .string ⟨#[]⟩, .pointer none, .slice none 0 0] 74)).drewN nq = W := ⟨_, rfl⟩
  rw [hW]
  have hbel : Below w.heap.size w W := by
    rw [← hW]
    exact below_drewN ((Below.refl _ _).alloc (Nat.le_refl _) _) _
  have hbox : W.heap[w.heap.size]? = some (.cells [.pointer none, .string ⟨#[]⟩, .pointer none, .slice none 0 0].toArray 74 (0, 0)) := by
    rw [← hW]
    exact heap_alloc_new w _
  have HTW := Lib.hid (HT.out.only (X := fun _ => False) (Only.of_below hbel) (fun _ h => h.elim))
  have hSW : ∀ i (h : i < L.length), W.cell? ⟨g, i, none⟩ = some (.string ⟨L[i].toArray⟩) := fun i h => (hbel.cell (p := ⟨g, i, none⟩) hg).trans (HS.out i h)
  have HSW := Lib.hid hSW
  have q0 := cell_of hbox 0
  have q1 := cell_of hbox 1
  have q2 := cell_of hbox 2
  have q3 := cell_of hbox 3
  have r0' := free_of hbox 0
  have r1' := free_of hbox 1
  have r2' := free_of hbox 2
  have r3' := free_of hbox 3
  simp only [List.getElem?_cons_zero, List.getElem?_cons_succ] at q0 q1 q2 q3
  have HBOX := Lib.hid hbox
  have HBEL := Lib.hid hbel
  have hwW : w.heap.size < W.heap.size := blk_lt hbox
  have key : ∀ p n (x : Bz), x.length ≤ maxLen → T p = some n → W.cell? ⟨A p, 3, none⟩ = some (.map (M p)) ∧ W.cell? ⟨A p, 0, none⟩ = some (.bool n.file) ∧ (Instr.lookup 67 (.map (M p)) (.string ⟨x.toArray⟩) false).run Tryz.prog W = .ok (ptrV (kidsOf T A p x)) W := fun p n x hx hp => by
    have hb := HTW.out.blk p n hp
    refine ⟨(cell_of hb 3).trans rfl, (cell_of hb 0).trans rfl, ?_⟩
    have := (HTW.out.kids p n hp).look ⟨x.toArray⟩ (by simpa [ByteArray.size] using hx)
    simpa using this
  have KEY := Lib.hid key
  obtain ⟨E, hE⟩ : ∃ E, wayE T [] L = E := ⟨_, rfl⟩
  have HE := Lib.hid hE
  have HA0 := Lib.hid HT.out.a0
  have HQ : Hid (WalkP T A M L (.slice (some ⟨g, 0, none⟩) ln c) w = WalkP T A M L (.slice (some ⟨g, 0, none⟩) ln c) w) := rfl
  clear hW hbel hbox hSW key hE hq2 hq3
  go_wp2_with fail
  refine wp_label ?_
  go_wp2_with fail
  go_loopw [6, 7, 36] (fun at' er i wx => ∃ (k : Nat) (dn : Nd), k ≤ n1 ∧ i = .int .i64 k ∧ er = .int .i64 0 ∧ at' = .pointer (some ⟨A (L.take k), 0, none⟩) ∧ wx = W ∧ Hid (wayE T (L.take k) (L.drop k) = E ∧ T (L.take k) = some dn ∧ dn.file = false)) (fun _ _ i _ => n1 - (intOf i).toNat)
  case atStart => exact ⟨0, r0, Nat.zero_le _, rfl, rfl, by rw [List.take_zero, HA0.out], rfl, HE.out, H0.out, hr0⟩
  case round =>
    obtain ⟨k, dn, hk, rfl, rfl, rfl, rfl, HR⟩ := hrel
    have hkI : (0 : Int) ≤ (k : Int) := by omega
    by_cases hlt : k < n1
    · have hltI : (k : Int) < (n1 : Int) := by omega
      have hltd : decide ((k : Int) < (n1 : Int)) = true := decide_eq_true hltI
      have hkl : k + 1 < L.length := by have := HLN.out; omega
      have b1 : IntKind.i64.wrap ((k : Int) + 1) = (k : Int) + 1 := IntWalk.i64_in _ (by omega)
      obtain ⟨x, hx⟩ : ∃ x, L[k] = x := ⟨_, rfl⟩
      have hxs : x.length ≤ maxLen := Hs.out x (by rw [← hx]; exact List.getElem_mem _)
      have hcx := HSW.out k (by omega)
      rw [hx] at hcx
      obtain ⟨hm, _, hlk⟩ := KEY.out _ dn x hxs HR.out.2.1
      have hst := wayE_step (T := T) hkl (L.take k)
      rw [hx, HR.out.1] at hst
      have htk : L.take k ++ [x] = L.take (k + 1) := by rw [← hx]; exact List.take_append_getElem (by omega)
      rw [htk] at hst
      have adk := addK g k
      have hpre : 0 < k ∨ k = 0 := by omega
      cases hTx : T (L.take (k + 1)) with
      | none =>
        rw [hTx] at hst
        have hkv : kidsOf T A (L.take k) x = none := by unfold kidsOf; rw [htk, hTx]; rfl
        rw [hkv] at hlk
        simp only [ptrV] at hlk
        have HST := Lib.hid hst
        clear hst hTx hkv htk hx hpre
        go_wp2_with fail
        try simp +zetaDelta only [Exit.noGoto_ret]
        refine bodyPost_ret (v := .tuple #[spot0, .int .i64 6]) ?_ rfl ?_
        · simp [results, Tryz.results65, go_sem, q0, q1, q2, q3]
          rfl
        · refine ⟨?_, .inl ?_⟩
          · exact below4 HBEL.out _ _ _ _
          · have e6 : wayE T [] L = 6 := HE.out.trans HST.out
            rw [e6]; exact ⟨by decide, rfl⟩
      | some n =>
        rw [hTx] at hst
        dsimp only at hst
        have hkv : kidsOf T A (L.take k) x = some (A (L.take (k + 1))) := by unfold kidsOf; rw [htk, hTx]; rfl
        rw [hkv] at hlk
        simp only [ptrV] at hlk
        obtain ⟨hm2, hf2, _⟩ := KEY.out _ n x hxs hTx
        cases hnf : n.file with
        | true =>
          rw [hnf] at hf2
          rw [hnf, if_pos rfl] at hst
          have HST := Lib.hid hst
          clear hst hTx hkv htk hx hpre hm2
          go_wp2_with fail
          try simp +zetaDelta only [Exit.noGoto_ret]
          refine bodyPost_ret (v := .tuple #[spot0, .int .i64 11]) ?_ rfl ?_
          · simp [results, Tryz.results65, go_sem, q0, q1, q2, q3]
            rfl
          · refine ⟨?_, .inl ?_⟩
            · exact below4 HBEL.out _ _ _ _
            · have e6 : wayE T [] L = 11 := HE.out.trans HST.out
              rw [e6]; exact ⟨by decide, rfl⟩
        | false =>
          rw [hnf] at hf2
          rw [hnf, if_neg (by simp)] at hst
          have HST := Lib.hid hst
          have HTX := Lib.hid hTx
          have HNF := Lib.hid hnf
          clear hst hTx hkv htk hx hpre hm2 hnf
          go_wp2_with fail
          go_roundw
          case measure => simp [intOf]; omega
          case rel =>
           exact ⟨k + 1, n, by omega, by go_num, rfl, rfl, trivial, HST.out.symm, HTX.out, HNF.out⟩
    · obtain rfl : k = n1 := by omega
      have hltd : decide ((k : Int) < (k : Int)) = false := decide_eq_false (by omega)
      obtain ⟨hm, _, hlk⟩ := KEY.out _ dn lst (Hs.out lst (by rw [← HLST.out]; exact List.getElem_mem _)) HR.out.2.1
      obtain ⟨kv, hkv⟩ : ∃ kv, ptrV (kidsOf T A (L.take k) lst) = .pointer kv := by cases kidsOf T A (L.take k) lst <;> exact ⟨_, rfl⟩
      rw [hkv] at hlk
      have HKV := Lib.hid hkv
      clear hkv
      go_wp2_with fail
      simp +zetaDelta only [Exit.noGoto_ret]
      refine bodyPost_ret (v := .tuple #[spotV (.pointer (some ⟨A (L.take k), 0, none⟩)) ⟨lst.toArray⟩ (.pointer kv) (.slice (some ⟨g, 0, none⟩) ln c), .int .i64 0]) ?_ rfl ?_
      · simp [results, Tryz.results65, go_sem, q0, q1, q2, q3]
        rfl
      · refine ⟨?_, .inr ⟨?_, L.take k, lst, dn, ?_, HR.out.2.1, HR.out.2.2, ?_⟩⟩
        · exact below4 HBEL.out _ _ _ _
        · rw [HE.out, ← HR.out.1]
          exact wayE_last (by rw [hn1, HLN.out]) _
        · have := List.take_append_getElem (l := L) (i := k) (by omega)
          rw [HLST.out] at this
          rw [this, hn1, ← HLN.out, List.take_length]
        · rw [HKV.out]
end Go.Proofs.YtcmjpkfinbakkaaGreatDoor.Vf

namespace Go.Proofs.YtcmjpkfinbakkaaGreatDoor.Vf
set_option maxRecDepth 100000
open Go.RowKit Go.Maps Go.ChangeMaps
set_option linter.unusedVariables false
def root1 : ByteArray := ⟨#[47]⟩
/-- The names of the place that a path leads to. -/
def findL (p : ByteArray) : Pth := parts root1 ⟨(abs_ root1 p).1.toArray⟩
/-- Why a path leads nowhere: 0 if it leads to a place. -/
def findE (T : Tr) (p : ByteArray) : Int := if (abs_ root1 p).2 = 0 then (wayE T [] (findL p) : Nat) else (abs_ root1 p).2
def FindP (f : Nat) (T : Tr) (A : Pth → Nat) (p : ByteArray) (w : World) (e : Ending) (w' : World) : Prop :=
  Below w.heap.size w w' ∧ ((findE T p ≠ 0 ∧ e = .returned (.tuple #[spot0, .int .i64 (findE T p)])) ∨
    (findE T p = 0 ∧ findL p = [] ∧ e = .returned (.tuple #[spotV (.pointer none) ⟨#[]⟩ (.pointer (some ⟨f, 0, none⟩)) (.slice none 0 0), .int .i64 0])) ∨
    (findE T p = 0 ∧ ∃ d k dn nv, findL p = d ++ [k] ∧ T d = some dn ∧ dn.file = false ∧ w'.ownsRow w.heap.size 9 1 nv (d ++ [k]).length ((d ++ [k]).map encStr) ∧
      e = .returned (.tuple #[spotV (.pointer (some ⟨A d, 0, none⟩)) ⟨k.toArray⟩ (ptrV (kidsOf T A d k)) nv, .int .i64 0])))
set_option maxRecDepth 100000 in
set_option maxHeartbeats 400000 in
theorem here_any (f : Nat) (w : World) : Calls Tryz.prog 34 #[.pointer (some ⟨f, 0, none⟩)] w fun e w' => e = .returned (.pointer (some ⟨f, 0, none⟩)) ∧ w' = w := by
  go_enter Tryz.func34, Tryz.ntmps34
  go_wp2_with fail
  go_ret
  exact ⟨rfl, rfl⟩
def boxL : List Value := [.pointer none, .string ⟨#[]⟩, .pointer none, .slice none 0 0]
theorem row_nil {w : World} {B : Nat} {v : Value} {xs : List Value} (h : w.ownsRow B 9 1 v ([] : Pth).length xs) : ∃ Ad c, v = .slice Ad 0 c := by
  rcases h.2 with ⟨rfl, _⟩ | ⟨g, cap, cur, rfl, _⟩
  · exact ⟨none, 0, rfl⟩
  · exact ⟨_, _, rfl⟩
theorem find_below1 {w w1 w3 : World} (h1 : Below (w.alloc (.cells #[.pointer none, .string ⟨#[]⟩, .pointer none, .slice none 0 0] 74)).heap.size (w.alloc (.cells #[.pointer none, .string ⟨#[]⟩, .pointer none, .slice none 0 0] 74)) w1) (h3 : Below w1.heap.size w1 w3) : Below w.heap.size w w3 := by
  have s1 := h1.size
  have hz : (w.alloc (.cells #[.pointer none, .string ⟨#[]⟩, .pointer none, .slice none 0 0] 74)).heap.size = w.heap.size + 1 := by simp
  rw [hz] at s1
  exact (((Below.refl _ w).alloc (Nat.le_refl _) _).trans (h1.mono (by omega))).trans (h3.mono (by omega))
theorem row_strs {w : World} {B lg : Nat} {v : Value} {L : Pth} (hlg : L.length = lg) (h : w.ownsRow B 9 1 v lg (L.map encStr)) (h0 : 0 < lg) : ∃ g c, v = .slice (some ⟨g, 0, none⟩) lg c ∧ lg ≤ c ∧ ∀ i (hi : i < L.length), w.cell? ⟨g, i, none⟩ = some (.string ⟨L[i].toArray⟩) := by
  obtain ⟨g, c, rfl, _, _⟩ := h.form h0
  refine ⟨g, c, rfl, ?_, fun i hi => ?_⟩
  · rcases h.2 with ⟨e, _⟩ | ⟨g', c', cur, e, _, _, h1, _⟩
    · cases e
    · cases e; exact h1
  · rw [World.ownsRow.cellAt h i (by omega)]
    rw [List.getElem?_map, List.getElem?_eq_getElem hi]
    rfl
theorem row_names {w w1 w3 w5 : World} {g c lg : Nat} {xs : List Value} (h : w3.ownsRow w1.heap.size 9 1 (.slice (some ⟨g, 0, none⟩) lg c) lg xs) (h1 : Below (w.alloc (.cells #[.pointer none, .string ⟨#[]⟩, .pointer none, .slice none 0 0] 74)).heap.size (w.alloc (.cells #[.pointer none, .string ⟨#[]⟩, .pointer none, .slice none 0 0] 74)) w1) (h3 : Below w1.heap.size w1 w3) (h5 : Below w3.heap.size w3 w5) {v0 v1 v2 v3 : Value} :
    ((((w5.setCell ⟨w.heap.size, 0, none⟩ v0).setCell ⟨w.heap.size, 1, none⟩ v1).setCell ⟨w.heap.size, 2, none⟩ v2).setCell ⟨w.heap.size, 3, none⟩ v3).ownsRow w.heap.size 9 1 (.slice (some ⟨g, 0, none⟩) lg c) lg xs := by
  have s1 := h1.size
  have hz : (w.alloc (.cells #[.pointer none, .string ⟨#[]⟩, .pointer none, .slice none 0 0] 74)).heap.size = w.heap.size + 1 := by simp
  rw [hz] at s1
  refine ⟨h.1, ?_⟩
  rcases h.2 with ⟨e, _⟩ | ⟨g', c', cur, e, hb, h2, r⟩
  · cases e
  · cases e
    refine .inr ⟨g, c, cur, rfl, by omega, ?_, r⟩
    have hne : g ≠ w.heap.size := by omega
    rw [Below.heap_setCell _ _ _ _ hne, Below.heap_setCell _ _ _ _ hne, Below.heap_setCell _ _ _ _ hne, Below.heap_setCell _ _ _ _ hne, h5.block _ (Array.getElem?_eq_some_iff.1 h2).1]
    exact h2
theorem walk_good (f g c : Nat) (d : Pth) (k : Bz) (w : World) {B N : Nat} {tl : List Value} {T : Tr} {A : Pth → Nat} {M : Pth → Option Nat} {V : Pth → Value} (hT : TreeAt w B N f 71 tl T A M V) {r0 : Nd} (h0 : T [] = some r0) (hr0 : r0.file = false)
    {lg : Nat} (hlg : (d ++ [k]).length = lg) (hL2 : (d ++ [k]).length ≤ 1000000) (hc : lg ≤ c) (hS : ∀ i (h : i < (d ++ [k]).length), w.cell? ⟨g, i, none⟩ = some (.string ⟨(d ++ [k])[i].toArray⟩)) (hs : ∀ x ∈ d ++ [k], x.length ≤ maxLen) (hE : wayE T [] (d ++ [k]) = 0) :
    Calls Tryz.prog 76 #[.pointer (some ⟨f, 0, none⟩), .slice (some ⟨g, 0, none⟩) lg c] w fun e w' => (∃ dn, T d = some dn ∧ dn.file = false) ∧
      e = .returned (.tuple #[spotV (.pointer (some ⟨A d, 0, none⟩)) ⟨k.toArray⟩ (ptrV (kidsOf T A d k)) (.slice (some ⟨g, 0, none⟩) lg c), .int .i64 0]) ∧ Below w.heap.size w w' := by
  subst hlg
  refine (walk_any f g c 0 0 (d ++ [k]) w hT h0 hr0 (by simp) hL2 hc hS hs).mono ?_
  rintro e w' ⟨h1, ⟨h2, _⟩ | ⟨_, d', k', dn, h3, h4, h5, h6⟩⟩
  · exact absurd hE h2
  · obtain ⟨e1, e2⟩ := List.append_inj' h3 rfl
    have e2 : k = k' := by simpa using e2
    subst e1; subst e2
    exact ⟨⟨dn, h4, h5⟩, h6, h1⟩
theorem walk_bad (f g c : Nat) (d : Pth) (k : Bz) (w : World) {B N : Nat} {tl : List Value} {T : Tr} {A : Pth → Nat} {M : Pth → Option Nat} {V : Pth → Value} (hT : TreeAt w B N f 71 tl T A M V) {r0 : Nd} (h0 : T [] = some r0) (hr0 : r0.file = false)
    {lg : Nat} (hlg : (d ++ [k]).length = lg) (hL2 : (d ++ [k]).length ≤ 1000000) (hc : lg ≤ c) (hS : ∀ i (h : i < (d ++ [k]).length), w.cell? ⟨g, i, none⟩ = some (.string ⟨(d ++ [k])[i].toArray⟩)) (hs : ∀ x ∈ d ++ [k], x.length ≤ maxLen) (hE : ¬ wayE T [] (d ++ [k]) = 0) :
    Calls Tryz.prog 76 #[.pointer (some ⟨f, 0, none⟩), .slice (some ⟨g, 0, none⟩) lg c] w fun e w' => e = .returned (.tuple #[spot0, .int .i64 (wayE T [] (d ++ [k]))]) ∧ Below w.heap.size w w' := by
  subst hlg
  refine (walk_any f g c 0 0 (d ++ [k]) w hT h0 hr0 (by simp) hL2 hc hS hs).mono ?_
  rintro e w' ⟨h1, ⟨_, h2⟩ | ⟨h2, _⟩⟩
  · exact ⟨h2, h1⟩
  · exact absurd h2 hE
theorem box_facts {w : World} {a : Nat} {v0 v1 v2 v3 : Value} (hb : w.heap[a]? = some (.cells [v0, v1, v2, v3].toArray 74 (0, 0))) :
    w.cell? ⟨a, 0, none⟩ = some v0 ∧ w.cell? ⟨a, 1, none⟩ = some v1 ∧ w.cell? ⟨a, 2, none⟩ = some v2 ∧ w.cell? ⟨a, 3, none⟩ = some v3 ∧ w.frozen? ⟨a, 0, none⟩ = false ∧ w.frozen? ⟨a, 1, none⟩ = false ∧ w.frozen? ⟨a, 2, none⟩ = false ∧ w.frozen? ⟨a, 3, none⟩ = false :=
  ⟨cell_of hb 0, cell_of hb 1, cell_of hb 2, cell_of hb 3, free_of hb 0, free_of hb 1, free_of hb 2, free_of hb 3⟩
theorem find_below {w w1 w3 w5 : World} (h1 : Below (w.alloc (.cells #[.pointer none, .string ⟨#[]⟩, .pointer none, .slice none 0 0] 74)).heap.size (w.alloc (.cells #[.pointer none, .string ⟨#[]⟩, .pointer none, .slice none 0 0] 74)) w1) (h3 : Below w1.heap.size w1 w3) (h5 : Below w3.heap.size w3 w5) :
    Below w.heap.size w w5 ∧ w5.heap[w.heap.size]? = some (.cells [.pointer none, .string ⟨#[]⟩, .pointer none, .slice none 0 0].toArray 74 (0, 0)) := by
  have s1 := h1.size
  have s3 := h3.size
  have hz : (w.alloc (.cells #[.pointer none, .string ⟨#[]⟩, .pointer none, .slice none 0 0] 74)).heap.size = w.heap.size + 1 := by simp
  rw [hz] at s1
  constructor
  · exact ((((Below.refl _ w).alloc (Nat.le_refl _) _).trans (h1.mono (by omega))).trans (h3.mono (by omega))).trans (h5.mono (by omega))
  · rw [h5.block _ (by omega), h3.block _ (by omega), h1.block _ (by omega)]
    exact heap_alloc_new w _
set_option maxRecDepth 100000 in
set_option maxHeartbeats 4000000 in
theorem find_any (f : Nat) (p : ByteArray) (w : World) {B N : Nat} {tl : List Value} {T : Tr} {A : Pth → Nat} {M : Pth → Option Nat} {V : Pth → Value} (hT : TreeAt w B N f 71 tl T A M V) {r0 : Nd} (h0 : T [] = some r0) (hr0 : r0.file = false) (hp : p.size ≤ 30000)
    (hlen : (abs_ root1 p).1.length ≤ 40000) (hpl : (findL p).length ≤ 1000000 ∧ ∀ x ∈ findL p, x.length ≤ maxLen) :
    Calls Tryz.prog 33 #[.pointer (some ⟨f, 0, none⟩), .string p] w (FindP f T A p w) := by
  obtain ⟨rs, rn, hr⟩ : ∃ rs rn, abs_ root1 p = (rs, rn) := ⟨_, _, rfl⟩
  have HABS := Lib.hid (fun w => Abs_any root1 p w (by decide) (by omega) rs rn hr)
  have HHE := Lib.hid (fun w => here_any f w)
  have HT := Lib.hid hT
  have HR := Lib.hid hr
  obtain ⟨Q, hQ⟩ : ∃ Q, FindP f T A p w = Q := ⟨_, rfl⟩
  rw [hQ]
  have HQ := Lib.hid hQ
  have hlen' : rs.length ≤ 40000 := by rw [hr] at hlen; exact hlen
  have HPL := Lib.hid hpl
  have HL : Hid (findL p = parts root1 ⟨rs.toArray⟩) := by rw [Hid, findL, hr]
  by_cases hn : rn = 0
  · subst hn
    have HPA := Lib.hid (fun w => Parts_any root1 ⟨rs.toArray⟩ w (by decide) (by simpa [ByteArray.size] using hlen'))
    have HF : Hid (findE T p = (wayE T [] (findL p) : Nat)) := by rw [Hid, findE, hr]; rfl
    obtain ⟨L, hL⟩ : ∃ L, findL p = L := ⟨_, rfl⟩
    rw [← HL.out, hL] at HPA
    rw [hL] at HF HPL
    have HLL := Lib.hid hL
    have hrt : root1 = ⟨#[47]⟩ := rfl
    rw [hrt] at HABS HPA
    clear hT hr hQ hL hlen hpl HL HR hrt hlen'
    cases L with
    | nil =>
      have HWR := Lib.hid (fun (Ad : Option Addr) (c : Nat) (w : World) => walk_root f Ad c w)
      go_enter Tryz.func33, Tryz.ntmps33
      go_wp2_with (first
        | (go_at_call 42; refine (HABS.out _).mono ?_; rintro e w1 ⟨rfl, h1⟩; have H1 := Lib.hid h1; clear h1; simp only [])
        | (go_at_call 34; refine (HHE.out _).mono ?_; rintro e w2 ⟨rfl, h2⟩; obtain rfl := h2.symm; simp only [])
        | (go_at_call 77; refine (HPA.out _).mono ?_; rintro e w3 ⟨v3, rfl, h3, h3b⟩; obtain ⟨Ad, c, rfl⟩ := row_nil h3; have H3 := Lib.hid h3b; clear h3 h3b; simp only [])
        | (go_at_call 76; refine (HWR.out _ _ _).mono ?_; rintro e w5 ⟨rfl, h5⟩; have H5 := Lib.hid h5; have HC := Lib.hid (find_below H1.out H3.out h5); clear h5; obtain ⟨q0, q1, q2, q3, u0, u1, u2, u3⟩ := box_facts HC.out.2; simp only [spotV]))
      refine bodyPost_ret (v := .tuple #[spotV (.pointer none) ⟨#[]⟩ (.pointer (some ⟨f, 0, none⟩)) (.slice none 0 0), .int .i64 0]) ?_ rfl ?_
      · simp [results, Tryz.results38, go_sem, q0, q1, q2, q3]
        rfl
      · rw [← HQ.out]
        exact ⟨below4 HC.out.1 _ _ _ _, .inr (.inl ⟨HF.out.trans rfl, HLL.out, rfl⟩)⟩
    | cons k0 r =>
      have hk0 : (k0 :: r) ≠ [] := by simp
      obtain ⟨d, k, hdk⟩ : ∃ d k, k0 :: r = d ++ [k] := ⟨_, _, (List.dropLast_concat_getLast hk0).symm⟩
      rw [hdk] at HF HPA HPL HLL
      obtain ⟨lg, hlg⟩ : ∃ lg, (d ++ [k]).length = lg := ⟨_, rfl⟩
      have HLG := Lib.hid hlg
      have hlg0 : 0 < lg := by rw [← hlg]; simp
      rw [hlg] at HPA
      by_cases hE : wayE T [] (d ++ [k]) = 0
      · have HWR := Lib.hid (fun (g c : Nat) (w : World) (hT : TreeAt w B N f 71 tl T A M V) hc hS => walk_good f g c d k w hT h0 hr0 HLG.out HPL.out.1 hc hS HPL.out.2 hE)
        obtain ⟨kv, hkv⟩ : ∃ kv, ptrV (kidsOf T A d k) = .pointer kv := by cases kidsOf T A d k <;> exact ⟨_, rfl⟩
        have HKV := Lib.hid hkv
        rw [hkv] at HWR
        have HE := Lib.hid hE
        clear hkv hE hdk hk0 hlg
        go_enter Tryz.func33, Tryz.ntmps33
        go_wp2_with (first
          | (go_at_call 42; refine (HABS.out _).mono ?_; rintro e w1 ⟨rfl, h1⟩; have H1 := Lib.hid h1; clear h1; simp only [])
          | (go_at_call 34; refine (HHE.out _).mono ?_; rintro e w2 ⟨rfl, h2⟩; obtain rfl := h2.symm; simp only [])
          | (go_at_call 77; refine (HPA.out _).mono ?_; rintro e w3 ⟨v3, rfl, h3, h3b⟩; obtain ⟨g, c, rfl, hcc, hS⟩ := row_strs HLG.out h3 hlg0; have H3 := Lib.hid h3b; have HROW := Lib.hid h3; have HS := Lib.hid hS; clear h3 h3b hS; simp only [])
          | (go_at_call 76; refine (HWR.out _ _ _ (HT.out.only (X := fun _ => False) (Only.of_below (find_below1 H1.out H3.out)) (fun _ h => h.elim)) hcc HS.out).mono ?_; rintro e w5 ⟨⟨dn, hdn⟩, rfl, h5⟩; have H5 := Lib.hid h5; have HDN := Lib.hid hdn; have HC := Lib.hid (find_below H1.out H3.out h5); clear h5 hdn; obtain ⟨q0, q1, q2, q3, u0, u1, u2, u3⟩ := box_facts HC.out.2; simp only [spotV]))
        refine bodyPost_ret (v := .tuple #[spotV (.pointer (some ⟨A d, 0, none⟩)) ⟨k.toArray⟩ (.pointer kv) (.slice (some ⟨g, 0, none⟩) lg c), .int .i64 0]) ?_ rfl ?_
        · simp [results, Tryz.results38, go_sem, q0, q1, q2, q3]
          rfl
        · rw [← HQ.out]
          refine ⟨below4 HC.out.1 _ _ _ _, .inr (.inr ⟨HF.out.trans (by rw [HE.out]; rfl), d, k, dn, .slice (some ⟨g, 0, none⟩) lg c, HLL.out, HDN.out.1, HDN.out.2, ?_, ?_⟩)⟩
          · rw [HLG.out]
            exact row_names HROW.out H1.out H3.out H5.out
          · rw [HKV.out]
      · have HWR := Lib.hid (fun (g c : Nat) (w : World) (hT : TreeAt w B N f 71 tl T A M V) hc hS => walk_bad f g c d k w hT h0 hr0 HLG.out HPL.out.1 hc hS HPL.out.2 hE)
        have HE := Lib.hid hE
        obtain ⟨we, hwe⟩ : ∃ we, wayE T [] (d ++ [k]) = we := ⟨_, rfl⟩
        rw [hwe] at HWR HF HE
        clear hE hdk hk0 hlg hwe
        go_enter Tryz.func33, Tryz.ntmps33
        go_wp2_with (first
          | (go_at_call 42; refine (HABS.out _).mono ?_; rintro e w1 ⟨rfl, h1⟩; have H1 := Lib.hid h1; clear h1; simp only [])
          | (go_at_call 34; refine (HHE.out _).mono ?_; rintro e w2 ⟨rfl, h2⟩; obtain rfl := h2.symm; simp only [])
          | (go_at_call 77; refine (HPA.out _).mono ?_; rintro e w3 ⟨v3, rfl, h3, h3b⟩; obtain ⟨g, c, rfl, hcc, hS⟩ := row_strs HLG.out h3 hlg0; have H3 := Lib.hid h3b; have HROW := Lib.hid h3; have HS := Lib.hid hS; clear h3 h3b hS; simp only [])
          | (go_at_call 76; refine (HWR.out _ _ _ (HT.out.only (X := fun _ => False) (Only.of_below (find_below1 H1.out H3.out)) (fun _ h => h.elim)) hcc HS.out).mono ?_; rintro e w5 ⟨rfl, h5⟩; have H5 := Lib.hid h5; have HC := Lib.hid (find_below H1.out H3.out h5); clear h5; obtain ⟨q0, q1, q2, q3, u0, u1, u2, u3⟩ := box_facts HC.out.2; simp only [spotV, spot0]))
        refine bodyPost_ret (v := .tuple #[spot0, .int .i64 we]) ?_ rfl ?_
        · simp [results, Tryz.results38, go_sem, q0, q1, q2, q3]
          rfl
        · rw [← HQ.out]
          exact ⟨below4 HC.out.1 _ _ _ _, .inl ⟨by rw [HF.out]; exact fun e => HE.out (by omega), by rw [HF.out]⟩⟩
  · have hne : (rn != 0) = true := by simpa using hn
    have HF : Hid (findE T p = rn) := by rw [Hid, findE, hr]; exact if_neg hn
    have HN := Lib.hid hn
    have hrt : root1 = ⟨#[47]⟩ := rfl
    rw [hrt] at HABS
    clear hT hr hQ hlen hpl HL HR hrt hlen' hn
    go_enter Tryz.func33, Tryz.ntmps33
    go_wp2_with (go_at_call 42; refine (HABS.out _).mono ?_; rintro e w1 ⟨rfl, h1⟩; have H1 := Lib.hid h1; have HC := Lib.hid (find_below H1.out (Below.refl _ _) (Below.refl _ _)); clear h1; obtain ⟨q0, q1, q2, q3, u0, u1, u2, u3⟩ := box_facts HC.out.2; simp only [])
    refine bodyPost_ret (v := .tuple #[spot0, .int .i64 rn]) ?_ rfl ?_
    · simp [results, Tryz.results38, go_sem, q0, q1, q2, q3]
      rfl
    · rw [← HQ.out]
      exact ⟨below4 HC.out.1 _ _ _ _, .inl ⟨by rw [HF.out]; exact HN.out, by rw [HF.out]⟩⟩
end Go.Proofs.YtcmjpkfinbakkaaGreatDoor.Vf

namespace Go.Proofs.YtcmjpkfinbakkaaGreatDoor.Vf
set_option maxRecDepth 100000
open Go.RowKit Go.Maps Go.ChangeMaps
set_option linter.unusedVariables false
/-- A file system's counters. -/
structure Cn where
  nodes : Int
  bytes : Int
  count : Int
  size : Int
  clock : Int
def Cn.tl (c : Cn) : List Value := [.int .i64 c.nodes, .int .i64 c.bytes, .int .i64 c.count, .int .i64 c.size, .int .i64 c.clock]
theorem setF_id {α : Type} (F : Pth → α) (p : Pth) : setF F p (F p) = F := by
  funext q; unfold setF; by_cases h : q = p
  · rw [if_pos h, h]
  · rw [if_neg h]
section
variable {w w' : World} {B N f : Nat} {c : Cn} {T : Tr} {A : Pth → Nat} {M : Pth → Option Nat} {V : Pth → Value}
theorem TreeAt.rootBlk {ty : TypeId} {tl : List Value} (h : TreeAt w B N f ty tl T A M V) {r0 : Nd} (h0 : T [] = some r0) : w.heap[f]? = some (.cells (ndC r0 (V []) (M []) ++ tl).toArray ty (0, 0)) := by
  have := h.blk [] r0 h0
  rw [h.a0] at this
  exact this
theorem stamped {p : Pth} {n r0 : Nd} (hT : TreeAt w B N f 71 c.tl T A M V) (h0 : T [] = some r0) (hp : T p = some n) (hne : p ≠ []) (t : Int) :
    TreeAt ((w.setCell ⟨f, 8, none⟩ (.int .i64 t)).setCell ⟨A p, 2, none⟩ (.int .i64 t)) B N f 71 ({ c with clock := t } : Cn).tl (setF T p (some { n with time := t })) A M V ∧ Only (fun j => j = f ∨ j = A p) w ((w.setCell ⟨f, 8, none⟩ (.int .i64 t)).setCell ⟨A p, 2, none⟩ (.int .i64 t)) := by
  have h1 : TreeAt (w.setCell ⟨f, 8, none⟩ (.int .i64 t)) B N f 71 ({ c with clock := t } : Cn).tl T A M V :=
    hT.setTl h0 _ ((Only.refl (fun k => k = f) w).set (.inl rfl) 8 _) (set_of (hT.rootBlk h0) 8 _) (by decide)
  have h2 := h1.setNode (by decide) hp (n' := { n with time := t }) rfl (V p) ((Only.refl (fun j => j = A p) _).set (.inl rfl) 2 (.int .i64 t)) (fun k e => .inl e) (set_of (h1.blk p n hp) 2 _) (row_only (h1.data p n hp) fun g hg _ => Below.heap_setCell _ _ _ _ (fun e => h1.neAV (by decide) (by rw [hp]; rfl) (by rw [hp]; rfl) hg e.symm)) (fun b e => .inl e)
  rw [setF_id] at h2
  exact ⟨h2, ((Only.refl (fun j => j = f ∨ j = A p) w).set (.inl (.inl rfl)) 8 _).set (.inl (.inr rfl)) 2 _⟩
set_option maxRecDepth 100000 in
set_option maxHeartbeats 1000000 in
theorem stamp_any {p : Pth} {n r0 : Nd} (hT : TreeAt w B N f 71 c.tl T A M V) (h0 : T [] = some r0) (hp : T p = some n) (hne : p ≠ []) (hc : 0 ≤ c.clock ∧ c.clock ≤ 1000000000000) :
    Calls Tryz.prog 36 #[.pointer (some ⟨f, 0, none⟩), .pointer (some ⟨A p, 0, none⟩)] w fun e w' => e = .returned (.tuple #[]) ∧
      TreeAt w' B N f 71 ({ c with clock := c.clock + 1 } : Cn).tl (setF T p (some { n with time := c.clock + 1 })) A M V ∧ Only (fun j => j = f ∨ j = A p) w w' := by
  have HS := Lib.hid (stamped hT h0 hp hne (c.clock + 1))
  have hb := hT.rootBlk h0
  have q8 : w.cell? ⟨f, 8, none⟩ = some (.int .i64 c.clock) := cell_of hb 8
  have f8 := free_of hb 8
  have q2 : w.cell? ⟨A p, 2, none⟩ = some (.int .i64 n.time) := cell_of (hT.blk p n hp) 2
  have f2 := free_of (hT.blk p n hp) 2
  have hfa : A p ≠ f := fun e => hne (hT.injA p [] (by rw [hp]; rfl) (by rw [h0]; rfl) (e.trans hT.a0.symm))
  have hfa' : f ≠ A p := fun e => hfa e.symm
  have hw : IntKind.i64.wrap (c.clock + 1) = c.clock + 1 := IntWalk.i64_in _ (by omega)
  clear hT hb
  go_enter Tryz.func36, Tryz.ntmps36
  go_wp2_with fail
  go_end0
  exact ⟨rfl, HS.out⟩
theorem counted {r0 : Nd} (hT : TreeAt w B N f 71 c.tl T A M V) (h0 : T [] = some r0) (t : Int) :
    TreeAt (w.setCell ⟨f, 6, none⟩ (.int .i64 t)) B N f 71 ({ c with count := t } : Cn).tl T A M V ∧ Only (fun j => j = f) w (w.setCell ⟨f, 6, none⟩ (.int .i64 t)) :=
  ⟨hT.setTl h0 _ ((Only.refl (fun k => k = f) w).set (.inl rfl) 6 _) (set_of (hT.rootBlk h0) 6 _) (by decide), (Only.refl (fun k => k = f) w).set (.inl rfl) 6 _⟩
theorem sized {r0 : Nd} (hT : TreeAt w B N f 71 c.tl T A M V) (h0 : T [] = some r0) (t : Int) :
    TreeAt (w.setCell ⟨f, 7, none⟩ (.int .i64 t)) B N f 71 ({ c with size := t } : Cn).tl T A M V ∧ Only (fun j => j = f) w (w.setCell ⟨f, 7, none⟩ (.int .i64 t)) :=
  ⟨hT.setTl h0 _ ((Only.refl (fun k => k = f) w).set (.inl rfl) 7 _) (set_of (hT.rootBlk h0) 7 _) (by decide), (Only.refl (fun k => k = f) w).set (.inl rfl) 7 _⟩
theorem clocked {r0 : Nd} (hT : TreeAt w B N f 71 c.tl T A M V) (h0 : T [] = some r0) (t : Int) :
    TreeAt (w.setCell ⟨f, 8, none⟩ (.int .i64 t)) B N f 71 ({ c with clock := t } : Cn).tl T A M V ∧ Only (fun j => j = f) w (w.setCell ⟨f, 8, none⟩ (.int .i64 t)) :=
  ⟨hT.setTl h0 _ ((Only.refl (fun k => k = f) w).set (.inl rfl) 8 _) (set_of (hT.rootBlk h0) 8 _) (by decide), (Only.refl (fun k => k = f) w).set (.inl rfl) 8 _⟩
theorem graft_put {tl : List Value} {kb N2 : Nat} {T2 : Tr} {A2 : Pth → Nat} {M2 : Pth → Option Nat} {V2 : Pth → Value} {d : Pth} {s : ByteArray} {dn : Nd} {e : Ending} (h : TreeAt w B N f 71 tl T A M V) (h2 : TreeAt w B N2 kb 69 [] T2 A2 M2 V2) (hN2 : N2 ≤ N + 1)
    (hd : T d = some dn) (hdf : dn.file = false) (hdis : ∀ j, foot T A M V j → ¬ foot T2 A2 M2 V2 j) (hB : B ≤ w.heap.size)
    (hp : PutP (A d) kb N (ndC dn (V d) (M d) ++ tlOf tl d) (tyOf 71 d) (M d) (kidsOf T A d) s w e w') :
    ∃ m', TreeAt w' B (N + 1) f 71 tl (graftF T (d ++ [s.data.toList]) T2) (graftF A (d ++ [s.data.toList]) A2) (graftF (setF M d m') (d ++ [s.data.toList]) M2) (graftF V (d ++ [s.data.toList]) V2) ∧
      Only (fun j => j = A d ∨ M d = some j) w w' ∧ (m' = M d ∨ m' = some w.heap.size) := by
  obtain ⟨_, m', h3, h4, h5, h6⟩ := hp
  refine ⟨m', h.graft h2 hN2 (by decide) hd hdf hdis h5 (fun j e => e) m' h3 h4 ?_ ?_, h5, ?_⟩
  · rcases h6 with ⟨e, _⟩ | ⟨_, e⟩
    · exact .inl e
    · exact .inr fun b hb => by rw [e] at hb; cases hb; exact Nat.le_refl _
  · intro b hb
    rcases h6 with ⟨e, _⟩ | ⟨_, e⟩
    · exact (h.base d dn hd).2 b (e ▸ hb)
    · rw [e] at hb; cases hb; exact hB
  · rcases h6 with ⟨e, _⟩ | ⟨_, e⟩
    · exact .inl e
    · exact .inr e
def AddP (w : World) (B N f : Nat) (c : Cn) (T : Tr) (A : Pth → Nat) (M : Pth → Option Nat) (V : Pth → Value) (T2 : Tr) (A2 : Pth → Nat) (M2 : Pth → Option Nat) (V2 : Pth → Value) (d : Pth) (k : Bz) (e : Ending) (w' : World) : Prop :=
  e = .returned (.tuple #[]) ∧ ∃ m', TreeAt w' B (N + 1) f 71 ({ c with count := c.count + 1 } : Cn).tl (graftF T (d ++ [k]) T2) (graftF A (d ++ [k]) A2) (graftF (setF M d m') (d ++ [k]) M2) (graftF V (d ++ [k]) V2) ∧
    Only (fun j => j = A d ∨ M d = some j ∨ j = f) w w' ∧ (m' = M d ∨ ∃ b, m' = some b ∧ w.heap.size ≤ b)
set_option maxRecDepth 100000 in
set_option maxHeartbeats 1000000 in
theorem add_any {kb N2 : Nat} {T2 : Tr} {A2 : Pth → Nat} {M2 : Pth → Option Nat} {V2 : Pth → Value} {d : Pth} {k : Bz} {dn r0 : Nd} (h : TreeAt w B N f 71 c.tl T A M V) (h2 : TreeAt w B N2 kb 69 [] T2 A2 M2 V2) (hN2 : N2 ≤ N + 1) (h0 : T [] = some r0)
    (hd : T d = some dn) (hdf : dn.file = false) (hdis : ∀ j, foot T A M V j → ¬ foot T2 A2 M2 V2 j) (hB : B ≤ w.heap.size) (hk : k.length ≤ maxLen) (hN : N < maxLen) (hc : 0 ≤ c.count ∧ c.count ≤ 1000000000000) (nv sv : Value) (o3 : Option Addr) (hnv : nv = .pointer o3) (a4 : Option Addr) (l4 c4 : Nat) (hsv : sv = .slice a4 l4 c4) :
    Calls Tryz.prog 35 #[.pointer (some ⟨f, 0, none⟩), spotV (.pointer (some ⟨A d, 0, none⟩)) ⟨k.toArray⟩ nv sv, .pointer (some ⟨kb, 0, none⟩)] w (AddP w B N f c T A M V T2 A2 M2 V2 d k) := by
  subst hnv; subst hsv
  obtain ⟨w0, hw0⟩ : ∃ w0, w.alloc (.cells #[.pointer (some ⟨A d, 0, none⟩), .string ⟨k.toArray⟩, .pointer o3, .slice a4 l4 c4] 74) = w0 := ⟨_, rfl⟩
  have hbel : Below w.heap.size w w0 := by rw [← hw0]; exact (Below.refl _ _).alloc (Nat.le_refl _) _
  have hsz : w0.heap.size = w.heap.size + 1 := by rw [← hw0]; simp
  have hT0 := h.only (X := fun _ => False) (Only.of_below hbel) (fun _ h => h.elim)
  have h20 := h2.only (X := fun _ => False) (Only.of_below hbel) (fun _ h => h.elim)
  have HP := Lib.hid (put_any (A d) kb N (ndC dn (V d) (M d) ++ tlOf c.tl d) (tyOf 71 d) (M d) (kidsOf T A d) ⟨k.toArray⟩ w0 (hT0.blk d dn hd) rfl (hT0.kids d dn hd) (by simpa [ByteArray.size] using hk) hN)
  obtain ⟨Q, hQ⟩ : ∃ Q, AddP w B N f c T A M V T2 A2 M2 V2 d k = Q := ⟨_, rfl⟩
  rw [hQ]
  have HQ := Lib.hid hQ
  have HT0 := Lib.hid hT0
  have H20 := Lib.hid h20
  have HDIS := Lib.hid hdis
  have HBEL := Lib.hid hbel
  have H0 : Hid (graftF T (d ++ [k]) T2 [] = some r0) := by
    rw [Hid, graftF_out _ _ _ (fun e => by have := e.length_le; simp at this)]
    exact h0
  have hw : IntKind.i64.wrap (c.count + 1) = c.count + 1 := IntWalk.i64_in _ (by omega)
  have HW := Lib.hid hw0
  have HD := Lib.hid hd
  have hBz : B ≤ w0.heap.size := by omega
  clear h h2 h0 hdis hQ hT0 h20 hbel hw0 hd
  simp only [spotV]
  go_enter Tryz.func35, Tryz.ntmps35
  go_wp2_with (go_at_call 78; rw [HW.out]; refine HP.out.mono ?_; rintro e w2 hput; obtain ⟨m', g1, g2, g3⟩ := graft_put HT0.out H20.out hN2 HD.out hdf HDIS.out hBz hput; obtain ⟨rfl, _⟩ := hput; have G1 := Lib.hid g1; have G2 := Lib.hid g2; have G3 := Lib.hid g3; have q6 : w2.cell? ⟨f, 6, none⟩ = some (.int .i64 c.count) := cell_of (g1.rootBlk H0.out) 6; have f6 := free_of (g1.rootBlk H0.out) 6; clear g1 g2 g3; simp only [])
  go_end0
  rw [← HQ.out]
  have hc1 := counted G1.out H0.out (c.count + 1)
  refine ⟨rfl, m', hc1.1, ?_, ?_⟩
  · refine ((Only.of_below (S := fun j => j = A d ∨ M d = some j ∨ j = f) HBEL.out).trans (G2.out.trans (T := fun j => j = A d ∨ M d = some j ∨ j = f) hc1.2 (fun j e => ?_) (fun j _ e => .inr (.inr e))) (fun _ h => h) (fun _ _ h => h))
    rcases e with e | e
    · exact .inl e
    · exact .inr (.inl e)
  · rcases G3.out with e | e
    · exact .inl e
    · exact .inr ⟨_, e, by omega⟩
end
end Go.Proofs.YtcmjpkfinbakkaaGreatDoor.Vf

namespace Go.Proofs.YtcmjpkfinbakkaaGreatDoor.Vf
set_option maxRecDepth 100000
open Go.RowKit Go.Maps Go.ChangeMaps
set_option linter.unusedVariables false
def leafT (n : Nd) (q : Pth) : Option Nd := if q = [] then some n else none
theorem TreeAt.leaf' {w : World} {B N : Nat} {n : Nd} {c : Nat} {v : Value} {ty : TypeId} {tl : List Value} (hb : w.heap[c]? = some (.cells (ndC n v none ++ tl).toArray ty (0, 0))) (hd : w.ownsRow B 5 1 v n.data.length (u8s n.data)) (hB : B ≤ c) :
    TreeAt w B N c ty tl (leafT n) (fun _ => c) (fun _ => none) (fun _ => v) := by
  have e0 : ∀ {p : Pth} {m : Nd}, leafT n p = some m → p = [] ∧ m = n := fun {p m} h => by
    unfold leafT at h
    by_cases e : p = []
    · rw [if_pos e] at h; cases h; exact ⟨e, rfl⟩
    · rw [if_neg e] at h; cases h
  have e1 : ∀ {p : Pth}, (leafT n p).isSome = true → p = [] := fun {p} h => by
    unfold leafT at h
    by_cases e : p = []
    · exact e
    · rw [if_neg e] at h; cases h
  refine ⟨rfl, ⟨n, if_pos rfl⟩, fun p k h => absurd (e1 h) (by simp), fun p m h => ?_, fun p m h => ?_, fun p m h => ⟨fun _ k => ?_, fun b e => (nomatch e)⟩, fun p m h => ⟨hB, fun b e => (nomatch e)⟩, fun p q hp hq _ => ?_, fun p q b hp hq e => (nomatch e), fun p q b hp hq _ _ => ?_⟩
  · obtain ⟨rfl, rfl⟩ := e0 h; exact hb
  · obtain ⟨rfl, rfl⟩ := e0 h; exact hd
  · unfold kidsOf leafT; rw [if_neg (by simp)]
  · rw [e1 hp, e1 hq]
  · rw [e1 hp, e1 hq]
theorem leaf_foot {n : Nd} {c : Nat} {v : Value} {j : Nat} (h : foot (leafT n) (fun _ => c) (fun _ => none) (fun _ => v) j) : j = c ∨ v.ownBlock = some j := by
  obtain ⟨p, m, _, e | e | e⟩ := h
  · exact .inl e.symm
  · cases e
  · exact .inr e
/-- A file system lies at block f, within the blocks F. -/
def Fs (w : World) (B N f : Nat) (c : Cn) (T : Tr) (F : Nat → Prop) : Prop :=
  ∃ A M V, TreeAt w B N f 71 c.tl T A M V ∧ (∀ j, foot T A M V j → F j) ∧ ∃ r0, T [] = some r0 ∧ r0.file = false
def newT : Tr := leafT ⟨false, [], 0⟩
set_option maxRecDepth 100000 in
set_option maxHeartbeats 1000000 in
theorem New_any (n m : Int) (w : World) {B N : Nat} (hB : B ≤ w.heap.size) :
    Calls Tryz.prog 14 #[.int .i64 n, .int .i64 m] w fun e w' => ∃ f, e = .returned (.pointer (some ⟨f, 0, none⟩)) ∧ Fs w' B N f ⟨min (max n 0) 10000, min (max m 0) 1048576, 0, 0, 0⟩ newT (fun j => w.heap.size ≤ j) ∧ Below w.heap.size w w' := by
  go_enter Tryz.func14, Tryz.ntmps14
  go_wp2_with fail
  go_ret
  refine ⟨w.heap.size, rfl, ⟨fun _ => w.heap.size, fun _ => none, fun _ => .slice none 0 0, TreeAt.leaf' (n := ⟨false, [], 0⟩) (v := .slice none 0 0) (heap_alloc_new w _) ⟨rfl, .inl ⟨rfl, rfl⟩⟩ hB, fun j hj => ?_, ⟨_, rfl, rfl⟩⟩, (Below.refl _ _).alloc (Nat.le_refl _) _⟩
  rcases leaf_foot hj with e | e
  · omega
  · cases e
section
variable {f : Nat} {p : ByteArray} {w : World} {B N : Nat} {tl : List Value} {T : Tr} {A : Pth → Nat} {M : Pth → Option Nat} {V : Pth → Value} {r0 : Nd}
/-- What the length of a path's names is. -/
structure PathOk (p : ByteArray) : Prop where
  sz : p.size ≤ 30000
  len : (abs_ root1 p).1.length ≤ 40000
  few : (findL p).length ≤ 1000000
  each : ∀ x ∈ findL p, x.length ≤ maxLen
theorem find_bad (hT : TreeAt w B N f 71 tl T A M V) (h0 : T [] = some r0) (hr0 : r0.file = false) (hp : PathOk p) (hE : findE T p ≠ 0) :
    Calls Tryz.prog 33 #[.pointer (some ⟨f, 0, none⟩), .string p] w fun e w' => e = .returned (.tuple #[spot0, .int .i64 (findE T p)]) ∧ Below w.heap.size w w' := by
  refine (find_any f p w hT h0 hr0 hp.sz hp.len ⟨hp.few, hp.each⟩).mono ?_
  rintro e w' ⟨h1, ⟨_, h2⟩ | ⟨h2, _⟩ | ⟨h2, _⟩⟩
  · exact ⟨h2, h1⟩
  · exact absurd h2 hE
  · exact absurd h2 hE
theorem find_root (hT : TreeAt w B N f 71 tl T A M V) (h0 : T [] = some r0) (hr0 : r0.file = false) (hp : PathOk p) (hE : findE T p = 0) (hL : findL p = []) :
    Calls Tryz.prog 33 #[.pointer (some ⟨f, 0, none⟩), .string p] w fun e w' => e = .returned (.tuple #[spotV (.pointer none) ⟨#[]⟩ (.pointer (some ⟨f, 0, none⟩)) (.slice none 0 0), .int .i64 0]) ∧ Below w.heap.size w w' := by
  refine (find_any f p w hT h0 hr0 hp.sz hp.len ⟨hp.few, hp.each⟩).mono ?_
  rintro e w' ⟨h1, ⟨h2, _⟩ | ⟨_, _, h2⟩ | ⟨_, d, k, dn, nv, h2, _⟩⟩
  · exact absurd hE h2
  · exact ⟨h2, h1⟩
  · rw [hL] at h2; simp at h2
theorem find_good {d : Pth} {k : Bz} (hT : TreeAt w B N f 71 tl T A M V) (h0 : T [] = some r0) (hr0 : r0.file = false) (hp : PathOk p) (hE : findE T p = 0) (hL : findL p = d ++ [k]) :
    Calls Tryz.prog 33 #[.pointer (some ⟨f, 0, none⟩), .string p] w fun e w' => ∃ dn g c, T d = some dn ∧ dn.file = false ∧ e = .returned (.tuple #[spotV (.pointer (some ⟨A d, 0, none⟩)) ⟨k.toArray⟩ (ptrV (kidsOf T A d k)) (.slice (some ⟨g, 0, none⟩) (d ++ [k]).length c), .int .i64 0]) ∧
      w'.ownsRow w.heap.size 9 1 (.slice (some ⟨g, 0, none⟩) (d ++ [k]).length c) (d ++ [k]).length ((d ++ [k]).map encStr) ∧ Below w.heap.size w w' := by
  refine (find_any f p w hT h0 hr0 hp.sz hp.len ⟨hp.few, hp.each⟩).mono ?_
  rintro e w' ⟨h1, ⟨h2, _⟩ | ⟨_, h2, _⟩ | ⟨_, d', k', dn, nv, h2, h3, h4, h5, h6⟩⟩
  · exact absurd hE h2
  · rw [hL] at h2; simp at h2
  · obtain ⟨e1, e2⟩ := List.append_inj' (hL.symm.trans h2) rfl
    have e2 : k = k' := by simpa using e2
    subst e1; subst e2
    obtain ⟨g, c, rfl, _⟩ := h5.form (by simp)
    exact ⟨dn, g, c, h3, h4, h6, h5, h1⟩
end
end Go.Proofs.YtcmjpkfinbakkaaGreatDoor.Vf
