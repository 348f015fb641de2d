import Derived.Test.YtjagnihkpgbjeaaDoorVE
import Derived.Test.YtjagnihkpgbjeaaDoorB
namespace Go.Proofs.YtjagnihkpgbjeaaDoor
open Go.RowKit Go.Maps Go.ChangeMaps
set_option linter.unusedVariables false
/-- Where the way to a place ends: 0, or 6 (there is no node), or 11 (a file is on the way). -/
def wayE (T : Tr) : Pth → Pth → Nat
  | _, [] => 0
  | _, [_] => 0
  | pre, k :: l :: r => match T (pre ++ [k]) with
    | none => 6
    | some n => if n.file = true then 11 else wayE T (pre ++ [k]) (l :: r)
def spotV (d : Value) (nm : ByteArray) (n : Value) (ns : Value) : Value := .agg #[d, .string nm, n, ns]
def spot0 : Value := spotV (.pointer none) ⟨#[]⟩ (.pointer none) (.slice none 0 0)
theorem below_drewN {a w : World} (h : Below a.heap.size a w) (n : Nat) : Below a.heap.size a (w.drewN n) := ⟨h.os, h.tape, h.output, h.size, h.block⟩
set_option maxRecDepth 100000 in
set_option maxHeartbeats 2000000 in
theorem walk_root (f : Nat) (Ad : Option Addr) (c : Nat) (w : World) :
    Calls Tryd.prog 65 #[.pointer (some ⟨f, 0, none⟩), .slice Ad 0 c] w fun e w' => e = .returned (.tuple #[spotV (.pointer none) ⟨#[]⟩ (.pointer (some ⟨f, 0, none⟩)) (.slice none 0 0), .int .i64 0]) ∧ Below w.heap.size w w' := by
  go_enter Tryd.func65, Tryd.ntmps65
  go_wp2_with fail
  refine wp_scope_straight ?_
  go_wp2_with fail
  simp +zetaDelta only [Exit.noGoto_ret]
  refine bodyPost_ret (v := .tuple #[spotV (.pointer none) ⟨#[]⟩ (.pointer (some ⟨f, 0, none⟩)) (.slice none 0 0), .int .i64 0]) ?_ rfl ?_
  · simp [results, Tryd.results65, go_sem]
    rfl
  · exact ⟨rfl, (Below.refl _ _).alloc (Nat.le_refl _) _⟩
theorem below4 {w W : World} (h : Below w.heap.size w W) (v0 v1 v2 v3 : Value) : Below w.heap.size w ((((W.setCell ⟨w.heap.size, 0, none⟩ v0).setCell ⟨w.heap.size, 1, none⟩ v1).setCell ⟨w.heap.size, 2, none⟩ v2).setCell ⟨w.heap.size, 3, none⟩ v3) :=
  (((h.setCell (p := ⟨w.heap.size, 0, none⟩) (Nat.le_refl _) v0).setCell (p := ⟨w.heap.size, 1, none⟩) (Nat.le_refl _) v1).setCell (p := ⟨w.heap.size, 2, none⟩) (Nat.le_refl _) v2).setCell (p := ⟨w.heap.size, 3, none⟩) (Nat.le_refl _) v3
/-- What the walk's end says: the place's spot. -/
def WalkP (T : Tr) (A : Pth → Nat) (M : Pth → Option Nat) (L : Pth) (nv : Value) (w : World) (e : Ending) (w' : World) : Prop :=
  Below w.heap.size w w' ∧ ((wayE T [] L ≠ 0 ∧ e = .returned (.tuple #[spot0, .int .i64 (wayE T [] L)])) ∨
    (wayE T [] L = 0 ∧ ∃ d k dn, L = d ++ [k] ∧ T d = some dn ∧ dn.file = false ∧ e = .returned (.tuple #[spotV (.pointer (some ⟨A d, 0, none⟩)) ⟨k.toArray⟩ (ptrV (kidsOf T A d k)) nv, .int .i64 0])))
theorem wayE_step {T : Tr} {L : Pth} {i : Nat} (hi : i + 1 < L.length) (pre : Pth) : wayE T pre (L.drop i) = match T (pre ++ [L[i]]) with
    | none => 6
    | some n => if n.file = true then 11 else wayE T (pre ++ [L[i]]) (L.drop (i + 1)) := by
  rw [List.drop_eq_getElem_cons (by omega), List.drop_eq_getElem_cons (l := L) (i := i + 1) (by omega)]
  rfl
theorem wayE_last {T : Tr} {L : Pth} {i : Nat} (hi : i + 1 = L.length) (pre : Pth) : wayE T pre (L.drop i) = 0 := by
  rw [List.drop_eq_getElem_cons (by omega), List.drop_eq_nil_of_le (by omega)]
  rfl
set_option maxRecDepth 100000 in
set_option maxHeartbeats 4000000 in
theorem walk_any (f g c base n0 : Nat) (L : Pth) (w : World) {B N : Nat} {tl : List Value} {T : Tr} {A : Pth → Nat} {M : Pth → Option Nat} {V : Pth → Value} (hT : TreeAt w B N f 71 tl T A M V) {r0 : Nd} (h0 : T [] = some r0) (hr0 : r0.file = false)
    (hL : 0 < L.length) (hL2 : L.length ≤ 1000000) (hc : L.length ≤ c) (hS : ∀ i (h : i < L.length), w.cell? ⟨g, i, none⟩ = some (.string ⟨L[i].toArray⟩)) (hs : ∀ x ∈ L, x.length ≤ maxLen) :
    Calls Tryd.prog 65 #[.pointer (some ⟨f, 0, none⟩), .slice (some ⟨g, 0, none⟩) L.length c] w (WalkP T A M L (.slice (some ⟨g, 0, none⟩) L.length c) w) := by
  have hsl := slice_last g L.length c hL hc
  have HT := Lib.hid hT
  have HS := Lib.hid hS
  have Hs := Lib.hid hs
  have hq := hS (L.length - 1) (by omega)
  obtain ⟨n1, hn1⟩ : ∃ n1, n1 + 1 = L.length := ⟨L.length - 1, by omega⟩
  obtain ⟨ln, hln⟩ : ∃ ln, L.length = ln := ⟨_, rfl⟩
  have HLN := Lib.hid hln
  have H0 := Lib.hid h0
  have hd0 : ((ln : Int) == 0) = false := by simp; omega
  have hwr : IntKind.i64.wrap ((ln : Int) - 1) = (n1 : Int) := by rw [show (ln : Int) - 1 = (n1 : Int) by omega]; exact IntWalk.i64_in _ (by omega)
  obtain ⟨lst, hlst⟩ : ∃ lst : Bz, L[n1]'(by omega) = lst := ⟨_, rfl⟩
  have hq2 : w.cell? ⟨g, n1, none⟩ = some (.string ⟨lst.toArray⟩) := by rw [← hlst]; exact hS n1 (by omega)
  have HLST := Lib.hid hlst
  rw [hln] at hsl hn1 ⊢
  have hsl2 : ∀ w, (Instr.slice 29 (.slice (some ⟨g, 0, none⟩) ln c) none (some (.int .i64 (n1 : Int))) none).run Tryd.prog w = .ok (.slice (some ⟨g, 0, none⟩) n1 c) w := by
    intro w
    have := hsl w
    rw [show ((ln : Int) - 1) = (n1 : Int) by omega, show ln - 1 = n1 by omega] at this
    exact this
  have hg : g < w.heap.size := by
    by_cases h : g < w.heap.size
    · exact h
    · have := hq2
      simp only [World.cell?, Array.getElem?_eq_none (Nat.le_of_not_lt h)] at this
      cases this
  have hn1c : (n1 : Int) < (ln : Int) := by omega
  have hn10 : (0 : Int) ≤ (n1 : Int) := by omega
  clear hsl hq hT hS hs hlst h0
  go_enter Tryd.func65, Tryd.ntmps65
  go_wp2_with fail
  refine wp_scope_straight ?_
  go_wp2_with fail
  have hq3 : (w.alloc (.cells #[.pointer none, .string ⟨#[]⟩, .pointer none, .slice none 0 0] 74)).cell? ⟨g, n1, none⟩ = some (.string ⟨lst.toArray⟩) := by
    rw [World.cell?_alloc_old _ _ _ (Nat.ne_of_lt hg)]; exact hq2
  go_quiet (fail)
  obtain ⟨W, hW⟩ : ∃ W, (w.alloc (.cells #[.pointer none, .string ⟨#[]⟩, .pointer none, .slice none 0 0] 74)).drewN nq = W := ⟨_, rfl⟩
  rw [hW]
  have hbel : Below w.heap.size w W := by
    rw [← hW]
    exact below_drewN ((Below.refl _ _).alloc (Nat.le_refl _) _) _
  have hbox : W.heap[w.heap.size]? = some (.cells [.pointer none, .string ⟨#[]⟩, .pointer none, .slice none 0 0].toArray 74 (0, 0)) := by
    rw [← hW]
    exact heap_alloc_new w _
  have HTW := Lib.hid (HT.out.only (X := fun _ => False) (Only.of_below hbel) (fun _ h => h.elim))
  have hSW : ∀ i (h : i < L.length), W.cell? ⟨g, i, none⟩ = some (.string ⟨L[i].toArray⟩) := fun i h => (hbel.cell (p := ⟨g, i, none⟩) hg).trans (HS.out i h)
  have HSW := Lib.hid hSW
  have q0 := cell_of hbox 0
  have q1 := cell_of hbox 1
  have q2 := cell_of hbox 2
  have q3 := cell_of hbox 3
  have r0' := free_of hbox 0
  have r1' := free_of hbox 1
  have r2' := free_of hbox 2
  have r3' := free_of hbox 3
  simp only [List.getElem?_cons_zero, List.getElem?_cons_succ] at q0 q1 q2 q3
  have HBOX := Lib.hid hbox
  have HBEL := Lib.hid hbel
  have hwW : w.heap.size < W.heap.size := blk_lt hbox
  have key : ∀ p n (x : Bz), x.length ≤ maxLen → T p = some n → W.cell? ⟨A p, 3, none⟩ = some (.map (M p)) ∧ W.cell? ⟨A p, 0, none⟩ = some (.bool n.file) ∧ (Instr.lookup 67 (.map (M p)) (.string ⟨x.toArray⟩) false).run Tryd.prog W = .ok (ptrV (kidsOf T A p x)) W := fun p n x hx hp => by
    have hb := HTW.out.blk p n hp
    refine ⟨(cell_of hb 3).trans rfl, (cell_of hb 0).trans rfl, ?_⟩
    have := (HTW.out.kids p n hp).look ⟨x.toArray⟩ (by simpa [ByteArray.size] using hx)
    simpa using this
  have KEY := Lib.hid key
  obtain ⟨E, hE⟩ : ∃ E, wayE T [] L = E := ⟨_, rfl⟩
  have HE := Lib.hid hE
  have HA0 := Lib.hid HT.out.a0
  have HQ : Hid (WalkP T A M L (.slice (some ⟨g, 0, none⟩) ln c) w = WalkP T A M L (.slice (some ⟨g, 0, none⟩) ln c) w) := rfl
  clear hW hbel hbox hSW key hE hq2 hq3
  go_wp2_with fail
  refine wp_label ?_
  go_wp2_with fail
  go_loopw [6, 7, 36] (fun at' er i wx => ∃ (k : Nat) (dn : Nd), k ≤ n1 ∧ i = .int .i64 k ∧ er = .int .i64 0 ∧ at' = .pointer (some ⟨A (L.take k), 0, none⟩) ∧ wx = W ∧ Hid (wayE T (L.take k) (L.drop k) = E ∧ T (L.take k) = some dn ∧ dn.file = false)) (fun _ _ i _ => n1 - (intOf i).toNat)
  case atStart => exact ⟨0, r0, Nat.zero_le _, rfl, rfl, by rw [List.take_zero, HA0.out], rfl, HE.out, H0.out, hr0⟩
  case round =>
    obtain ⟨k, dn, hk, rfl, rfl, rfl, rfl, HR⟩ := hrel
    have hkI : (0 : Int) ≤ (k : Int) := by omega
    by_cases hlt : k < n1
    · have hltI : (k : Int) < (n1 : Int) := by omega
      have hltd : decide ((k : Int) < (n1 : Int)) = true := decide_eq_true hltI
      have hkl : k + 1 < L.length := by have := HLN.out; omega
      have b1 : IntKind.i64.wrap ((k : Int) + 1) = (k : Int) + 1 := IntWalk.i64_in _ (by omega)
      obtain ⟨x, hx⟩ : ∃ x, L[k] = x := ⟨_, rfl⟩
      have hxs : x.length ≤ maxLen := Hs.out x (by rw [← hx]; exact List.getElem_mem _)
      have hcx := HSW.out k (by omega)
      rw [hx] at hcx
      obtain ⟨hm, _, hlk⟩ := KEY.out _ dn x hxs HR.out.2.1
      have hst := wayE_step (T := T) hkl (L.take k)
      rw [hx, HR.out.1] at hst
      have htk : L.take k ++ [x] = L.take (k + 1) := by rw [← hx]; exact List.take_append_getElem (by omega)
      rw [htk] at hst
      have adk := addK g k
      have hpre : 0 < k ∨ k = 0 := by omega
      cases hTx : T (L.take (k + 1)) with
      | none =>
        rw [hTx] at hst
        have hkv : kidsOf T A (L.take k) x = none := by unfold kidsOf; rw [htk, hTx]; rfl
        rw [hkv] at hlk
        simp only [ptrV] at hlk
        have HST := Lib.hid hst
        clear hst hTx hkv htk hx hpre
        go_wp2_with fail
        try simp +zetaDelta only [Exit.noGoto_ret]
        refine bodyPost_ret (v := .tuple #[spot0, .int .i64 6]) ?_ rfl ?_
        · simp [results, Tryd.results65, go_sem, q0, q1, q2, q3]
          rfl
        · refine ⟨?_, .inl ?_⟩
          · exact below4 HBEL.out _ _ _ _
          · have e6 : wayE T [] L = 6 := HE.out.trans HST.out
            rw [e6]; exact ⟨by decide, rfl⟩
      | some n =>
        rw [hTx] at hst
        dsimp only at hst
        have hkv : kidsOf T A (L.take k) x = some (A (L.take (k + 1))) := by unfold kidsOf; rw [htk, hTx]; rfl
        rw [hkv] at hlk
        simp only [ptrV] at hlk
        obtain ⟨hm2, hf2, _⟩ := KEY.out _ n x hxs hTx
        cases hnf : n.file with
        | true =>
          rw [hnf] at hf2
          rw [hnf, if_pos rfl] at hst
          have HST := Lib.hid hst
          clear hst hTx hkv htk hx hpre hm2
          go_wp2_with fail
          try simp +zetaDelta only [Exit.noGoto_ret]
          refine bodyPost_ret (v := .tuple #[spot0, .int .i64 11]) ?_ rfl ?_
          · simp [results, Tryd.results65, go_sem, q0, q1, q2, q3]
            rfl
          · refine ⟨?_, .inl ?_⟩
            · exact below4 HBEL.out _ _ _ _
            · have e6 : wayE T [] L = 11 := HE.out.trans HST.out
              rw [e6]; exact ⟨by decide, rfl⟩
        | false =>
          rw [hnf] at hf2
          rw [hnf, if_neg (by simp)] at hst
          have HST := Lib.hid hst
          have HTX := Lib.hid hTx
          have HNF := Lib.hid hnf
          clear hst hTx hkv htk hx hpre hm2 hnf
          go_wp2_with fail
          go_roundw
          case measure => simp [intOf]; omega
          case rel =>
           exact ⟨k + 1, n, by omega, by go_num, rfl, rfl, trivial, HST.out.symm, HTX.out, HNF.out⟩
    · obtain rfl : k = n1 := by omega
      have hltd : decide ((k : Int) < (k : Int)) = false := decide_eq_false (by omega)
      obtain ⟨hm, _, hlk⟩ := KEY.out _ dn lst (Hs.out lst (by rw [← HLST.out]; exact List.getElem_mem _)) HR.out.2.1
      obtain ⟨kv, hkv⟩ : ∃ kv, ptrV (kidsOf T A (L.take k) lst) = .pointer kv := by cases kidsOf T A (L.take k) lst <;> exact ⟨_, rfl⟩
      rw [hkv] at hlk
      have HKV := Lib.hid hkv
      clear hkv
      go_wp2_with fail
      simp +zetaDelta only [Exit.noGoto_ret]
      refine bodyPost_ret (v := .tuple #[spotV (.pointer (some ⟨A (L.take k), 0, none⟩)) ⟨lst.toArray⟩ (.pointer kv) (.slice (some ⟨g, 0, none⟩) ln c), .int .i64 0]) ?_ rfl ?_
      · simp [results, Tryd.results65, go_sem, q0, q1, q2, q3]
        rfl
      · refine ⟨?_, .inr ⟨?_, L.take k, lst, dn, ?_, HR.out.2.1, HR.out.2.2, ?_⟩⟩
        · exact below4 HBEL.out _ _ _ _
        · rw [HE.out, ← HR.out.1]
          exact wayE_last (by rw [hn1, HLN.out]) _
        · have := List.take_append_getElem (l := L) (i := k) (by omega)
          rw [HLST.out] at this
          rw [this, hn1, ← HLN.out, List.take_length]
        · rw [HKV.out]
end Go.Proofs.YtjagnihkpgbjeaaDoor
