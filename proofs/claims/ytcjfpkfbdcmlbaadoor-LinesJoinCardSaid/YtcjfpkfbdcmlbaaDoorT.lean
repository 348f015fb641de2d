import Derived.Test.YtcjfpkfbdcmlbaaDoorR
namespace Go.Proofs.YtcjfpkfbdcmlbaaDoor
open Go.RowKit
set_option linter.unusedVariables false

def spW (rc : Bool) : Bs := if rc then sepS else [32]
/-- What the first k words are, joined. -/
structure Jn (l : List ByteArray) (rc : Bool) (k : Nat) (S T : ByteArray) : Prop where
  lt : ∀ x ∈ l.take k, Lt x.data.toList
  s : S.data.toList = jn sepS ((l.take k).map (·.data.toList))
  t : T.data.toList = jn (spW rc) ((l.take k).map (·.data.toList))
theorem Jn.next {l : List ByteArray} {rc : Bool} {k : Nat} {S T S' T' : ByteArray} (h : Jn l rc k S T) (hk : k < l.length) (hx : Lt l[k].data.toList)
    (hS : S'.data.toList = if k = 0 then l[k].data.toList else S.data.toList ++ sepS ++ l[k].data.toList) (hT : T'.data.toList = if k = 0 then l[k].data.toList else T.data.toList ++ spW rc ++ l[k].data.toList) : Jn l rc (k + 1) S' T' := by
  have ht : l.take (k + 1) = l.take k ++ [l[k]] := by rw [List.take_add_one, List.getElem?_eq_getElem hk]; rfl
  have he : ((l.take k).map (·.data.toList) = []) ↔ k = 0 := by
    rw [List.map_eq_nil_iff]
    constructor
    · intro e
      have := congrArg List.length e
      rw [List.length_take, List.length_nil] at this
      omega
    · intro e; rw [e]; rfl
  refine ⟨fun x hx2 => ?_, ?_, ?_⟩
  · rw [ht] at hx2
    rcases List.mem_append.1 hx2 with h2 | h2
    · exact h.lt x h2
    · simp at h2; rw [h2]; exact hx
  · rw [ht, List.map_append, List.map_singleton, jn_snoc, hS]
    by_cases h0 : k = 0
    · rw [if_pos h0, if_pos (he.2 h0)]
    · rw [if_neg h0, if_neg (fun e => h0 (he.1 e)), h.s]
  · rw [ht, List.map_append, List.map_singleton, jn_snoc, hT]
    by_cases h0 : k = 0
    · rw [if_pos h0, if_pos (he.2 h0)]
    · rw [if_neg h0, if_neg (fun e => h0 (he.1 e)), h.t]
theorem Jn.all {l : List ByteArray} {rc : Bool} {S T : ByteArray} (h : Jn l rc l.length S T) (h1 : 1 ≤ l.length) (hs : S.size ≤ 10000) (U : ByteArray) (hU : U.data.toList = if rc then 9 :: S.data.toList else S.data.toList) :
    readX U.data.toList = (0, [(rc, T.data.toList)]) := by
  obtain ⟨hlt, h2, h3⟩ := h
  rw [List.take_length] at hlt h2 h3
  cases l with
  | nil => simp at h1
  | cons x r =>
    rw [List.map_cons] at h2 h3
    have hall : ∀ y ∈ x.data.toList :: r.map (·.data.toList), Lt y := by
      intro y hy
      rcases List.mem_cons.1 hy with rfl | hy
      · exact hlt x (by simp)
      · obtain ⟨z, hz, rfl⟩ := List.mem_map.1 hy
        exact hlt z (by simp [hz])
    have hz := join_zero _ _ hall
    rw [← h2] at hz
    have hl : S.data.toList.length ≤ 10000 := by rw [dl]; exact hs
    cases rc with
    | true =>
      rw [hU, if_pos rfl, readX_ok (by rw [List.length_cons]; omega) (by rw [List.mem_cons]; rintro (e | e); exact absurd e (by decide); exact hz e), h2, join_rec _ _ hall, h3]; rfl
    | false =>
      rw [hU, if_neg (by decide), readX_ok (by omega) hz, h2, join_val _ _ hall, h3]; rfl
theorem sepB_data : (⟨#[32, 9, 92, 10, 32, 32]⟩ : ByteArray).data.toList = sepS := rfl
set_option maxRecDepth 100000 in
set_option maxHeartbeats 8000000 in
theorem join_walk (v : Value) (l : List ByteArray) (rc : Bool) (W : World) (hT : Txt W v l) (hl : l.length ≤ maxLen) (hmm : ∃ m, W.cell? ⟨0, 0, none⟩ = some (.int .i64 m)) :
    Calls Tryd.prog 5 #[v, .bool rc] W fun e w' => e = .returned (.bool true) ∧ Below W.heap.size W w' := by
  obtain ⟨m, hm⟩ := hmm
  have hl2 : l.length ≤ 9223372036854775807 := by unfold maxLen at hl; omega
  have hkeep : ∀ w', Below W.heap.size W w' → w'.cell? ⟨0, 0, none⟩ = some (.int .i64 m) := fun w' hb => (hb.cell (p := ⟨0, 0, none⟩) (World.block_lt_of_cell? W _ hm)).trans hm
  have HK := Lib.hid hkeep
  have HA := Lib.hid (alive_any m W hm)
  obtain ⟨a0, c0, rfl, _⟩ := hT.form
  have HT := Lib.hid hT
  clear hm hkeep hT hl
  by_cases h1 : l.length < 1
  · have d1 : decide ((l.length : Int) < 1) = true := decide_eq_true (by omega)
    clear h1
    go_enter Tryd.func5, Tryd.ntmps5
    go_wp2_with (go_at_call 6; refine HA.out.mono ?_; rintro e w5 ⟨rfl, h5⟩; have HB := Lib.hid h5; clear h5; simp only [])
    go_ret
    exact ⟨rfl, HB.out⟩
  have d1 : decide ((l.length : Int) < 1) = false := decide_eq_false (by omega)
  by_cases h2 : 20 < l.length
  · have d2 : decide ((20 : Int) < (l.length : Int)) = true := decide_eq_true (by omega)
    clear h2
    go_enter Tryd.func5, Tryd.ntmps5
    go_wp2_with (go_at_call 6; refine HA.out.mono ?_; rintro e w5 ⟨rfl, h5⟩; have HB := Lib.hid h5; clear h5; simp only [])
    go_ret
    exact ⟨rfl, HB.out⟩
  have d2 : decide ((20 : Int) < (l.length : Int)) = false := decide_eq_false (by omega)
  cases rc
  case false =>
    go_enter Tryd.func5, Tryd.ntmps5
    go_wp2_with (go_at_call 6; refine HA.out.mono ?_; rintro e w5 ⟨rfl, h5⟩; have HB := Lib.hid h5; clear h5; simp only [])
    have HTX := Lib.hid (HT.out.below HB.out)
    go_loopw [6, 7, 8] (fun x y i wx => ∃ (k : Nat) (S T : ByteArray), x = .string S ∧ y = .string T ∧ i = .int .i64 k ∧ k ≤ l.length ∧ wx = w5 ∧ S.size ≤ 66 * k ∧ T.size ≤ 66 * k ∧ Hid (Jn l false k S T)) (fun _ _ i _ => l.length - (intOf i).toNat)
    case atStart => exact ⟨0, _, _, rfl, rfl, rfl, Nat.zero_le _, rfl, Nat.le_refl _, Nat.le_refl _, ⟨(fun x hx => by cases hx), rfl, rfl⟩⟩
    case round =>
      obtain ⟨k, S, T, rfl, rfl, rfl, hk, rfl, hS, hT, HJ⟩ := hrel
      by_cases hlt : k < l.length
      case neg =>
        have HKK : Hid (k = l.length) := (show k = l.length by omega)
        have hltd : decide ((k : Int) < (l.length : Int)) = false := decide_eq_false (by omega)
        obtain ⟨U, hU⟩ : ∃ U : ByteArray, S = U := ⟨_, rfl⟩
        have hUd : U.data.toList = S.data.toList := by rw [← hU]
        have hUs : U.size = S.size := by rw [← hU]
        subst hU
        have HX : Hid (readX S.data.toList = (0, [(false, T.data.toList)])) := by
          have h := HJ.out
          rw [HKK.out] at h
          exact h.all (by omega) (by omega) S (by rw [hUd]; rfl)
        have HRD : Hid (Calls Tryd.prog 7 #[.string S] wr (ReadS wr S.data.toList)) := read_s S m _ (by omega) (HK.out _ HB.out)
        have HN := Lib.hid (fun w => num_any 0 w)
        clear hUd HJ
        go_wp2_with (go_at_call 7; refine HRD.out.mono ?_)
        rintro e w8 ⟨v, L, c, rfl, hL, he, hll⟩
        rw [HX.out] at he
        injection he with hc hml
        subst hc
        have hLL : L = [(⟨false, T⟩ : LB)] := ln_inj hml
        subst hLL
        have HB8 := Lib.hid (HB.out.trans (hL.old.mono HB.out.size))
        obtain ⟨a1, c1, rfl, hcells⟩ := hL.sl.form
        obtain ⟨b1, off1, rfl, _, q0, q1⟩ := hcells 0 (by simp)
        simp only [List.getElem_cons_zero, Nat.zero_mul, Nat.add_zero] at q0 q1
        clear hL hcells hml
        simp only [List.length_singleton]
        go_wp2_with (go_at_call 9; refine (HN.out _).mono ?_; rintro e w10 ⟨rfl, h10⟩; obtain rfl := h10.symm; simp only [])
        go_ret
        exact ⟨rfl, HB8.out⟩
      case pos =>
        have hltd : decide ((k : Int) < (l.length : Int)) = true := decide_eq_true (by omega)
        have hltI : (k : Int) < (l.length : Int) := by omega
        have hk0 : (0 : Int) ≤ (k : Int) := by omega
        have hb64 : IntKind.i64.wrap ((k : Int) + 1) = (k : Int) + 1 := IntWalk.i64_in _ (by omega)
        obtain ⟨b, off, rfl, hcl⟩ := Txt.lie HTX.out hlt
        have hcx := hcl k hlt
        have hadd := addn b off k
        have HNX : Hid (∀ S' T' : ByteArray, Lt l[k].data.toList → (S'.data.toList = if k = 0 then l[k].data.toList else S.data.toList ++ sepS ++ l[k].data.toList) → (T'.data.toList = if k = 0 then l[k].data.toList else T.data.toList ++ spW false ++ l[k].data.toList) → Jn l false (k + 1) S' T') := fun S' T' h1 h2 h3 => HJ.out.next hlt h1 h2 h3
        obtain ⟨x, hx⟩ : ∃ x, l[k] = x := ⟨_, rfl⟩
        rw [hx] at hcx HNX
        clear hcl hx
        by_cases hx0 : x.size = 0
        · have g1 := isE_of (t := x) (List.length_eq_zero_iff.1 (by rw [dl]; exact hx0))
          go_wp2_with fail
          go_ret
          exact ⟨rfl, HB.out⟩
        have hne : x.data.toList ≠ [] := fun e => hx0 (by rw [← dl, e]; rfl)
        have g1 := isE_ne hne
        have HNE := Lib.hid hne
        clear hne
        by_cases hx6 : 60 < x.size
        · have d6 : decide ((60 : Int) < (x.size : Int)) = true := decide_eq_true (by omega)
          go_wp2_with fail
          go_ret
          exact ⟨rfl, HB.out⟩
        have d6 : decide ((60 : Int) < (x.size : Int)) = false := decide_eq_false (by omega)
        go_wp2_with fail
        go_loopw [9] (fun j wx => ∃ q : Nat, q ≤ x.size ∧ j = .int .i64 q ∧ wx = wr ∧ Hid (∀ c ∈ x.data.toList.take q, 97 ≤ c.toNat ∧ c.toNat ≤ 122)) (fun j _ => x.size - (intOf j).toNat)
        case atStart => exact ⟨0, Nat.zero_le _, rfl, rfl, fun c hc => by cases hc⟩
        case round =>
          obtain ⟨q, hq, rfl, rfl, HQ⟩ := hrel
          by_cases hqlt : q < x.size
          · have hqd : decide ((q : Int) < (x.size : Int)) = true := decide_eq_true (by omega)
            have hqI : (q : Int) < (x.size : Int) := by omega
            have hq0 : (0 : Int) ≤ (q : Int) := by omega
            have hqb : IntKind.i64.wrap ((q : Int) + 1) = (q : Int) + 1 := IntWalk.i64_in _ (by omega)
            have htk : x.data.toList.take (q + 1) = x.data.toList.take q ++ [x[q]'hqlt] := by
              rw [List.take_add_one, Lib.data_getElem? x q hqlt]; rfl
            obtain ⟨c, hc⟩ : ∃ c, x[q]'hqlt = c := ⟨_, rfl⟩
            rw [hc] at htk
            by_cases hc1 : 97 ≤ c.toNat
            · have e1 : decide ((97 : Int) ≤ (c.toNat : Int)) = true := decide_eq_true (by omega)
              by_cases hc2 : c.toNat ≤ 122
              · have e2 : decide ((c.toNat : Int) ≤ 122) = true := decide_eq_true (by omega)
                have HN : Hid (∀ c ∈ x.data.toList.take (q + 1), 97 ≤ c.toNat ∧ c.toNat ≤ 122) := fun d hd => by
                  rw [htk] at hd
                  rcases List.mem_append.1 hd with hd | hd
                  · exact HQ.out d hd
                  · simp at hd; rw [hd]; exact ⟨hc1, hc2⟩
                clear htk hc1 hc2
                go_wp2_with fail
                go_roundw
                case measure => simp [intOf]; omega
                case rel => exact ⟨q + 1, by omega, by go_num, by simp, HN.out⟩
              · have e2 : decide ((c.toNat : Int) ≤ 122) = false := decide_eq_false (by omega)
                clear htk hc1 hc2
                go_wp2_with fail
                go_ret
                exact ⟨rfl, HB.out⟩
            · have e1 : decide ((97 : Int) ≤ (c.toNat : Int)) = false := decide_eq_false (by omega)
              clear htk hc1
              go_wp2_with fail
              go_ret
              exact ⟨rfl, HB.out⟩
          · have hqd : decide ((q : Int) < (x.size : Int)) = false := decide_eq_false (by omega)
            have HLt : Hid (Lt x.data.toList) := ⟨HNE.out, fun c hc => HQ.out c (by rw [List.take_of_length_le (by rw [dl]; omega)]; exact hc)⟩
            by_cases hkz : k = 0
            · subst hkz
              have hcx0 : wr.cell? ⟨b, off, none⟩ = some (.string x) := hcx
              have hSe : S = ByteArray.empty := ba_ext (List.length_eq_zero_iff.1 (by rw [dl]; omega))
              have hTe : T = ByteArray.empty := ba_ext (List.length_eq_zero_iff.1 (by rw [dl]; omega))
              have hz1 : ¬ (9223372036854775807 < S.size + x.size) := by omega
              have hz2 : ¬ (9223372036854775807 < T.size + x.size) := by omega
              have HN : Hid (Jn l false (0 + 1) (S ++ x) (T ++ x)) := HNX.out _ _ HLt.out (by rw [hSe]; simp) (by rw [hTe]; simp)
              have hs1 : (S ++ x).size ≤ 66 * (0 + 1) := by rw [ByteArray.size_append]; omega
              have hs2 : (T ++ x).size ≤ 66 * (0 + 1) := by rw [ByteArray.size_append]; omega
              clear hSe hTe hcx
              go_wp2_with fail
              go_roundw
              case measure => simp [intOf]; omega
              case rel => exact ⟨0 + 1, _, _, rfl, rfl, by go_num, by omega, by simp, hs1, hs2, HN.out⟩
            · have hkd : decide ((0 : Int) < (k : Int)) = true := decide_eq_true (by omega)
              have hz1 : ¬ (9223372036854775807 < S.size + 6) := by omega
              have hz2 : ¬ (9223372036854775807 < S.size + 6 + x.size) := by omega
              have hz3 : ¬ (9223372036854775807 < T.size + 1) := by omega
              have hz4 : ¬ (9223372036854775807 < T.size + 1 + x.size) := by omega
              obtain ⟨S2, hS2⟩ : ∃ S2 : ByteArray, S ++ (⟨#[32, 9, 92, 10, 32, 32]⟩ : ByteArray) = S2 := ⟨_, rfl⟩
              obtain ⟨T2, hT2⟩ : ∃ T2 : ByteArray, T ++ (⟨#[32]⟩ : ByteArray) = T2 := ⟨_, rfl⟩
              have hS2s : S2.size = S.size + 6 := by rw [← hS2, ByteArray.size_append]; rfl
              have hT2s : T2.size = T.size + 1 := by rw [← hT2, ByteArray.size_append]; rfl
              have hz5 : ¬ (9223372036854775807 < S2.size + x.size) := by omega
              have hz6 : ¬ (9223372036854775807 < T2.size + x.size) := by omega
              have HN : Hid (Jn l false (k + 1) (S2 ++ x) (T2 ++ x)) := HNX.out _ _ HLt.out (by rw [if_neg hkz, ← hS2, ByteArray.data_append, Array.toList_append, ByteArray.data_append, Array.toList_append, sepB_data]) (by rw [if_neg hkz, ← hT2, ByteArray.data_append, Array.toList_append, ByteArray.data_append, Array.toList_append]; rfl)
              have hs1 : (S2 ++ x).size ≤ 66 * (k + 1) := by rw [ByteArray.size_append]; omega
              have hs2 : (T2 ++ x).size ≤ 66 * (k + 1) := by rw [ByteArray.size_append]; omega
              clear hS2s hT2s
              go_wp2_with fail
              go_roundw
              case measure => simp [intOf]; omega
              case rel => exact ⟨k + 1, _, _, rfl, rfl, by go_num, by omega, by simp, hs1, hs2, HN.out⟩
  case true =>
    go_enter Tryd.func5, Tryd.ntmps5
    go_wp2_with (go_at_call 6; refine HA.out.mono ?_; rintro e w5 ⟨rfl, h5⟩; have HB := Lib.hid h5; clear h5; simp only [])
    have HTX := Lib.hid (HT.out.below HB.out)
    go_loopw [6, 7, 8] (fun x y i wx => ∃ (k : Nat) (S T : ByteArray), x = .string S ∧ y = .string T ∧ i = .int .i64 k ∧ k ≤ l.length ∧ wx = w5 ∧ S.size ≤ 66 * k ∧ T.size ≤ 66 * k ∧ Hid (Jn l true k S T)) (fun _ _ i _ => l.length - (intOf i).toNat)
    case atStart => exact ⟨0, _, _, rfl, rfl, rfl, Nat.zero_le _, rfl, Nat.le_refl _, Nat.le_refl _, ⟨(fun x hx => by cases hx), rfl, rfl⟩⟩
    case round =>
      obtain ⟨k, S, T, rfl, rfl, rfl, hk, rfl, hS, hT, HJ⟩ := hrel
      by_cases hlt : k < l.length
      case neg =>
        have HKK : Hid (k = l.length) := (show k = l.length by omega)
        have hltd : decide ((k : Int) < (l.length : Int)) = false := decide_eq_false (by omega)
        obtain ⟨U, hU⟩ : ∃ U : ByteArray, (⟨#[9]⟩ : ByteArray) ++ S = U := ⟨_, rfl⟩
        have hUd : U.data.toList = 9 :: S.data.toList := by rw [← hU]; simp
        have hUs : U.size = 1 + S.size := by rw [← hU, ByteArray.size_append]; rfl
        have hz1 : ¬ (9223372036854775807 < 1 + S.size) := by omega
        have HX : Hid (readX U.data.toList = (0, [(true, T.data.toList)])) := by
          have h := HJ.out
          rw [HKK.out] at h
          exact h.all (by omega) (by omega) U (by rw [hUd]; rfl)
        have HRD : Hid (Calls Tryd.prog 7 #[.string U] wr (ReadS wr U.data.toList)) := read_s U m _ (by omega) (HK.out _ HB.out)
        have HN := Lib.hid (fun w => num_any 0 w)
        clear hUd HJ
        go_wp2_with (go_at_call 7; refine HRD.out.mono ?_)
        rintro e w8 ⟨v, L, c, rfl, hL, he, hll⟩
        rw [HX.out] at he
        injection he with hc hml
        subst hc
        have hLL : L = [(⟨true, T⟩ : LB)] := ln_inj hml
        subst hLL
        have HB8 := Lib.hid (HB.out.trans (hL.old.mono HB.out.size))
        obtain ⟨a1, c1, rfl, hcells⟩ := hL.sl.form
        obtain ⟨b1, off1, rfl, _, q0, q1⟩ := hcells 0 (by simp)
        simp only [List.getElem_cons_zero, Nat.zero_mul, Nat.add_zero] at q0 q1
        clear hL hcells hml
        simp only [List.length_singleton]
        go_wp2_with (go_at_call 9; refine (HN.out _).mono ?_; rintro e w10 ⟨rfl, h10⟩; obtain rfl := h10.symm; simp only [])
        go_ret
        exact ⟨rfl, HB8.out⟩
      case pos =>
        have hltd : decide ((k : Int) < (l.length : Int)) = true := decide_eq_true (by omega)
        have hltI : (k : Int) < (l.length : Int) := by omega
        have hk0 : (0 : Int) ≤ (k : Int) := by omega
        have hb64 : IntKind.i64.wrap ((k : Int) + 1) = (k : Int) + 1 := IntWalk.i64_in _ (by omega)
        obtain ⟨b, off, rfl, hcl⟩ := Txt.lie HTX.out hlt
        have hcx := hcl k hlt
        have hadd := addn b off k
        have HNX : Hid (∀ S' T' : ByteArray, Lt l[k].data.toList → (S'.data.toList = if k = 0 then l[k].data.toList else S.data.toList ++ sepS ++ l[k].data.toList) → (T'.data.toList = if k = 0 then l[k].data.toList else T.data.toList ++ spW true ++ l[k].data.toList) → Jn l true (k + 1) S' T') := fun S' T' h1 h2 h3 => HJ.out.next hlt h1 h2 h3
        obtain ⟨x, hx⟩ : ∃ x, l[k] = x := ⟨_, rfl⟩
        rw [hx] at hcx HNX
        clear hcl hx
        by_cases hx0 : x.size = 0
        · have g1 := isE_of (t := x) (List.length_eq_zero_iff.1 (by rw [dl]; exact hx0))
          go_wp2_with fail
          go_ret
          exact ⟨rfl, HB.out⟩
        have hne : x.data.toList ≠ [] := fun e => hx0 (by rw [← dl, e]; rfl)
        have g1 := isE_ne hne
        have HNE := Lib.hid hne
        clear hne
        by_cases hx6 : 60 < x.size
        · have d6 : decide ((60 : Int) < (x.size : Int)) = true := decide_eq_true (by omega)
          go_wp2_with fail
          go_ret
          exact ⟨rfl, HB.out⟩
        have d6 : decide ((60 : Int) < (x.size : Int)) = false := decide_eq_false (by omega)
        go_wp2_with fail
        go_loopw [9] (fun j wx => ∃ q : Nat, q ≤ x.size ∧ j = .int .i64 q ∧ wx = wr ∧ Hid (∀ c ∈ x.data.toList.take q, 97 ≤ c.toNat ∧ c.toNat ≤ 122)) (fun j _ => x.size - (intOf j).toNat)
        case atStart => exact ⟨0, Nat.zero_le _, rfl, rfl, fun c hc => by cases hc⟩
        case round =>
          obtain ⟨q, hq, rfl, rfl, HQ⟩ := hrel
          by_cases hqlt : q < x.size
          · have hqd : decide ((q : Int) < (x.size : Int)) = true := decide_eq_true (by omega)
            have hqI : (q : Int) < (x.size : Int) := by omega
            have hq0 : (0 : Int) ≤ (q : Int) := by omega
            have hqb : IntKind.i64.wrap ((q : Int) + 1) = (q : Int) + 1 := IntWalk.i64_in _ (by omega)
            have htk : x.data.toList.take (q + 1) = x.data.toList.take q ++ [x[q]'hqlt] := by
              rw [List.take_add_one, Lib.data_getElem? x q hqlt]; rfl
            obtain ⟨c, hc⟩ : ∃ c, x[q]'hqlt = c := ⟨_, rfl⟩
            rw [hc] at htk
            by_cases hc1 : 97 ≤ c.toNat
            · have e1 : decide ((97 : Int) ≤ (c.toNat : Int)) = true := decide_eq_true (by omega)
              by_cases hc2 : c.toNat ≤ 122
              · have e2 : decide ((c.toNat : Int) ≤ 122) = true := decide_eq_true (by omega)
                have HN : Hid (∀ c ∈ x.data.toList.take (q + 1), 97 ≤ c.toNat ∧ c.toNat ≤ 122) := fun d hd => by
                  rw [htk] at hd
                  rcases List.mem_append.1 hd with hd | hd
                  · exact HQ.out d hd
                  · simp at hd; rw [hd]; exact ⟨hc1, hc2⟩
                clear htk hc1 hc2
                go_wp2_with fail
                go_roundw
                case measure => simp [intOf]; omega
                case rel => exact ⟨q + 1, by omega, by go_num, by simp, HN.out⟩
              · have e2 : decide ((c.toNat : Int) ≤ 122) = false := decide_eq_false (by omega)
                clear htk hc1 hc2
                go_wp2_with fail
                go_ret
                exact ⟨rfl, HB.out⟩
            · have e1 : decide ((97 : Int) ≤ (c.toNat : Int)) = false := decide_eq_false (by omega)
              clear htk hc1
              go_wp2_with fail
              go_ret
              exact ⟨rfl, HB.out⟩
          · have hqd : decide ((q : Int) < (x.size : Int)) = false := decide_eq_false (by omega)
            have HLt : Hid (Lt x.data.toList) := ⟨HNE.out, fun c hc => HQ.out c (by rw [List.take_of_length_le (by rw [dl]; omega)]; exact hc)⟩
            by_cases hkz : k = 0
            · subst hkz
              have hcx0 : wr.cell? ⟨b, off, none⟩ = some (.string x) := hcx
              have hSe : S = ByteArray.empty := ba_ext (List.length_eq_zero_iff.1 (by rw [dl]; omega))
              have hTe : T = ByteArray.empty := ba_ext (List.length_eq_zero_iff.1 (by rw [dl]; omega))
              have hz1 : ¬ (9223372036854775807 < S.size + x.size) := by omega
              have hz2 : ¬ (9223372036854775807 < T.size + x.size) := by omega
              have HN : Hid (Jn l true (0 + 1) (S ++ x) (T ++ x)) := HNX.out _ _ HLt.out (by rw [hSe]; simp) (by rw [hTe]; simp)
              have hs1 : (S ++ x).size ≤ 66 * (0 + 1) := by rw [ByteArray.size_append]; omega
              have hs2 : (T ++ x).size ≤ 66 * (0 + 1) := by rw [ByteArray.size_append]; omega
              clear hSe hTe hcx
              go_wp2_with fail
              go_roundw
              case measure => simp [intOf]; omega
              case rel => exact ⟨0 + 1, _, _, rfl, rfl, by go_num, by omega, by simp, hs1, hs2, HN.out⟩
            · have hkd : decide ((0 : Int) < (k : Int)) = true := decide_eq_true (by omega)
              have hz1 : ¬ (9223372036854775807 < S.size + 6) := by omega
              have hz2 : ¬ (9223372036854775807 < S.size + 6 + x.size) := by omega
              have hz3 : ¬ (9223372036854775807 < T.size + 6) := by omega
              have hz4 : ¬ (9223372036854775807 < T.size + 6 + x.size) := by omega
              obtain ⟨S2, hS2⟩ : ∃ S2 : ByteArray, S ++ (⟨#[32, 9, 92, 10, 32, 32]⟩ : ByteArray) = S2 := ⟨_, rfl⟩
              obtain ⟨T2, hT2⟩ : ∃ T2 : ByteArray, T ++ (⟨#[32, 9, 92, 10, 32, 32]⟩ : ByteArray) = T2 := ⟨_, rfl⟩
              have hS2s : S2.size = S.size + 6 := by rw [← hS2, ByteArray.size_append]; rfl
              have hT2s : T2.size = T.size + 6 := by rw [← hT2, ByteArray.size_append]; rfl
              have hz5 : ¬ (9223372036854775807 < S2.size + x.size) := by omega
              have hz6 : ¬ (9223372036854775807 < T2.size + x.size) := by omega
              have HN : Hid (Jn l true (k + 1) (S2 ++ x) (T2 ++ x)) := HNX.out _ _ HLt.out (by rw [if_neg hkz, ← hS2, ByteArray.data_append, Array.toList_append, ByteArray.data_append, Array.toList_append, sepB_data]) (by rw [if_neg hkz, ← hT2, ByteArray.data_append, Array.toList_append, ByteArray.data_append, Array.toList_append]; rfl)
              have hs1 : (S2 ++ x).size ≤ 66 * (k + 1) := by rw [ByteArray.size_append]; omega
              have hs2 : (T2 ++ x).size ≤ 66 * (k + 1) := by rw [ByteArray.size_append]; omega
              clear hS2s hT2s
              go_wp2_with fail
              go_roundw
              case measure => simp [intOf]; omega
              case rel => exact ⟨k + 1, _, _, rfl, rfl, by go_num, by omega, by simp, hs1, hs2, HN.out⟩
end Go.Proofs.YtcjfpkfbdcmlbaaDoor
