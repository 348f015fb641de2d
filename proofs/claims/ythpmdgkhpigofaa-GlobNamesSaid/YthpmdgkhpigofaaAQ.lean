import Derived.Test.YthpmdgkhpigofaaAP
import Derived.Test.YthpmdgkhpigofaaI
namespace Go.Proofs.Ythpmdgkhpigofaa
open Go.RowKit Go.Sort Go.Lib

def Strs (w : World) (A : Option Addr) (n : Nat) (ss : Nat → ByteArray) : Prop := 0 < n → ∃ a, A = some a ∧ ∀ k, k < n → w.cell? (a.add k) = some (.string (ss k))

theorem news_all {w : World} {g off : Nat} {L : List Bs} (h : ∀ i (h : i < L.length), w.cell? ⟨g, off + i, none⟩ = some (encStr L[i])) : ∀ j u, (L.map encStr)[j]? = some u → w.cell? ((⟨g, off, none⟩ : Addr).add j) = some u := by
  intro j u hj
  have := news_take (k := L.length) h j u
  rw [List.take_length] at this
  exact this hj

theorem Names_any (p : ByteArray) (v : Value) (L : List Bs) (w : World) (hp : p.size ≤ 100000) (hL : L.length ≤ 100000) (hS : Hid (∀ x ∈ L, x.length ≤ 100000)) (hv : SlS w v L) :
    Calls Try.prog 14 #[.string p, v] w fun e w' => ∃ v', e = .returned v' ∧ SlS w' v' ((L.filter (pick p)).foldl putS []) ∧ Below w.heap.size w w' := by
  rw [← sort_fold]
  rcases hv with ⟨rfl, rfl⟩ | ⟨g, off, c, rfl, _, _, h3, h4⟩
  · rw [show compact ((([] : List Bs).filter (pick p)).mergeSort fun x y => decide (x ≤ y)) = [] by simp [compact, compactUpTo]]
    exact Names_empty p none 0 w hp
  · exact Names_some p g off c L w hp hL hS h3 h4

theorem strs_list {w : World} {A : Option Addr} {n : Nat} {ss : Nat → ByteArray} (h : Strs w A n ss) : StrsL w A ((List.range n).map fun k => (ss k).data.toList) := by
  intro hn
  have hn' : 0 < n := by simpa using hn
  obtain ⟨a, rfl, hc⟩ := h hn'
  obtain ⟨g, off, x⟩ := a
  have h0 := hc 0 hn'
  rw [show (⟨g, off, x⟩ : Addr).add 0 = ⟨g, off, x⟩ by simp [Addr.add]] at h0
  have hx : x = none := by
    cases x with
    | none => rfl
    | some x =>
      unfold World.cell? at h0
      split at h0 <;> simp at h0
  subst hx
  refine ⟨g, off, rfl, ?_, fun i hi => ?_⟩
  · rcases Nat.lt_or_ge g w.heap.size with h | h
    · exact h
    · simp [World.cell?, Array.getElem?_eq_none h] at h0
  · have hi' : i < n := by simpa using hi
    have e := hc i hi'
    rw [show (⟨g, off, none⟩ : Addr).add i = ⟨g, off + i, none⟩ by unfold Addr.add; by_cases h : i = 0 <;> simp [h]] at e
    rw [e, List.getElem_map, List.getElem_range]

set_option maxRecDepth 100000 in
set_option maxHeartbeats 8000000 in
theorem names_walk (p : ByteArray) (A : Option Addr) (n c : Nat) (ss : Nat → ByteArray) (W : World) (_hp : p.size ≤ maxLen) (_hn : n ≤ maxLen) (hnil : A = none → c = 0) (hS : Strs W A n ss) :
    Calls Try.prog 4 #[.string p, .slice A n c] W fun e w' => e = .returned (.bool true) ∧ Below W.heap.size W w' := by
  obtain ⟨i0, hi, hz0, hz1, hz2⟩ := info_parts info9
  obtain ⟨L, hL⟩ : ∃ L : List Bs, ((List.range n).map fun k => (ss k).data.toList) = L := ⟨_, rfl⟩
  have hSL := strs_list hS
  rw [hL] at hSL
  have hln : L.length = n := by rw [← hL]; simp
  have HSL := Lib.hid hSL
  clear hSL hS hL
  subst hln
  unfold maxLen at _hp _hn
  go_enter Try.func4, Try.ntmps4
  go_wp2_with fail
  refine (alive_any _).mono ?_
  rintro e w1 ⟨rfl, hB1⟩
  have HB1 := Lib.hid hB1
  clear hB1
  by_cases h1 : p.size ≤ 60
  · by_cases h2 : L.length ≤ 40
    · have b1 : ¬ (60 : Int) < (p.size : Int) := by omega
      have b2 : ¬ (40 : Int) < (L.length : Int) := by omega
      go_wp2_with fail
      go_loop [6] (fun a => ∃ k : Nat, a = .int .i64 k ∧ k ≤ L.length ∧ Hid (∀ i (h : i < L.length), i < k → L[i].length ≤ 60)) (fun a => L.length - (intOf a).toNat)
      case atStart => exact ⟨0, rfl, by omega, Lib.hid (fun i _ h => absurd h (Nat.not_lt_zero _))⟩
      case round =>
        obtain ⟨k, rfl, hk, HK⟩ := hrel
        by_cases hlt : k < L.length
        · have hltI : (k : Int) < (L.length : Int) := by omega
          have h0 : (0 : Int) ≤ (k : Int) := by omega
          obtain ⟨g, off, rfl, hg, hcell⟩ := HSL.out (by omega)
          have hck : w1.cell? ⟨g, off + k, none⟩ = some (encStr L[k]) := by
            rw [HB1.out.cell (p := ⟨g, off + k, none⟩) hg]
            exact hcell k hlt
          have hadd : (⟨g, off, none⟩ : Addr).add k = ⟨g, off + k, none⟩ := by unfold Addr.add; by_cases h : k = 0 <;> simp [h]
          obtain ⟨s, hs⟩ : ∃ s : ByteArray, ⟨L[k].toArray⟩ = s := ⟨_, rfl⟩
          rw [enc_bs, hs] at hck
          have HSZ : Hid (L[k].length = s.size) := by rw [← hs]; rfl
          clear hcell hs
          by_cases h3 : s.size ≤ 60
          · have b3 : ¬ (60 : Int) < (s.size : Int) := by omega
            go_wp2_with fail
            refine ⟨⟨k + 1, by go_num, by omega, Lib.hid (fun i hi hik => ?_)⟩, by simp [intOf]; omega⟩
            by_cases h : i < k
            · exact HK.out i hi h
            · obtain rfl : i = k := by omega
              have := HSZ.out
              omega
          · have b3 : (60 : Int) < (s.size : Int) := by omega
            go_wp2_with fail
            go_ret
            exact ⟨rfl, HB1.out⟩
        · have hge : ¬ (k : Int) < (L.length : Int) := by omega
          have HSS : Hid (∀ x ∈ L, x.length ≤ 100000) := fun x hx => by
            obtain ⟨i, hi, rfl⟩ := List.mem_iff_getElem.1 hx
            have := HK.out i hi (by omega)
            omega
          clear HK
          by_cases hn0 : 0 < L.length
          · obtain ⟨g, off, rfl, hg, hcell⟩ := HSL.out hn0
            have HC := Lib.hid hcell
            have HC1 : Hid (∀ i (h : i < L.length), w1.cell? ⟨g, off + i, none⟩ = some (encStr L[i])) := fun i hi => by
              rw [HB1.out.cell (p := ⟨g, off + i, none⟩) hg]
              exact hcell i hi
            clear hcell
            go_wp2_with (at_builtin; refine wpList_append_own _ rfl _ _ 24 rfl w1.heap.size 9 i0 (.string ⟨#[]⟩) 1 16 Try.underlying24 hi hz0 hz1 hz2 rfl (by decide) _ _ _ rfl (World.ownsRow_nil _ _ _ _) ⟨g, off, none⟩ L.length _ (L.map encStr) rfl (lm rfl) (news_all HC1.out) enc_one (by unfold maxLen; omega) (by omega) (Nat.le_refl _) ?_)
            intro va w2 hown2 hg2 _
            have hB2 : Below w1.heap.size w1 w2 := (Below.refl _ w1).grown hg2 (Nat.le_refl _) (fun j hj => by simp [Value.ownBlock] at hj)
            have HS2 : Hid (SlS w2 va L) := by
              refine SlS.own (B := w1.heap.size) ?_
              simpa using hown2
            have HB2 := Lib.hid (btrans HB1.out hB2)
            clear hown2 hg2 hB2
            obtain ⟨a2, c2, rfl⟩ := HS2.out.len
            go_wp2_with fail
            refine (Names_any p _ L w2 (by omega) (by omega) HSS HS2.out).mono ?_
            rintro e w3 ⟨v3, rfl, hs3, hB3⟩
            have HB3 := Lib.hid (btrans HB2.out hB3)
            have HS3 := Lib.hid hs3
            have HC3 : Hid (∀ i (h : i < L.length), w3.cell? ⟨g, off + i, none⟩ = some (encStr L[i])) := fun i hi => by
              rw [HB3.out.cell (p := ⟨g, off + i, none⟩) hg]
              exact HC.out i hi
            have hg3 : g < w3.heap.size := Nat.lt_of_lt_of_le hg HB3.out.size
            clear hs3 hB3
            obtain ⟨M, hM⟩ : ∃ M, (L.filter (pick p)).foldl putS [] = M := ⟨_, rfl⟩
            have hml : M.length ≤ L.length := by
              rw [← hM]
              exact Nat.le_trans (foldS_len _) (List.length_filter_le _ _)
            rw [hM] at HS3
            obtain ⟨a3, c3, rfl, hst3⟩ := HS3.out.open
            have HST3 := Lib.hid hst3
            clear hst3
            go_wp2_with fail
            refine (RefNames_some p g off c L w3 (by omega) (by omega) HSS hg3 HC3).mono ?_
            rintro e w4 ⟨v4, rfl, hs4, hB4⟩
            rw [hM] at hs4
            have HST3' := Lib.hid (HST3.out.below hB4)
            have HB4 := Lib.hid (btrans HB3.out hB4)
            obtain ⟨a4, c4, rfl, hst4⟩ := hs4.open
            have HST4 := Lib.hid hst4
            clear hst4 hs4 hB4 hM
            go_wp2_with fail
            refine (Same_any a3 a4 M c3 c4 w4 (by omega) HST3'.out HST4.out).mono ?_
            rintro e w5 ⟨rfl, m, hm⟩
            have HB5 : Hid (Below W.heap.size W w5) := by rw [hm]; exact below_drewN HB4.out m
            clear hm
            go_wp2_with fail
            go_ret
            exact ⟨rfl, HB5.out⟩
          · obtain rfl : L = [] := List.length_eq_zero_iff.1 (by omega)
            obtain hA | ⟨a, rfl⟩ : A = none ∨ ∃ a, A = some a := by cases A <;> simp
            · subst hA
              obtain rfl := hnil rfl
              go_wp2_with fail
              refine (Names_empty p none 0 w1 (by omega)).mono ?_
              rintro e w3 ⟨v3, rfl, hs3, hB3⟩
              have HB3 := Lib.hid (btrans HB1.out hB3)
              obtain ⟨a3, c3, rfl, hst3⟩ := hs3.open
              have HST3 := Lib.hid hst3
              clear hst3 hs3 hB3
              go_wp2_with fail
              refine (RefNames_empty p _ _ w3).mono ?_
              rintro e w4 ⟨v4, rfl, hs4, hB4⟩
              have HST3' := Lib.hid (HST3.out.below hB4)
              have HB4 := Lib.hid (btrans HB3.out hB4)
              obtain ⟨a4, c4, rfl, hst4⟩ := hs4.open
              have HST4 := Lib.hid hst4
              clear hst4 hs4 hB4
              go_wp2_with fail
              refine (Same_any a3 a4 [] c3 c4 w4 (by simp) HST3'.out HST4.out).mono ?_
              rintro e w5 ⟨rfl, m, hm⟩
              have HB5 : Hid (Below W.heap.size W w5) := by rw [hm]; exact below_drewN HB4.out m
              clear hm
              go_wp2_with fail
              go_ret
              exact ⟨rfl, HB5.out⟩
            · go_wp2_with (at_builtin; refine wpList_append_own _ rfl _ _ 24 rfl w1.heap.size 9 i0 (.string ⟨#[]⟩) 1 16 Try.underlying24 hi hz0 hz1 hz2 rfl (by decide) _ _ _ rfl (World.ownsRow_nil _ _ _ _) a 0 _ [] rfl rfl (fun j u hj => by simp at hj) (fun u hu => by simp at hu) (by unfold maxLen; omega) (by omega) (Nat.le_refl _) ?_)
              intro va w2 hown2 hg2 hv
              have hB2 : Below w1.heap.size w1 w2 := (Below.refl _ w1).grown hg2 (Nat.le_refl _) (fun j hj => by simp [Value.ownBlock] at hj)
              obtain rfl := hv
              have HB1 := Lib.hid (btrans HB1.out hB2)
              clear hown2 hg2 hB2
              go_wp2_with fail
              refine (Names_empty p none 0 w2 (by omega)).mono ?_
              rintro e w3 ⟨v3, rfl, hs3, hB3⟩
              have HB3 := Lib.hid (btrans HB1.out hB3)
              obtain ⟨a3, c3, rfl, hst3⟩ := hs3.open
              have HST3 := Lib.hid hst3
              clear hst3 hs3 hB3
              go_wp2_with fail
              refine (RefNames_empty p _ _ w3).mono ?_
              rintro e w4 ⟨v4, rfl, hs4, hB4⟩
              have HST3' := Lib.hid (HST3.out.below hB4)
              have HB4 := Lib.hid (btrans HB3.out hB4)
              obtain ⟨a4, c4, rfl, hst4⟩ := hs4.open
              have HST4 := Lib.hid hst4
              clear hst4 hs4 hB4
              go_wp2_with fail
              refine (Same_any a3 a4 [] c3 c4 w4 (by simp) HST3'.out HST4.out).mono ?_
              rintro e w5 ⟨rfl, m, hm⟩
              have HB5 : Hid (Below W.heap.size W w5) := by rw [hm]; exact below_drewN HB4.out m
              clear hm
              go_wp2_with fail
              go_ret
              exact ⟨rfl, HB5.out⟩
    · have b2 : (40 : Int) < (L.length : Int) := by omega
      have b1 : ¬ (60 : Int) < (p.size : Int) := by omega
      go_wp2_with fail
      go_ret
      exact ⟨rfl, HB1.out⟩
  · have b1 : (60 : Int) < (p.size : Int) := by omega
    go_wp2_with fail
    go_ret
    exact ⟨rfl, HB1.out⟩
end Go.Proofs.Ythpmdgkhpigofaa
