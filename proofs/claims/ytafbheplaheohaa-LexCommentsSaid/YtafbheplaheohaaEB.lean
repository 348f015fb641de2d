import Derived.Test.YtafbheplaheohaaCD
namespace Go.Proofs.Ytafbheplaheohaa
open Go.RowKit
set_option linter.unusedVariables false

set_option maxRecDepth 100000 in
set_option maxHeartbeats 4000000 in
theorem RNameLen_any (s : ByteArray) (a : Nat) (hs : s.size ≤ 1000000) (ha : a ≤ 1000000) (w : World) : Calls Try.prog 52 #[.string s, .int .i64 a] w fun e w' => e = .returned (.int .i64 (nameLen (s.data.toList.drop a))) ∧ w' = w := by
  have HD := Lib.hid (fun c w => RDigit_any c w)
  have HL := Lib.hid (fun c w => RLetter_any c w)
  obtain ⟨r, hr⟩ : ∃ r, nameLen (s.data.toList.drop a) = r := ⟨_, rfl⟩
  have HR := Lib.hid hr
  rw [hr]
  clear hr
  go_enter Try.func52, Try.ntmps52
  go_wp2_with fail
  go_loopw [5] (fun n wx => ∃ k : Nat, n = .int .i64 k ∧ (k = 0 ∨ a + k ≤ s.size) ∧ wx = w ∧ Hid (NmAt (s.data.toList.drop a) k)) (fun n _ => s.size - (intOf n).toNat)
  case atStart => exact ⟨0, rfl, .inl rfl, rfl, .inl rfl⟩
  case round =>
    obtain ⟨k, rfl, hk, rfl, HK⟩ := hrel
    have hkl : k ≤ 1000000 := by omega
    have hk0 : (0 : Int) ≤ (k : Int) := by omega
    obtain ⟨m, hm⟩ : ∃ m, a + k = m := ⟨_, rfl⟩
    have hwm : IntKind.i64.wrap ((a : Int) + (k : Int)) = (m : Int) := by rw [IntWalk.i64_in _ (by omega)]; omega
    have hm0 : (0 : Int) ≤ (m : Int) := by omega
    by_cases hlt : m < s.size
    · have hltI : (m : Int) < (s.size : Int) := by omega
      have hltd : decide ((m : Int) < (s.size : Int)) = true := decide_eq_true hltI
      have hat := data_get s m hlt
      obtain ⟨c, hc⟩ : ∃ c, s[m]'hlt = c := ⟨_, rfl⟩
      rw [hc] at hat
      have HAT : Hid ((s.data.toList.drop a)[k]? = some c) := by rw [Hid, List.getElem?_drop, hm]; exact hat
      obtain ⟨z1, hz1⟩ : ∃ z, isStart c = z := ⟨_, rfl⟩
      obtain ⟨z3, hz3⟩ : ∃ z, decide ((0 : Int) < (k : Int)) = z := ⟨_, rfl⟩
      have hz3' : decide (0 < k) = z3 := by
        rw [← hz3]
        by_cases h : 0 < k
        · rw [decide_eq_true h, decide_eq_true (by omega)]
        · rw [decide_eq_false h, decide_eq_false (by omega)]
      obtain ⟨z4, hz4⟩ : ∃ z, isDigit c = z := ⟨_, rfl⟩
      have HG : Hid (goesOn k c = (z1 || (z3 && z4))) := by rw [Hid, ← hz1, ← hz3', ← hz4]; rfl
      have HDC := Lib.hid (HD.out c)
      have HLC := Lib.hid (HL.out c)
      rw [hz4] at HDC
      rw [hz1] at HLC
      have hb64 : IntKind.i64.wrap ((k : Int) + 1) = (k : Int) + 1 := IntWalk.i64_in _ (by omega)
      obtain ⟨g, hg⟩ : ∃ g, goesOn k c = g := ⟨_, rfl⟩
      have HGG := Lib.hid hg
      rw [hg] at HG
      have HM := Lib.hid hm
      have HLT := Lib.hid hlt
      clear hat hz1 hz4 hg hm hk
      cases z1 <;> cases z3 <;> cases z4
      all_goals
        go_wp2_with (first
          | (go_at_call 64; refine (HLC.out _).mono ?_; rintro e w1 ⟨rfl, h1⟩; obtain rfl := h1.symm; simp only [])
          | (go_at_call 53; refine (HDC.out _).mono ?_; rintro e w1 ⟨rfl, h1⟩; obtain rfl := h1.symm; simp only []))
        first
          | (have HGT : Hid (goesOn k c = true) := by rw [Hid, HGG.out, HG.out]; rfl
             go_roundw
             case measure => have := HM.out; have := HLT.out; simp [intOf]; omega
             case rel => exact ⟨k + 1, by go_num, .inr (by have := HM.out; have := HLT.out; omega), trivial, nm_step HK.out HAT.out HGT.out⟩)
          | (have HGF : Hid (goesOn k c = false) := by rw [Hid, HGG.out, HG.out]; rfl
             have HE : Hid (nameLen (s.data.toList.drop a) = k) := nm_stop HK.out (.inr ⟨c, HAT.out, HGF.out⟩)
             go_ret
             exact ⟨by rw [← HR.out, HE.out]; rfl, rfl⟩)
    · have hltI : ¬ (m : Int) < (s.size : Int) := by omega
      have hltd : decide ((m : Int) < (s.size : Int)) = false := decide_eq_false hltI
      have HE : Hid (nameLen (s.data.toList.drop a) = k) := by
        rcases hk with rfl | hk
        · rw [Hid, List.drop_of_length_le (by rw [dl]; omega)]; rfl
        · exact nm_stop HK.out (.inl (by rw [List.length_drop, dl]; omega))
      clear hm hk
      go_wp2_with fail
      go_ret
      exact ⟨by rw [← HR.out, HE.out]; rfl, rfl⟩
set_option maxRecDepth 100000 in
set_option maxHeartbeats 4000000 in
theorem RAt_any (s : ByteArray) (c : UInt8) (hs : s.size ≤ 1000000) (w : World) : Calls Try.prog 35 #[.string s, .int .u8 c.toNat] w fun e w' => ∃ z : Int, e = .returned (.int .i64 z) ∧ decide ((0 : Int) ≤ z) = s.data.toList.contains c ∧ w' = w := by
  obtain ⟨Q, hQ⟩ : ∃ Q : Ending → World → Prop, (fun e w' => ∃ z : Int, e = .returned (.int .i64 z) ∧ decide ((0 : Int) ≤ z) = s.data.toList.contains c ∧ w' = w) = Q := ⟨_, rfl⟩
  rw [hQ]
  have HQ := Lib.hid hQ
  clear hQ
  go_enter Try.func35, Try.ntmps35
  go_wp2_with fail
  go_loopw [5] (fun n wx => ∃ k : Nat, n = .int .i64 k ∧ k ≤ s.size ∧ wx = w ∧ Hid (s.data.toList.contains c = (s.data.toList.drop k).contains c)) (fun n _ => s.size - (intOf n).toNat)
  case atStart => exact ⟨0, rfl, Nat.zero_le _, rfl, rfl⟩
  case round =>
    obtain ⟨k, rfl, hk, rfl, HK⟩ := hrel
    have hk0 : (0 : Int) ≤ (k : Int) := by omega
    by_cases hlt : k < s.size
    · have hltI : (k : Int) < (s.size : Int) := by omega
      have hltd : decide ((k : Int) < (s.size : Int)) = true := decide_eq_true hltI
      have hat := data_get s k hlt
      obtain ⟨d, hd⟩ : ∃ d, s[k]'hlt = d := ⟨_, rfl⟩
      rw [hd] at hat
      have hdr := at_drop hat
      have he := byte_eq d c
      by_cases hc : d = c
      · have hz : ((d.toNat : Int) == (c.toNat : Int)) = true := by rw [he, hc]; simp
        have HE : Hid (s.data.toList.contains c = true) := by rw [Hid, HK.out, hdr, hc]; simp
        clear hat hdr he hc
        go_wp2_with fail
        rw [← HQ.out]
        exact ⟨k, rfl, by rw [HE.out]; exact decide_eq_true hk0, rfl⟩
      · have hz : ((d.toNat : Int) == (c.toNat : Int)) = false := by rw [he]; simpa using hc
        have HE : Hid (s.data.toList.contains c = (s.data.toList.drop (k + 1)).contains c) := by rw [Hid, HK.out, hdr]; simp [Ne.symm hc]
        clear hat hdr he hc
        go_wp2_with fail
        go_roundw
        case measure => simp [intOf]; omega
        case rel => exact ⟨k + 1, by go_num, by omega, trivial, HE.out⟩
    · obtain rfl : k = s.size := by omega
      have hltd : decide ((s.size : Int) < (s.size : Int)) = false := decide_eq_false (by omega)
      have HE : Hid (s.data.toList.contains c = false) := by rw [Hid, HK.out, List.drop_of_length_le (by rw [dl]; exact Nat.le_refl _)]; rfl
      clear hlt
      go_wp2_with fail
      rw [← HQ.out]
      exact ⟨-1, rfl, by rw [HE.out]; rfl, rfl⟩
set_option maxRecDepth 100000 in
set_option maxHeartbeats 4000000 in
theorem may_any (s : ByteArray) (w : World) (hs : s.size ≤ 9000000000000000000) : Calls Try.prog 24 #[.string s] w fun e w' => e = .returned (.int .i64 (mayN s.data.toList)) ∧ w' = w := by
  obtain ⟨Q, hQ⟩ : ∃ Q : Ending → World → Prop, (fun e w' => e = .returned (.int .i64 (mayN s.data.toList)) ∧ w' = w) = Q := ⟨_, rfl⟩
  rw [hQ]
  have HQ := Lib.hid hQ
  clear hQ
  by_cases hl : 16384 < s.size
  · have hlI : (16384 : Int) < (s.size : Int) := by omega
    have hld : decide ((16384 : Int) < (s.size : Int)) = true := decide_eq_true hlI
    have HM : Hid (mayN s.data.toList = 3) := by rw [Hid]; unfold mayN; rw [dl, if_pos hl]
    go_enter Try.func24, Try.ntmps24
    go_wp2_with fail
    rw [← HQ.out, HM.out]; exact ⟨rfl, rfl⟩
  · have hlI : ¬ (16384 : Int) < (s.size : Int) := by omega
    have hld : decide ((16384 : Int) < (s.size : Int)) = false := decide_eq_false hlI
    have HA : Hid (Calls Try.prog 35 #[.string s, .int .u8 0] w fun e w' => ∃ z : Int, e = .returned (.int .i64 z) ∧ decide ((0 : Int) ≤ z) = s.data.toList.contains 0 ∧ w' = w) := RAt_any s 0 (by omega) w
    have HM : Hid (mayN s.data.toList = if s.data.toList.contains 0 then 2 else 0) := by rw [Hid]; unfold mayN; rw [dl, if_neg hl]
    obtain ⟨b, hb⟩ : ∃ b, s.data.toList.contains 0 = b := ⟨_, rfl⟩
    rw [hb] at HA HM
    clear hb
    cases b
    all_goals
      go_enter Try.func24, Try.ntmps24
      go_wp2_with (go_at_call 35; refine HA.out.mono ?_; rintro e w1 ⟨z, rfl, hz, h1⟩; obtain rfl := h1.symm; simp only [])
      rw [← HQ.out, HM.out]; exact ⟨rfl, rfl⟩
end Go.Proofs.Ytafbheplaheohaa

namespace Go.Proofs.Ytafbheplaheohaa
open Go.RowKit
set_option linter.unusedVariables false

set_option maxRecDepth 100000 in
set_option maxHeartbeats 4000000 in
theorem Begins_any (s x : ByteArray) (b : Bool) (hb : x.data.toList.isPrefixOf s.data.toList = b) (hs : s.size ≤ 1000000) (w : World) : Calls Try.prog 27 #[.string s, .string x] w fun e w' => e = .returned (.bool b) ∧ w' = w := by
  by_cases hl : x.size ≤ s.size
  · have hlI : (x.size : Int) ≤ (s.size : Int) := by omega
    have hld : decide ((x.size : Int) ≤ (s.size : Int)) = true := decide_eq_true hlI
    have h0 : (0 : Int) ≤ (x.size : Int) := by omega
    have hx := ext_dt (t := s) (a := 0) (b := x.size) (by omega) hl
    obtain ⟨X, hX⟩ : ∃ X, s.extract 0 x.size = X := ⟨_, rfl⟩
    rw [hX, List.drop_zero] at hx
    have he : (X.toList == x.toList) = b := by
      rw [str_eq, hx.1, ← hb, Bool.eq_iff_iff, beq_iff_eq, List.isPrefixOf_iff_prefix, List.prefix_iff_eq_take, dl]
      exact eq_comm
    clear hb hx
    cases b
    all_goals
      go_enter Try.func27, Try.ntmps27
      go_wp2_with fail
      go_ret
      exact ⟨rfl, rfl⟩
  · have hlI : ¬ (x.size : Int) ≤ (s.size : Int) := by omega
    have hld : decide ((x.size : Int) ≤ (s.size : Int)) = false := decide_eq_false hlI
    have hbf : b = false := by
      rw [← hb, Bool.eq_false_iff]
      intro h
      have := (List.isPrefixOf_iff_prefix.1 h).length_le
      rw [dl, dl] at this
      exact hl this
    subst hbf
    clear hb
    go_enter Try.func27, Try.ntmps27
    go_wp2_with fail
    go_ret
    exact ⟨rfl, rfl⟩
theorem op_none {s : Bz} (h : ∀ o ∈ ops2, o.isPrefixOf s = false) : opOf s = [] := by
  have key : ∀ n, ops2.contains (s.take n) = false := fun n => by
    rw [Bool.eq_false_iff]
    intro hc
    have hm : s.take n ∈ ops2 := by simpa using hc
    have := h _ hm
    rw [Bool.eq_false_iff] at this
    exact this (List.isPrefixOf_iff_prefix.2 (List.take_prefix n s))
  unfold opOf
  rw [key 2, key 1]; rfl
theorem op_hit {s o : Bz} {l m : List Bz} (ho : ops2 = l ++ o :: m) (hp : o.isPrefixOf s = true) (h : ∀ o' ∈ l, o'.isPrefixOf s = false) : opOf s = o := by
  have hpre := List.isPrefixOf_iff_prefix.1 hp
  have hmem : o ∈ ops2 := by rw [ho]; simp
  have htk := List.prefix_iff_eq_take.1 hpre
  have h12 : ∀ o ∈ ops2, o.length = 2 ∨ o.length = 1 := by decide
  unfold opOf
  rcases h12 o hmem with h2 | h1
  · rw [h2] at htk
    rw [← htk, if_pos (by simpa using hmem)]
  · rw [h1] at htk
    by_cases hc : ops2.contains (s.take 2) = true
    · rw [if_pos hc]
      have hm : s.take 2 ∈ ops2 := by simpa using hc
      have hpp : (s.take 2).isPrefixOf s = true := List.isPrefixOf_iff_prefix.2 (List.take_prefix 2 s)
      rw [ho] at hm
      rcases List.mem_append.1 hm with hm | hm
      · rw [h _ hm] at hpp; cases hpp
      rcases List.mem_cons.1 hm with hm | hm
      · exact hm
      · have key : ∀ (l m : List Bz) (o x : Bz), ops2 = l ++ o :: m → o.length = 1 → x ∈ m → x.length = 1 := by
          intro l m o x e ho1 hx
          have hsuf : ∀ n, ∀ y ∈ ops2.drop n, (ops2[n]?.map List.length) = some 1 → y.length = 1 := by
            intro n
            by_cases hn : n < 13
            · have : ∀ n : Fin 13, ∀ y ∈ ops2.drop n.val, (ops2[n.val]?.map List.length) = some 1 → y.length = 1 := by decide
              exact this ⟨n, hn⟩
            · intro y hy
              rw [List.drop_of_length_le (by show 12 ≤ n; omega)] at hy; cases hy
          refine hsuf l.length x ?_ ?_
          · rw [e, List.drop_left]; exact List.mem_cons_of_mem _ hx
          · rw [e]; simp [ho1]
        have hx1 := key l m o (s.take 2) ho h1 hm
        rw [htk]
        have hlen : s.length = 1 := by
          rw [List.length_take] at hx1; omega
        rw [List.take_of_length_le (by omega), List.take_of_length_le (by omega)]
    · rw [if_neg hc, ← htk, if_pos (by simpa using hmem)]
end Go.Proofs.Ytafbheplaheohaa

namespace Go.Proofs.Ytafbheplaheohaa
open Go.RowKit
set_option linter.unusedVariables false

def op2A : Array Value := #[.string ⟨#[58, 45]⟩, .string ⟨#[58, 61]⟩, .string ⟨#[58, 63]⟩, .string ⟨#[58, 43]⟩, .string ⟨#[37, 37]⟩, .string ⟨#[35, 35]⟩, .string ⟨#[45]⟩, .string ⟨#[61]⟩, .string ⟨#[63]⟩, .string ⟨#[43]⟩, .string ⟨#[37]⟩, .string ⟨#[35]⟩]
theorem op2_at (i : Nat) (h : i < 12) : ∃ O : ByteArray, op2A[i]? = some (.string O) ∧ ops2[i]? = some O.data.toList := by
  have hc : i = 0 ∨ i = 1 ∨ i = 2 ∨ i = 3 ∨ i = 4 ∨ i = 5 ∨ i = 6 ∨ i = 7 ∨ i = 8 ∨ i = 9 ∨ i = 10 ∨ i = 11 := by omega
  rcases hc with rfl | rfl | rfl | rfl | rfl | rfl | rfl | rfl | rfl | rfl | rfl | rfl
  · exact ⟨⟨#[58, 45]⟩, rfl, rfl⟩
  · exact ⟨⟨#[58, 61]⟩, rfl, rfl⟩
  · exact ⟨⟨#[58, 63]⟩, rfl, rfl⟩
  · exact ⟨⟨#[58, 43]⟩, rfl, rfl⟩
  · exact ⟨⟨#[37, 37]⟩, rfl, rfl⟩
  · exact ⟨⟨#[35, 35]⟩, rfl, rfl⟩
  · exact ⟨⟨#[45]⟩, rfl, rfl⟩
  · exact ⟨⟨#[61]⟩, rfl, rfl⟩
  · exact ⟨⟨#[63]⟩, rfl, rfl⟩
  · exact ⟨⟨#[43]⟩, rfl, rfl⟩
  · exact ⟨⟨#[37]⟩, rfl, rfl⟩
  · exact ⟨⟨#[35]⟩, rfl, rfl⟩
def NoPre (l : Bz) (k : Nat) : Prop := ∀ o ∈ ops2.take k, o.isPrefixOf l = false
theorem NoPre.succ {l : Bz} {k : Nat} (h : NoPre l k) {o : Bz} (ho : ops2[k]? = some o) (hp : o.isPrefixOf l = false) : NoPre l (k + 1) := by
  intro x hx
  rw [List.take_add_one, ho] at hx
  rcases List.mem_append.1 hx with hx | hx
  · exact h x hx
  · simp at hx; rw [hx]; exact hp
theorem NoPre.hit {l : Bz} {k : Nat} (h : NoPre l k) {o : Bz} (ho : ops2[k]? = some o) (hp : o.isPrefixOf l = true) : opOf l = o := by
  have hk : k < ops2.length := by
    by_cases hk : k < ops2.length
    · exact hk
    · rw [List.getElem?_eq_none (by omega)] at ho; cases ho
  have e : ops2 = ops2.take k ++ o :: ops2.drop (k + 1) := by
    have h1 := List.take_append_drop k ops2
    rw [List.drop_eq_getElem_cons hk] at h1
    rw [List.getElem?_eq_getElem hk] at ho
    injection ho with ho
    rw [ho] at h1
    exact h1.symm
  exact op_hit e hp h
theorem NoPre.all {l : Bz} (h : NoPre l 12) : opOf l = [] := op_none (fun o ho => h o ho)
/-- What r.op() answers. -/
def OpP (w : World) (o : Bz) (e : Ending) (w' : World) : Prop := ∃ t : ByteArray, e = .returned (.string t) ∧ t.data.toList = o ∧ Below w.heap.size w w'
theorem below_drewN'' {B : Nat} {a w : World} (h : Below B a w) (n : Nat) : Below B a (w.drewN n) := ⟨h.os, h.tape, h.output, h.size, h.block⟩
structure OpS (w wx : World) : Prop where
  below : Below w.heap.size w wx
  ops : wx.heap[w.heap.size]? = some (.cells op2A 9 (0, 0))
theorem OpS.drewN {w wx : World} (h : OpS w wx) (n : Nat) : OpS w (wx.drewN n) := ⟨below_drewN'' h.below n, h.ops⟩
set_option maxRecDepth 100000 in
set_option maxHeartbeats 4000000 in
theorem op_any {w : World} {rb a x : Nat} {S : ByteArray} (hr : Rr w rb S a x) (hs : S.size ≤ 20000) : Calls Try.prog 65 #[.pointer (some ⟨rb, 0, none⟩)] w (OpP w (opOf (S.data.toList.drop a))) := by
  obtain ⟨Q, hQ⟩ : ∃ Q, OpP w (opOf (S.data.toList.drop a)) = Q := ⟨_, rfl⟩
  rw [hQ]
  have HQ := Lib.hid hQ
  have HR := Lib.hid hr
  clear hQ hr
  have HEND : Hid (∀ t wx, OpS w wx → opOf (S.data.toList.drop a) = t.data.toList → Q (.returned (.string t)) wx) := fun t wx h1 h2 => by
    rw [← HQ.out]; exact ⟨t, rfl, h2.symm, h1.below⟩
  go_enter Try.func65, Try.ntmps65
  go_wp2_with fail
  go_loopw [4] (fun iv wx => ∃ k : Nat, k ≤ 12 ∧ iv = .int .i64 k ∧ Hid (OpS w wx) ∧ Hid (NoPre (S.data.toList.drop a) k)) (fun iv _ => 12 - (intOf iv).toNat)
  case atStart => exact ⟨0, by omega, rfl, ⟨(Below.refl w.heap.size w).alloc (Nat.le_refl _) _, heap_alloc_new w _⟩, fun o ho => by cases ho⟩
  case round =>
    obtain ⟨k, hk, rfl, HO, HN⟩ := hrel
    by_cases hlt : k < 12
    · have hltI : (k : Int) < 12 := by omega
      have hltd : decide ((k : Int) < 12) = true := decide_eq_true hltI
      have hk0 : (0 : Int) ≤ (k : Int) := by omega
      obtain ⟨O, hO, hOk⟩ := op2_at k hlt
      have HR5 := Lib.hid (HR.out.under HO.out.below)
      have q0 : wr.cell? ⟨rb, 0, none⟩ = some (.string S) := cell_of HR5.out 0
      have q1 : wr.cell? ⟨rb, 1, none⟩ = some (.int .i64 a) := cell_of HR5.out 1
      have qO : wr.cell? ⟨w.heap.size, k, none⟩ = some (.string O) := (Lib.cell_of_heap HO.out.ops k).trans hO
      have ad := addn w.heap.size 0 k
      rw [Nat.zero_add] at ad
      have HOK := Lib.hid hOk
      clear hO hOk
      by_cases ha : S.size ≤ a
      · have HOV := Lib.hid (fun n => over_any (w := wr.drewN n) (HR5.out.drewN n) true (decide_eq_true ha))
        have HP : Hid (O.data.toList.isPrefixOf (S.data.toList.drop a) = false) := by
          have hne : ∀ o ∈ ops2, o.isPrefixOf ([] : Bz) = false := by decide
          rw [Hid, List.drop_of_length_le (by rw [dl]; exact ha)]
          exact hne _ (List.mem_of_getElem? HOK.out)
        go_wp2_with fail
        go_quiet ((go_at_call 25; exact Calls.quiet_of (HOV.out _)))
        go_wp2_with fail
        go_roundw
        case measure => simp [intOf]; omega
        case rel => exact ⟨k + 1, by omega, by go_num, HO.out.drewN _, HN.out.succ HOK.out HP.out⟩
      · have hab : a < S.size := by omega
        have haI : (a : Int) ≤ (S.size : Int) := by omega
        have ha0 : (0 : Int) ≤ (a : Int) := by omega
        have HOV := Lib.hid (fun n => over_any (w := wr.drewN n) (HR5.out.drewN n) false (decide_eq_false ha))
        have hX := ext_end (t := S) (a := a) (by omega)
        obtain ⟨X, hXX⟩ : ∃ X, S.extract a S.size = X := ⟨_, rfl⟩
        rw [hXX] at hX
        obtain ⟨b, hb⟩ : ∃ b, O.data.toList.isPrefixOf (S.data.toList.drop a) = b := ⟨_, rfl⟩
        have HB := Lib.hid (fun n => Begins_any X O b (by rw [hX.1]; exact hb) (by omega) (wr.drewN n))
        have HBB := Lib.hid hb
        clear hX hb ha
        cases b
        · go_wp2_with fail
          go_quiet (first
            | (go_at_call 25; exact Calls.quiet_of (HOV.out _))
            | (go_at_call 27; exact Calls.quiet_of_same (HB.out _)))
          go_wp2_with fail
          go_roundw
          case measure => simp [intOf]; omega
          case rel => exact ⟨k + 1, by omega, by go_num, HO.out.drewN _, HN.out.succ HOK.out HBB.out⟩
        · go_wp2_with fail
          go_quiet (first
            | (go_at_call 25; exact Calls.quiet_of (HOV.out _))
            | (go_at_call 27; exact Calls.quiet_of_same (HB.out _)))
          go_wp2_with fail
          exact HEND.out _ _ (HO.out.drewN _) (HN.out.hit HOK.out HBB.out)
    · obtain rfl : k = 12 := by omega
      have hltd : decide (((12 : Nat) : Int) < 12) = false := decide_eq_false (by omega)
      clear hlt
      go_wp2_with fail
      exact HEND.out _ _ HO.out HN.out.all
theorem break_all : ∀ c : UInt8, separates c = true → c ∈ ([32, 9, 10, 59, 38, 124, 40, 41, 60, 62] : Bz) := by
  intro c h
  simp only [separates, isSpace, isBlank, Bool.or_eq_true, beq_iff_eq] at h
  rcases h with (((h | h) | h) | h)
  · simp [h]
  · simp [h]
  · simp [h]
  · simp [separs] at h; simp; rcases h with h | h | h | h | h | h | h <;> simp [h]
set_option maxRecDepth 100000 in
set_option maxHeartbeats 4000000 in
theorem breaks_any (c : UInt8) (w : World) : Calls Try.prog 37 #[.int .u8 c.toNat] w fun e w' => e = .returned (.bool (separates c)) ∧ w' = w := by
  by_cases h : separates c = true
  · rw [h]
    have hm := break_all c h
    simp only [List.mem_cons, List.not_mem_nil, or_false] at hm
    rcases hm with rfl | rfl | rfl | rfl | rfl | rfl | rfl | rfl | rfl | rfl
    all_goals
      go_enter Try.func37, Try.ntmps37
      go_wp2_with fail
      go_ret
      exact ⟨rfl, rfl⟩
  · have hf : separates c = false := by simpa using h
    rw [hf]
    have key : ∀ d : UInt8, separates d = true → ((c.toNat : Int) == (d.toNat : Int)) = false := fun d hd => by
      rw [byte_eq]
      have : c ≠ d := fun e => h (e ▸ hd)
      simpa using this
    have e1 : ((c.toNat : Int) == 32) = false := key 32 rfl
    have e2 : ((c.toNat : Int) == 9) = false := key 9 rfl
    have e3 : ((c.toNat : Int) == 10) = false := key 10 rfl
    have e4 : ((c.toNat : Int) == 59) = false := key 59 rfl
    have e5 : ((c.toNat : Int) == 38) = false := key 38 rfl
    have e6 : ((c.toNat : Int) == 124) = false := key 124 rfl
    have e7 : ((c.toNat : Int) == 40) = false := key 40 rfl
    have e8 : ((c.toNat : Int) == 41) = false := key 41 rfl
    have e9 : ((c.toNat : Int) == 60) = false := key 60 rfl
    have e10 : ((c.toNat : Int) == 62) = false := key 62 rfl
    clear key h hf
    go_enter Try.func37, Try.ntmps37
    go_wp2_with fail
    go_ret
    exact ⟨rfl, rfl⟩
end Go.Proofs.Ytafbheplaheohaa

namespace Go.Proofs.Ytafbheplaheohaa
open Go.RowKit
set_option linter.unusedVariables false

theorem see_seq {w : World} {rb a x : Nat} {S : ByteArray} (hr : Rr w rb S a x) (ki : Int) (k m : Nat) (hki : ki = (k : Int)) (hm : a + k = m) (hs : m ≤ 1000000) (hsz : S.size ≤ 1000000) {c : UInt8} (hc : seeF S m = c) :
    Calls Try.prog 26 #[.pointer (some ⟨rb, 0, none⟩), .int .i64 ki] w fun e w' => e = .returned (.int .u8 c.toNat) ∧ Below w.heap.size w w' := by
  subst hm
  rw [← hc]
  refine (see_any hr ki k hki hs hsz).mono ?_
  rintro e w' ⟨rfl, n, rfl⟩
  exact ⟨rfl, drew_below w n⟩
theorem over_seq {w : World} {rb a x : Nat} {S : ByteArray} (hr : Rr w rb S a x) (b : Bool) (hb : decide (S.size ≤ a) = b) :
    Calls Try.prog 25 #[.pointer (some ⟨rb, 0, none⟩)] w fun e w' => e = .returned (.bool b) ∧ Below w.heap.size w w' := by
  refine (over_any hr b hb).mono ?_
  rintro e w' ⟨rfl, n, rfl⟩
  exact ⟨rfl, drew_below w n⟩
theorem seeF_head {S : ByteArray} {a : Nat} {c : UInt8} {r : Bz} (h : S.data.toList.drop a = c :: r) : seeF S a = c := by
  have := List.getElem?_drop (xs := S.data.toList) (i := a) (j := 0)
  rw [h, Nat.add_zero] at this
  exact seeF_at this.symm
theorem seeF_next {S : ByteArray} {a : Nat} {c d : UInt8} {r : Bz} (h : S.data.toList.drop a = c :: d :: r) : seeF S (a + 1) = d := by
  have := List.getElem?_drop (xs := S.data.toList) (i := a) (j := 1)
  rw [h] at this
  exact seeF_at this.symm
/-! The name in braces. -/
theorem start_not_digit (c : UInt8) (h : isStart c = true) : isDigit c = false ∧ signs.contains c = false := by
  have key : ∀ n : Fin 256, isStart (UInt8.ofNat n.val) = true → isDigit (UInt8.ofNat n.val) = false ∧ signs.contains (UInt8.ofNat n.val) = false := by decide +kernel
  have := key ⟨c.toNat, c.toNat_lt⟩
  simp only [UInt8.ofNat_toNat] at this
  exact this h
theorem name_pos {l : Bz} (h : 0 < nameLen l) : longParam l = nameLen l := by
  unfold longParam
  rw [paramLen_pos h]
  cases l with
  | nil => cases h
  | cons c r =>
    have hs : isStart c = true := by
      unfold isStart
      by_cases h2 : (isLetter c || c == 95) = true
      · exact h2
      · rw [nameLen, if_neg h2] at h; cases h
    have : digitsLen (c :: r) = 0 := by rw [digitsLen, (start_not_digit c hs).1]; rfl
    rw [this]; omega
theorem name_zero {l : Bz} {c : UInt8} {r : Bz} (hl : l = c :: r) (h : nameLen l = 0) : longParam l = if signs.contains c then 1 else digitsLen l := by
  subst hl
  unfold longParam
  rw [paramLen_cons (by omega)]
  have hsd : ∀ c : UInt8, signs.contains c = true → isDigit c = false := by
    intro c hc
    have : ∀ x ∈ signs, isDigit x = false := by decide
    exact this c (by simpa using hc)
  by_cases hs : signs.contains c = true
  · rw [hs, hsd c hs, digitsLen, hsd c hs]; rfl
  · have hs : signs.contains c = false := by simpa using hs
    rw [hs, Bool.or_false]
    by_cases hd : isDigit c = true
    · rw [hd, digitsLen, hd]; simp
    · have hd : isDigit c = false := by simpa using hd
      rw [hd, digitsLen, hd]; rfl
def NamP (w : World) (rb : Nat) (S : ByteArray) (a x : Nat) (e : Ending) (w' : World) : Prop := ∃ t : ByteArray, e = .returned (.string t) ∧ t.data.toList = (S.data.toList.drop a).take (longParam (S.data.toList.drop a)) ∧ Rr w' rb S (a + longParam (S.data.toList.drop a)) x ∧ Only (fun k => k = rb) w w'
def meaZ (n : Value) : Nat := if intOf n = 0 then 1 else 0
theorem meaZ_zero : meaZ (.int .i64 ((0 : Nat) : Int)) = 1 := rfl
theorem meaZ_pos {v : Nat} (h : 0 < v) : meaZ (.int .i64 v) = 0 := by
  have : (v : Int) ≠ 0 := by omega
  exact if_neg this
structure NmS (w wx : World) (rb : Nat) (S : ByteArray) (a x : Nat) : Prop where
  rr : Rr wx rb S a x
  below : Below w.heap.size w wx
theorem NmS.under {w wx w' : World} {rb a x : Nat} {S : ByteArray} (h : NmS w wx rb S a x) (hb : Below wx.heap.size wx w') : NmS w w' rb S a x := ⟨h.rr.under hb, h.below.trans (hb.mono h.below.size)⟩
set_option maxRecDepth 100000 in
set_option maxHeartbeats 4000000 in
theorem name_any {w : World} {rb a x : Nat} {S : ByteArray} (hr : Rr w rb S a x) (hs : S.size ≤ 20000) (ha : a ≤ S.size) : Calls Try.prog 66 #[.pointer (some ⟨rb, 0, none⟩)] w (NamP w rb S a x) := by
  obtain ⟨Q, hQ⟩ : ∃ Q, NamP w rb S a x = Q := ⟨_, rfl⟩
  rw [hQ]
  have HQ := Lib.hid hQ
  have H0 : Hid (NmS w w rb S a x) := ⟨hr, Below.refl _ _⟩
  have q0 : w.cell? ⟨rb, 0, none⟩ = some (.string S) := cell_of hr 0
  have q1 : w.cell? ⟨rb, 1, none⟩ = some (.int .i64 a) := cell_of hr 1
  clear hQ hr
  obtain ⟨l, hl⟩ : ∃ l, S.data.toList.drop a = l := ⟨_, rfl⟩
  have HL := Lib.hid hl
  obtain ⟨nl, hnl⟩ : ∃ nl, nameLen l = nl := ⟨_, rfl⟩
  obtain ⟨c0, hc0⟩ : ∃ c0, seeF S a = c0 := ⟨_, rfl⟩
  obtain ⟨L, hL⟩ : ∃ L, longParam l = L := ⟨_, rfl⟩
  have hLl : L ≤ l.length := by rw [← hL]; exact longParam_le l
  have hll : l.length = S.size - a := by rw [← hl, List.length_drop, dl]
  obtain ⟨m, hm⟩ : ∃ m, a + L = m := ⟨_, rfl⟩
  have hwm : IntKind.i64.wrap ((a : Int) + (L : Int)) = (m : Int) := by rw [IntWalk.i64_in _ (by omega)]; omega
  have hnll : nl ≤ L ∨ nl = 0 := by
    by_cases h : 0 < nl
    · left; rw [← hL, name_pos (by rw [hnl]; exact h), hnl]; exact Nat.le_refl _
    · right; omega
  have HSEE0 : Hid (∀ w5, NmS w w5 rb S a x → Calls Try.prog 26 #[.pointer (some ⟨rb, 0, none⟩), .int .i64 0] w5 fun e w' => e = .returned (.int .u8 c0.toNat) ∧ Below w5.heap.size w5 w') := fun w5 h => see_seq h.rr 0 0 a rfl rfl (by omega) (by omega) hc0
  have HNL : Hid (∀ w5, Calls Try.prog 52 #[.string S, .int .i64 a] w5 fun e w' => e = .returned (.int .i64 nl) ∧ w' = w5) := fun w5 => by
    have := RNameLen_any S a (by omega) (by omega) w5
    rw [hl, hnl] at this
    exact this
  have HDIG : Hid (∀ c w5, Calls Try.prog 53 #[.int .u8 (c : UInt8).toNat] w5 fun e w' => e = .returned (.bool (isDigit c)) ∧ w' = w5) := fun c w5 => RDigit_any c w5
  have HSEE : Hid (∀ (k : Nat) w5, k ≤ L → NmS w w5 rb S a x → Calls Try.prog 26 #[.pointer (some ⟨rb, 0, none⟩), .int .i64 k] w5 fun e w' => e = .returned (.int .u8 (seeF S (a + k)).toNat) ∧ Below w5.heap.size w5 w') := fun k w5 hk h => see_seq h.rr k k (a + k) rfl rfl (by omega) (by omega) rfl
  have ham : a ≤ m := by omega
  have hmS : m ≤ S.size := by omega
  have hamI : (a : Int) ≤ (m : Int) := by omega
  have hmSI : (m : Int) ≤ (S.size : Int) := by omega
  have ha0 : (0 : Int) ≤ (a : Int) := by omega
  have hX := ext_dt (t := S) (a := a) (b := m) ham hmS
  obtain ⟨X, hXX⟩ : ∃ X, S.extract a m = X := ⟨_, rfl⟩
  rw [hXX] at hX
  have HEND : Hid (∀ w7, NmS w w7 rb S a x → Q (.returned (.string X)) (w7.setCell ⟨rb, 1, none⟩ (.int .i64 m))) := fun w7 h => by
    rw [← HQ.out]
    have e : longParam (S.data.toList.drop a) = L := by rw [hl, hL]
    refine ⟨X, rfl, ?_, ?_, (Only.of_below (S := fun k => k = rb) h.below).set (.inl rfl) _ _⟩
    · rw [e, hX.1, List.drop_take, show m - a = L by omega]
    · rw [e, hm]; exact h.rr.setI m rfl
  have HLN := Lib.hid hL
  by_cases hn : 0 < nl
  · have hLn : nl = L := by rw [← hL, name_pos (by rw [hnl]; exact hn), hnl]
    have hz : ((L : Int) == 0) = false := beq_eq_false_iff_ne.2 (by omega)
    subst hLn
    clear hl hnl hc0 hL hm hX hnll hn
    go_enter Try.func66, Try.ntmps66
    go_wp2_with (go_at_call 26; refine (HSEE0.out _ H0.out).mono ?_; rintro e w5 ⟨rfl, h5⟩; have HN5 := Lib.hid (H0.out.under h5); clear h5; have q05 : w5.cell? ⟨rb, 0, none⟩ = some (.string S) := cell_of HN5.out.rr 0; have q15 : w5.cell? ⟨rb, 1, none⟩ = some (.int .i64 a) := cell_of HN5.out.rr 1; simp only [])
    go_quiet ((go_at_call 52; exact Calls.quiet_of_same (HNL.out _)))
    have hbn := drew_below w5 nq
    obtain ⟨w6, hw6⟩ : ∃ wv, World.drewN w5 nq = wv := ⟨_, rfl⟩
    rw [hw6] at hbn ⊢
    have HN6 := Lib.hid (HN5.out.under hbn)
    clear hw6 hbn q05 q15
    go_wp2_with fail
    go_loopw [4] (fun n wx => n = .int .i64 (nl : Nat) ∧ Hid (NmS w wx rb S a x)) (fun _ _ => 0)
    case atStart => exact ⟨rfl, HN6.out⟩
    case round =>
      obtain ⟨rfl, HN⟩ := hrel
      have q06 : wr.cell? ⟨rb, 0, none⟩ = some (.string S) := cell_of HN.out.rr 0
      have q16 : wr.cell? ⟨rb, 1, none⟩ = some (.int .i64 a) := cell_of HN.out.rr 1
      go_wp2_with fail
      go_quiet (fail)
      have hbn := drew_below wr nq
      obtain ⟨w7, hw7⟩ : ∃ wv, World.drewN wr nq = wv := ⟨_, rfl⟩
      rw [hw7] at hbn ⊢
      have HN7 := Lib.hid (HN.out.under hbn)
      clear hw7 hbn q06 q16
      have q17 : w7.cell? ⟨rb, 1, none⟩ = some (.int .i64 a) := cell_of HN7.out.rr 1
      have f17 := free_of HN7.out.rr 1
      go_wp2_with fail
      exact HEND.out _ HN7.out
  · have hn0 : nl = 0 := by omega
    subst hn0
    have HSIGN : Hid (signs.contains c0 = true → L = 1) := fun h => by
      cases hh : l with
      | nil =>
        have : S.size ≤ a := by
          have := congrArg List.length hh
          rw [hll] at this; simp at this; omega
        rw [seeF_off this] at hc0
        rw [← hc0] at h
        exact absurd h (by decide)
      | cons c r =>
        rw [seeF_head (hl.trans hh)] at hc0
        rw [← HLN.out, name_zero hh hnl, hc0, if_pos h]
    by_cases hsg : signs.contains c0 = true
    · have hL1 := HSIGN.out hsg
      have hsm : c0 = 63 ∨ c0 = 35 ∨ c0 = 64 ∨ c0 = 42 := by
        have : c0 ∈ signs := by simpa using hsg
        simpa [signs] using this
      subst hL1
      have hwm' : IntKind.i64.wrap ((a : Int) + 1) = (m : Int) := by simpa using hwm
      clear hwm
      clear hl hnl hL hm hX hnll hn hsg hc0 HSIGN
      rcases hsm with rfl | rfl | rfl | rfl
      all_goals
        go_enter Try.func66, Try.ntmps66
        go_wp2_with (go_at_call 26; refine (HSEE0.out _ H0.out).mono ?_; rintro e w5 ⟨rfl, h5⟩; have HN5 := Lib.hid (H0.out.under h5); clear h5; have q05 : w5.cell? ⟨rb, 0, none⟩ = some (.string S) := cell_of HN5.out.rr 0; have q15 : w5.cell? ⟨rb, 1, none⟩ = some (.int .i64 a) := cell_of HN5.out.rr 1; simp only [])
        go_quiet ((go_at_call 52; exact Calls.quiet_of_same (HNL.out _)))
        have hbn := drew_below w5 nq
        obtain ⟨w6, hw6⟩ : ∃ wv, World.drewN w5 nq = wv := ⟨_, rfl⟩
        rw [hw6] at hbn ⊢
        have HN6 := Lib.hid (HN5.out.under hbn)
        clear hw6 hbn q05 q15
        go_wp2_with fail
        go_loopw [4] (fun n wx => n = .int .i64 1 ∧ Hid (NmS w wx rb S a x)) (fun _ _ => 0)
        case atStart => exact ⟨rfl, HN6.out⟩
        case round =>
          obtain ⟨rfl, HN⟩ := hrel
          have q06 : wr.cell? ⟨rb, 0, none⟩ = some (.string S) := cell_of HN.out.rr 0
          have q16 : wr.cell? ⟨rb, 1, none⟩ = some (.int .i64 a) := cell_of HN.out.rr 1
          go_wp2_with fail
          go_quiet (fail)
          have hbn := drew_below wr nq
          obtain ⟨w7, hw7⟩ : ∃ wv, World.drewN wr nq = wv := ⟨_, rfl⟩
          rw [hw7] at hbn ⊢
          have HN7 := Lib.hid (HN.out.under hbn)
          clear hw7 hbn q06 q16
          have q17 : w7.cell? ⟨rb, 1, none⟩ = some (.int .i64 a) := cell_of HN7.out.rr 1
          have f17 := free_of HN7.out.rr 1
          go_wp2_with fail
          exact HEND.out _ HN7.out
    · have h63 : ((c0.toNat : Int) == 63) = false := by
        have := byte_eq c0 63
        rw [show ((63 : UInt8).toNat : Int) = 63 from rfl] at this
        rw [this]; exact beq_eq_false_iff_ne.2 (fun e => hsg (by rw [e]; rfl))
      have h35 : ((c0.toNat : Int) == 35) = false := by
        have := byte_eq c0 35
        rw [show ((35 : UInt8).toNat : Int) = 35 from rfl] at this
        rw [this]; exact beq_eq_false_iff_ne.2 (fun e => hsg (by rw [e]; rfl))
      have h64 : ((c0.toNat : Int) == 64) = false := by
        have := byte_eq c0 64
        rw [show ((64 : UInt8).toNat : Int) = 64 from rfl] at this
        rw [this]; exact beq_eq_false_iff_ne.2 (fun e => hsg (by rw [e]; rfl))
      have h42 : ((c0.toNat : Int) == 42) = false := by
        have := byte_eq c0 42
        rw [show ((42 : UInt8).toNat : Int) = 42 from rfl] at this
        rw [this]; exact beq_eq_false_iff_ne.2 (fun e => hsg (by rw [e]; rfl))
      have hLD : L = digitsLen l := by
        cases hh : l with
        | nil => rw [← HLN.out, hh]; rfl
        | cons c r =>
          rw [← HLN.out, name_zero hh hnl, hh]
          rw [seeF_head (hl.trans hh)] at hc0
          rw [hc0, if_neg hsg]
      obtain ⟨d0, hd0⟩ : ∃ d0, isDigit c0 = d0 := ⟨_, rfl⟩
      have HD0 := Lib.hid hd0
      cases d0 with
      | false =>
        have hL0 : L = 0 := by
          cases hh : l with
          | nil => rw [hLD, hh]; rfl
          | cons c r =>
            rw [seeF_head (hl.trans hh)] at hc0
            rw [hLD, hh, digitsLen, hc0, hd0]; rfl
        subst hL0
        obtain rfl : a = m := by omega
        have hXE : X = ByteArray.empty := by rw [← hXX]; simp
        rw [hXE] at HEND
        clear hwm hXX hXE
        clear hl hnl hc0 hL hm hX hnll hn hsg HSIGN hd0 hLD
        go_enter Try.func66, Try.ntmps66
        go_wp2_with (go_at_call 26; refine (HSEE0.out _ H0.out).mono ?_; rintro e w5 ⟨rfl, h5⟩; have HN5 := Lib.hid (H0.out.under h5); clear h5; have q05 : w5.cell? ⟨rb, 0, none⟩ = some (.string S) := cell_of HN5.out.rr 0; have q15 : w5.cell? ⟨rb, 1, none⟩ = some (.int .i64 a) := cell_of HN5.out.rr 1; simp only [])
        go_quiet ((go_at_call 52; exact Calls.quiet_of_same (HNL.out _)))
        have hbn := drew_below w5 nq
        obtain ⟨w6, hw6⟩ : ∃ wv, World.drewN w5 nq = wv := ⟨_, rfl⟩
        rw [hw6] at hbn ⊢
        have HN6 := Lib.hid (HN5.out.under hbn)
        clear hw6 hbn q05 q15
        go_wp2_with fail
        go_loopw [4] (fun n wx => n = .int .i64 0 ∧ Hid (NmS w wx rb S a x)) (fun _ _ => 0)
        case atStart => exact ⟨rfl, HN6.out⟩
        case round =>
          obtain ⟨rfl, HN⟩ := hrel
          go_wp2_with (first
            | (go_at_call 26; (with_reducible refine (HSEE0.out _ HN.out).mono ?_); rintro e w5 ⟨rfl, h5⟩; have HN5 := Lib.hid (HN.out.under h5); clear h5; have q05 : w5.cell? ⟨rb, 0, none⟩ = some (.string S) := cell_of HN5.out.rr 0; have q15 : w5.cell? ⟨rb, 1, none⟩ = some (.int .i64 a) := cell_of HN5.out.rr 1; simp only [])
            | (go_at_call 53; refine (HDIG.out c0 _).mono ?_; rw [HD0.out]; rintro e w6 ⟨rfl, h6⟩; obtain rfl := h6.symm; simp only []))
          have HN := HN5
          clear q05 q15
          have q06 : w5.cell? ⟨rb, 0, none⟩ = some (.string S) := cell_of HN.out.rr 0
          have q16 : w5.cell? ⟨rb, 1, none⟩ = some (.int .i64 a) := cell_of HN.out.rr 1
          go_quiet (fail)
          have hbn := drew_below w5 nq
          obtain ⟨w7, hw7⟩ : ∃ wv, World.drewN w5 nq = wv := ⟨_, rfl⟩
          rw [hw7] at hbn ⊢
          have HN7 := Lib.hid (HN.out.under hbn)
          clear hw7 hbn q06 q16
          have q17 : w7.cell? ⟨rb, 1, none⟩ = some (.int .i64 a) := cell_of HN7.out.rr 1
          have f17 := free_of HN7.out.rr 1
          go_wp2_with fail
          exact HEND.out _ HN7.out
      | true =>
        have hLp : 0 < L := by
          cases hh : l with
          | nil =>
            have : S.size ≤ a := by
              have := congrArg List.length hh
              rw [hll] at this; simp at this; omega
            rw [seeF_off this] at hc0
            rw [← hc0] at hd0
            exact absurd hd0 (by decide)
          | cons c r =>
            rw [seeF_head (hl.trans hh)] at hc0
            rw [hLD, hh, digitsLen, hc0, hd0, if_pos rfl]; omega
        have hL20 : L ≤ 20000 := by omega
        have hzL : ((L : Int) == 0) = false := beq_eq_false_iff_ne.2 (by omega)
        have HSTEP : Hid (∀ k, k < L → isDigit (seeF S (a + k)) = true) := fun k hk => by
          have key : ∀ (l : Bz) (k : Nat), k < digitsLen l → ∃ c, l[k]? = some c ∧ isDigit c = true := by
            intro l
            induction l with
            | nil => intro k hk; exact absurd hk (by simp [digitsLen])
            | cons c r ih =>
              intro k hk
              rw [digitsLen] at hk
              split at hk
              · cases k with
                | zero => exact ⟨c, rfl, by assumption⟩
                | succ k => exact ih k (by omega)
              · omega
          obtain ⟨c, h1, h2⟩ := key l k (by omega)
          rw [← hl, List.getElem?_drop] at h1
          rw [seeF_at h1]; exact h2
        have HLAST : Hid (isDigit (seeF S (a + L)) = false) := by
          have key : ∀ (l : Bz), l.length = digitsLen l ∨ ∃ c, l[digitsLen l]? = some c ∧ isDigit c = false := by
            intro l
            induction l with
            | nil => left; rfl
            | cons c r ih =>
              rw [digitsLen]
              split
              · rcases ih with h | ⟨d, h1, h2⟩
                · left; simp [h]
                · right; exact ⟨d, by simpa using h1, h2⟩
              · right; exact ⟨c, rfl, by simpa using ‹¬ isDigit c = true›⟩
          rw [Hid]
          rcases key l with h | ⟨c, h1, h2⟩
          · rw [seeF_off (by omega)]; rfl
          · rw [← hLD, ← hl, List.getElem?_drop] at h1
            rw [seeF_at h1]; exact h2
        clear hl hnl hc0 hL hm hX hnll hn hsg HSIGN hd0 hLD hLl hll
        go_enter Try.func66, Try.ntmps66
        go_wp2_with (go_at_call 26; refine (HSEE0.out _ H0.out).mono ?_; rintro e w5 ⟨rfl, h5⟩; have HN5 := Lib.hid (H0.out.under h5); clear h5; have q05 : w5.cell? ⟨rb, 0, none⟩ = some (.string S) := cell_of HN5.out.rr 0; have q15 : w5.cell? ⟨rb, 1, none⟩ = some (.int .i64 a) := cell_of HN5.out.rr 1; simp only [])
        go_quiet ((go_at_call 52; exact Calls.quiet_of_same (HNL.out _)))
        have hbn := drew_below w5 nq
        obtain ⟨w6, hw6⟩ : ∃ wv, World.drewN w5 nq = wv := ⟨_, rfl⟩
        rw [hw6] at hbn ⊢
        have HN6 := Lib.hid (HN5.out.under hbn)
        clear hw6 hbn q05 q15
        go_wp2_with fail
        go_loopw [4] (fun n wx => ∃ v : Nat, n = .int .i64 v ∧ (v = 0 ∨ v = L) ∧ Hid (NmS w wx rb S a x)) (fun n _ => meaZ n)
        case atStart => exact ⟨0, rfl, .inl rfl, HN6.out⟩
        case round =>
          obtain ⟨v, rfl, rfl | rfl, HN⟩ := hrel
          · skip
            go_wp2_with (first
              | (go_at_call 26; (with_reducible refine (HSEE0.out _ HN.out).mono ?_); rintro e w5 ⟨rfl, h5⟩; have HN5 := Lib.hid (HN.out.under h5); clear h5; have q05 : w5.cell? ⟨rb, 0, none⟩ = some (.string S) := cell_of HN5.out.rr 0; have q15 : w5.cell? ⟨rb, 1, none⟩ = some (.int .i64 a) := cell_of HN5.out.rr 1; simp only [])
              | (go_at_call 53; refine (HDIG.out c0 _).mono ?_; rw [HD0.out]; rintro e w6 ⟨rfl, h6⟩; obtain rfl := h6.symm; simp only []))
            go_loopw [4] (fun n wx => ∃ v : Nat, n = .int .i64 v ∧ v ≤ L ∧ Hid (NmS w wx rb S a x)) (fun n _ => L - (intOf n).toNat)
            case atStart => exact ⟨0, rfl, Nat.zero_le _, HN5.out⟩
            case round =>
              obtain ⟨v, rfl, hv, HN⟩ := hrel
              have hb64 : IntKind.i64.wrap ((v : Int) + 1) = (v : Int) + 1 := IntWalk.i64_in _ (by omega)
              by_cases hlt : v < L
              · have HDG : Hid (Calls Try.prog 53 #[.int .u8 (seeF S (a + v)).toNat] = Calls Try.prog 53 #[.int .u8 (seeF S (a + v)).toNat]) := rfl
                have HDD : Hid (∀ w5, Calls Try.prog 53 #[.int .u8 (seeF S (a + v)).toNat] w5 fun e w' => e = .returned (.bool true) ∧ w' = w5) := fun w5 => by
                  have := HDIG.out (seeF S (a + v)) w5
                  rw [HSTEP.out v hlt] at this; exact this
                go_wp2_with (first
                  | (go_at_call 26; (with_reducible refine (HSEE.out v _ hv HN.out).mono ?_); rintro e w8 ⟨rfl, h8⟩; have HN8 := Lib.hid (HN.out.under h8); clear h8; simp only [])
                  | (go_at_call 53; (with_reducible refine (HDD.out _).mono ?_); rintro e w9 ⟨rfl, h9⟩; obtain rfl := h9.symm; simp only []))
                go_roundw
                case measure => simp [intOf]; omega
                case rel => exact ⟨v + 1, by go_num, by omega, HN8.out⟩
              · obtain rfl : v = L := by omega
                have HDD : Hid (∀ w5, Calls Try.prog 53 #[.int .u8 (seeF S (a + v)).toNat] w5 fun e w' => e = .returned (.bool false) ∧ w' = w5) := fun w5 => by
                  have := HDIG.out (seeF S (a + v)) w5
                  rw [HLAST.out] at this; exact this
                go_wp2_with (first
                  | (go_at_call 26; (with_reducible refine (HSEE.out v _ hv HN.out).mono ?_); rintro e w8 ⟨rfl, h8⟩; have HN8 := Lib.hid (HN.out.under h8); clear h8; simp only [])
                  | (go_at_call 53; (with_reducible refine (HDD.out _).mono ?_); rintro e w9 ⟨rfl, h9⟩; obtain rfl := h9.symm; simp only []))
                go_roundw
                case measure => change meaZ (.int .i64 (v : Nat)) < meaZ (.int .i64 ((0 : Nat) : Int)); rw [meaZ_pos (by omega), meaZ_zero]; omega
                case rel => exact ⟨v, rfl, .inr rfl⟩
          · skip
            have q06 : wr.cell? ⟨rb, 0, none⟩ = some (.string S) := cell_of HN.out.rr 0
            have q16 : wr.cell? ⟨rb, 1, none⟩ = some (.int .i64 a) := cell_of HN.out.rr 1
            go_wp2_with fail
            go_quiet (fail)
            have hbn := drew_below wr nq
            obtain ⟨w7, hw7⟩ : ∃ wv, World.drewN wr nq = wv := ⟨_, rfl⟩
            rw [hw7] at hbn ⊢
            have HN7 := Lib.hid (HN.out.under hbn)
            clear hw7 hbn q06 q16
            have q17 : w7.cell? ⟨rb, 1, none⟩ = some (.int .i64 a) := cell_of HN7.out.rr 1
            have f17 := free_of HN7.out.rr 1
            go_wp2_with fail
            exact HEND.out _ HN7.out
end Go.Proofs.Ytafbheplaheohaa
