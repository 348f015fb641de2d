import Derived.Test.YtkdacdbmlgffgaaP
import Derived.Laws.OwnMore
namespace Go.Proofs.Ytkdacdbmlgffgaa
open Go.RowKit
set_option linter.unusedVariables false

def dcl (u : Nat) : Bs := if h : u < 10 then [UInt8.ofNat (48 + u)] else dcl (u / 10) ++ [UInt8.ofNat (48 + u % 10)]
termination_by u
decreasing_by omega
theorem dcl_small {n : Nat} (h : n < 10) : dcl n = [UInt8.ofNat (48 + n)] := by rw [dcl, dif_pos h]
theorem dcl_big {n : Nat} (h : ¬ n < 10) : dcl n = dcl (n / 10) ++ [UInt8.ofNat (48 + n % 10)] := by rw [dcl, dif_neg h]
theorem dcl_len : ∀ (k n : Nat), n < 10 ^ (k + 1) → (dcl n).length ≤ k + 1
  | k, n, h => by
    by_cases h9 : n < 10
    · rw [dcl_small h9]; simp
    · rw [dcl_big h9]
      cases k with
      | zero => simp at h; omega
      | succ k =>
        rw [Nat.pow_succ] at h
        have := dcl_len k (n / 10) (by omega)
        simp; omega
theorem digit_slice : ∀ k : Fin 10, (⟨#[48, 49, 50, 51, 52, 53, 54, 55, 56, 57]⟩ : ByteArray).extract k.val (k.val + 1) = ⟨#[UInt8.ofNat (48 + k.val)]⟩ := by decide
set_option maxRecDepth 100000 in
set_option maxHeartbeats 2000000 in
theorem RefDigits_any (n : Nat) (hn : n < 9223372036854775808) (w : World) :
    Calls Try.prog 19 #[.int .i64 n] w fun e w' => e = .returned (.string ⟨(dcl n).toArray⟩) ∧ w' = w := by
  induction n using Nat.strongRecOn generalizing w with
  | _ n ih =>
    obtain ⟨R, hR⟩ : ∃ R, dcl n = R := ⟨_, rfl⟩
    rw [hR]
    obtain ⟨k, hk⟩ : ∃ k, n % 10 = k := ⟨_, rfl⟩
    have hk10 : k < 10 := by omega
    have hm : (n : Int) % 10 = (k : Int) := by omega
    have hm2 : (n : Int).tmod 10 = (k : Int) := by rw [Int.tmod_eq_emod_of_nonneg (by omega)]; omega
    have hsl := digit_slice ⟨k, hk10⟩
    simp only at hsl
    obtain ⟨z, hz⟩ : ∃ z : ByteArray, ⟨#[UInt8.ofNat (48 + k)]⟩ = z := ⟨_, rfl⟩
    rw [hz] at hsl
    have HZ := Lib.hid hz
    have HR := Lib.hid hR
    have q1 : (k : Int) ≤ 10 := by omega
    have q2 : (k : Int) + 1 ≤ 10 := by omega
    have q3 : (0 : Int) ≤ (k : Int) := by omega
    have w1 : IntKind.i64.wrap ((k : Int) + 1) = (k : Int) + 1 := by rw [IntKind.wrap_i64]; omega
    have w2 : wrap64 ((k : Int) + 1) = (k : Int) + 1 := by unfold wrap64; omega
    have HK := Lib.hid hk
    by_cases h9 : n < 10
    · have b1 : ¬ (9 : Int) < (n : Int) := by omega
      have HD : Hid (R = [UInt8.ofNat (48 + k)]) := by rw [Hid, ← hR, dcl_small h9, show k = n by omega]
      clear hk hR hz ih
      go_enter Try.func19, Try.ntmps19
      go_wp2_with fail
      go_ret
      exact ⟨by rw [HD.out, ← HZ.out]; rfl, rfl⟩
    · have b1 : (9 : Int) < (n : Int) := by omega
      have HD : Hid (R = dcl (n / 10) ++ [UInt8.ofNat (48 + k)]) := by rw [Hid, ← hR, dcl_big h9, hk]
      obtain ⟨m, hmm⟩ : ∃ m, n / 10 = m := ⟨_, rfl⟩
      rw [hmm] at HD
      have hd2 : (n : Int).tdiv 10 = (m : Int) := by rw [Int.tdiv_eq_ediv_of_nonneg (by omega)]; omega
      have hd3 : (n : Int) / 10 = (m : Int) := by omega
      have hi := ih m (by omega) (by omega) w
      obtain ⟨S, hS⟩ : ∃ S : ByteArray, ⟨(dcl m).toArray⟩ = S := ⟨_, rfl⟩
      have hSs : S.size ≤ 19 := by
        rw [← hS]
        exact dcl_len 18 m (by omega)
      have hzs : z.size = 1 := by rw [← HZ.out]; rfl
      rw [hS] at hi
      have HS := Lib.hid hS
      have w3 : IntKind.i64.wrap (m : Int) = (m : Int) := by rw [IntKind.wrap_i64]; omega
      have w4 : wrap64 (m : Int) = (m : Int) := by unfold wrap64; omega
      have HI := Lib.hid hi
      clear hk hR hz ih hi hmm hS
      go_enter Try.func19, Try.ntmps19
      go_wp2_with fail
      refine HI.out.mono ?_
      rintro e w' ⟨rfl, hw⟩
      obtain rfl := hw.symm
      go_wp2_with fail
      go_ret
      refine ⟨?_, rfl⟩
      rw [HD.out, ← HZ.out, ← HS.out]
      congr 2
/-! Names a0, a1, .. -/
def dcl3 (n : Nat) : Bs := if n < 10 then [UInt8.ofNat (48 + n)] else if n < 100 then [UInt8.ofNat (48 + n / 10), UInt8.ofNat (48 + n % 10)] else [UInt8.ofNat (48 + n / 100), UInt8.ofNat (48 + n / 10 % 10), UInt8.ofNat (48 + n % 10)]
theorem dcl_eq3 {n : Nat} (h : n < 1000) : dcl n = dcl3 n := by
  unfold dcl3
  by_cases h1 : n < 10
  · rw [if_pos h1, dcl_small h1]
  · rw [if_neg h1, dcl_big h1]
    by_cases h2 : n < 100
    · rw [if_pos h2, dcl_small (by omega)]; rfl
    · rw [if_neg h2, dcl_big (by omega), dcl_small (by omega), show n / 10 / 10 = n / 100 by omega]; rfl
def nm (i : Nat) : ByteArray := ⟨(97 :: dcl3 i).toArray⟩
theorem nm_data (i : Nat) : (nm i).data.toList = 97 :: dcl3 i := rfl
theorem nm_ok : ∀ i : Fin 504, okName (nm i.val) = true := by decide +kernel
def back (l : Bs) : Nat := (l.drop 1).foldl (fun a c => a * 10 + (c.toNat - 48)) 0
theorem nm_back : ∀ i : Fin 504, back (97 :: dcl3 i.val) = i.val := by decide +kernel
theorem nm_inj {i j : Nat} (hi : i < 504) (hj : j < 504) (h : (nm i).data.toList = (nm j).data.toList) : i = j := by
  have h1 := nm_back ⟨i, hi⟩
  have h2 := nm_back ⟨j, hj⟩
  rw [nm_data, nm_data] at h
  simp only at h1 h2
  rw [h] at h1
  omega
theorem nm_size : ∀ i : Fin 504, (nm i.val).size ≤ 10 := by decide +kernel
/-- A name is in a list. -/
theorem has_mem {L : List Pr} (hr : Ris L) {x : Bs} : has L x = true ↔ ∃ p ∈ L, p.key = x := by
  constructor
  · intro h
    obtain ⟨hl, hk⟩ := has_iff.1 h
    exact ⟨_, List.getElem_mem hl, hk⟩
  · rintro ⟨p, hp, rfl⟩
    obtain ⟨j, hj, rfl⟩ := List.mem_iff_getElem.1 hp
    exact has_of_mem hr hj
theorem mem_setL {L : List Pr} (hr : Ris L) (n v : ByteArray) (x : Bs) : (∃ p ∈ setL L n v, p.key = x) ↔ x = n.data.toList ∨ ∃ p ∈ L, p.key = x := by
  cases h : has L n.data.toList with
  | true =>
    obtain ⟨hl, hk⟩ := has_iff.1 h
    rw [setL_has h]
    constructor
    · rintro ⟨p, hp, rfl⟩
      rcases List.mem_or_eq_of_mem_set hp with hp | rfl
      · exact .inr ⟨p, hp, rfl⟩
      · exact .inl rfl
    · rintro (rfl | ⟨p, hp, rfl⟩)
      · exact ⟨⟨n, v⟩, List.mem_set hl _, rfl⟩
      · obtain ⟨j, hj, rfl⟩ := List.mem_iff_getElem.1 hp
        by_cases e : pos L n.data.toList = j
        · refine ⟨⟨n, v⟩, List.mem_set hl _, ?_⟩
          have hk2 : L[j].key = n.data.toList := by simp only [← e]; exact hk
          exact hk2.symm
        · refine ⟨(L.set (pos L n.data.toList) ⟨n, v⟩)[j]'(by simpa using hj), List.getElem_mem _, ?_⟩
          rw [List.getElem_set_ne e]
  | false =>
    rw [setL_new h]
    simp only [List.mem_append, List.mem_singleton]
    constructor
    · rintro ⟨p, (hp | rfl) | hp, rfl⟩
      · exact .inr ⟨p, List.mem_of_mem_take hp, rfl⟩
      · exact .inl rfl
      · exact .inr ⟨p, List.mem_of_mem_drop hp, rfl⟩
    · rintro (rfl | ⟨p, hp, rfl⟩)
      · exact ⟨⟨n, v⟩, .inl (.inr rfl), rfl⟩
      · rw [← List.take_append_drop (pos L n.data.toList) L] at hp
        rcases List.mem_append.1 hp with hp | hp
        · exact ⟨p, .inl (.inl hp), rfl⟩
        · exact ⟨p, .inr hp, rfl⟩
theorem has_setL {L : List Pr} (hr : Ris L) (n v : ByteArray) (x : Bs) : has (setL L n v) x = (decide (x = n.data.toList) || has L x) := by
  rw [Bool.eq_iff_iff, has_mem (ris_set hr n v), mem_setL hr, Bool.or_eq_true, decide_eq_true_iff, has_mem hr]
/-- What has been set behind k rounds. -/
structure Full (L : List Pr) (k : Nat) : Prop where
  ris : Ris L
  len : L.length = min k 500
  keys : ∀ j, j < 504 → has L (nm j).data.toList = decide (j < min k 500)
theorem Full.zero : Full [] 0 := ⟨by simp, by simp, fun j _ => by simp [has]⟩
def vx : ByteArray := ⟨#[120]⟩
theorem vx_ok : decide (0 ≤ Lib.indexByte vx.data.toList 0) = false := by decide +kernel
theorem Full.next {L : List Pr} {k : Nat} (h : Full L k) (hk : k < 504) : setE L (nm k) vx = (if 500 ≤ k then 3 else 0) ∧ Full (setR L (nm k) vx) (k + 1) := by
  have hh := h.keys k hk
  have hl := h.len
  have hE : setE L (nm k) vx = if 500 ≤ k then 3 else 0 := by
    unfold setE
    rw [if_pos ⟨nm_ok ⟨k, hk⟩, vx_ok⟩, hh, hl]
    have h1 : ¬ 4096 < vx.size := by decide
    by_cases h5 : 500 ≤ k
    · rw [if_pos h5, if_pos (.inr ⟨decide_eq_false (by omega), by omega⟩)]
    · rw [if_neg h5, if_neg]
      rintro (h2 | ⟨_, h2⟩)
      · exact h1 h2
      · omega
  refine ⟨hE, ?_⟩
  unfold setR
  rw [hE]
  by_cases h5 : 500 ≤ k
  · rw [if_pos h5, if_neg (by decide)]
    refine ⟨h.ris, by rw [hl]; omega, fun j hj => by rw [h.keys j hj]; congr 1; rw [eq_iff_iff]; omega⟩
  · rw [if_neg h5, if_pos rfl]
    refine ⟨ris_set h.ris _ _, ?_, fun j hj => ?_⟩
    · rw [setL_len, hh, hl, decide_eq_false (by omega)]; simp; omega
    · rw [has_setL h.ris, h.keys j hj, Bool.eq_iff_iff, Bool.or_eq_true, decide_eq_true_iff, decide_eq_true_iff, decide_eq_true_iff]
      constructor
      · rintro (e | e)
        · have := nm_inj hj hk e; omega
        · omega
      · intro e
        by_cases hjk : j = k
        · subst hjk; exact .inl rfl
        · exact .inr (by omega)
end Go.Proofs.Ytkdacdbmlgffgaa
