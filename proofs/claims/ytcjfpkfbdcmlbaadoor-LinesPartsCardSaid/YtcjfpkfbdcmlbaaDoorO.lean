import Derived.Test.YtcjfpkfbdcmlbaaDoorM
import Derived.Test.YtcjfpkfbdcmlbaaDoorN
import Derived.Laws.AppendOwnNone
namespace Go.Proofs.YtcjfpkfbdcmlbaaDoor
open Go.RowKit
set_option linter.unusedVariables false

theorem ext_from (s : ByteArray) (n : Nat) : (s.extract n s.size).data.toList = s.data.toList.drop n := Lib.extract_to_end s n
theorem ends_eq (s x : ByteArray) (h : x.size ≤ s.size) : ((s.extract (s.size - x.size) s.size).toList == x.toList) = Lib.hasSuffix s.data.toList x.data.toList := by
  rw [Lib.toList_data, Lib.toList_data, ext_from, Bool.eq_iff_iff]
  unfold Lib.hasSuffix
  rw [List.isSuffixOf_iff_suffix, beq_iff_eq]
  constructor
  · intro e; rw [← e]; exact List.drop_suffix _ _
  · rintro ⟨u, hu⟩
    have hl : s.size - x.size = u.length := by
      have := congrArg List.length hu
      rw [List.length_append, dl, dl] at this; omega
    rw [hl, ← hu]; simp
theorem ends_short (s x : ByteArray) (h : ¬ x.size ≤ s.size) : Lib.hasSuffix s.data.toList x.data.toList = false := by
  rw [Bool.eq_false_iff]
  intro e
  unfold Lib.hasSuffix at e
  obtain ⟨u, hu⟩ := List.isSuffixOf_iff_suffix.1 e
  have := congrArg List.length hu
  rw [List.length_append, dl, dl] at this; omega
set_option maxHeartbeats 1000000 in
theorem Ends_any (s x : ByteArray) (w : World) (hs : s.size ≤ 1000000) (r : Bool) (hr : Hid (Lib.hasSuffix s.data.toList x.data.toList = r)) : Calls Tryd.prog 14 #[.string s, .string x] w fun e w' => e = .returned (.bool r) ∧ w' = w := by
  by_cases h : x.size ≤ s.size
  · have hd : decide ((x.size : Int) ≤ (s.size : Int)) = true := decide_eq_true (by omega)
    have HE := Lib.hid (ends_eq s x h)
    obtain ⟨n, hn⟩ : ∃ n, s.size - x.size = n := ⟨_, rfl⟩
    rw [hn] at HE
    have hb : IntKind.i64.wrap ((s.size : Int) - (x.size : Int)) = (n : Int) := by rw [IntWalk.i64_in _ (by omega)]; omega
    have hn0 : (0 : Int) ≤ (n : Int) := by omega
    have hnI : (n : Int) ≤ (s.size : Int) := by omega
    clear hn
    go_enter Tryd.func14, Tryd.ntmps14
    go_wp2_with fail
    go_ret
    refine ⟨?_, rfl⟩
    rw [HE.out, hr.out]; rfl
  · have hd : decide ((x.size : Int) ≤ (s.size : Int)) = false := decide_eq_false (by omega)
    have HE := Lib.hid (ends_short s x h)
    obtain rfl : false = r := by rw [← hr.out]; exact HE.out.symm
    go_enter Tryd.func14, Tryd.ntmps14
    go_wp2_with fail
    go_ret
    exact ⟨rfl, rfl⟩
/-- Two rows, one behind the other. -/
theorem Ls.cat {w0 w : World} {vx vy : Value} {X Y : List LB} (h : Ls w0 w vx X) {wy : World} (hyo : Ls wy w vy Y) (hX : X.length ≤ 20000) (hY : Y.length ≤ 20000) :
    ∃ v8 w8, (Builtin.append_ #[23, 23] 23 #[vx, vy]).run Tryd.prog w = .ok v8 w8 ∧ Ls w0 w8 v8 (X ++ Y) ∧ Only (fun i => vx.ownBlock = some i) w w8 := by
  obtain ⟨i0, hi, hz0, hz1, hz2⟩ := info_parts info37
  have hnone : vy = .slice none 0 0 ∨ 0 < Y.length ∨ ∃ ad c, vy = .slice (some ad) 0 c ∧ Y = [] := by
    cases Y with
    | cons y Y => exact .inr (.inl (by simp))
    | nil =>
      rcases hyo.own.2 with ⟨h1, _⟩ | ⟨b, cap, cur, h1, _⟩
      · exact .inl h1
      · exact .inr (.inr ⟨_, _, h1, rfl⟩)
  have hy := hyo.sl
  by_cases hne : 0 < Y.length
  case neg =>
    have hYY : Y = [] := List.eq_nil_of_length_eq_zero (by omega)
    subst hYY
    rcases hnone with rfl | hn | ⟨ad, c, rfl, _⟩
    · exact ⟨vx, w, run_append_owned_none (P := Tryd.prog) (w := w) w0.heap.size 23 23 37 i0 2 Tryd.underlying23 hi vx X.length (lcs X) h.own, by rw [List.append_nil]; exact h, Only.refl _ _⟩
    · exact absurd hn hne
    · obtain ⟨v', w', h2, h3, h4, _⟩ := run_append_own (P := Tryd.prog) w w0.heap.size 23 23 37 i0 _ 2 24 Tryd.underlying23 hi hz0 hz1 hz2 rfl (by decide) vx X.length (lcs X) h.own ad 0 c [] rfl (fun j u hj => by simp at hj) (fun u hu => by cases hu) (by unfold maxLen; omega) (by omega) h.old.size
      refine ⟨v', w', h2, ⟨by simpa using h3, ?_⟩, Only.of_grown h4 (fun k hk => hk)⟩
      exact h.old.trans ((Only.of_grown (S := fun i => vx.ownBlock = some i) h4 (fun k hk => hk)).below (fun k hk => (h.own.lt k hk).1) h.old.size)
  case pos =>
    obtain ⟨a, c, rfl, hc⟩ := hy.form
    clear hnone
    obtain ⟨b, off, rfl, _, _, _⟩ := hc 0 hne
    obtain ⟨v', w', h2, h3, h4, _⟩ := run_append_own (P := Tryd.prog) w w0.heap.size 23 23 37 i0 _ 2 24 Tryd.underlying23 hi hz0 hz1 hz2 rfl (by decide) vx X.length (lcs X) h.own ⟨b, off, none⟩ Y.length c (lcs Y) (lcs_len Y) (fun j u hj => by
      have hj2 : j < Y.length * 2 := by rw [← lcs_len]; exact (List.getElem?_eq_some_iff.1 hj).1
      have hk : j / 2 < Y.length := by omega
      obtain ⟨b', off', e1, _, q0, q1⟩ := hc (j / 2) hk
      injection e1 with e1
      injection e1 with e2 e3 _
      subst e2
      subst e3
      rw [addn]
      have hat := lcs_at Y (j / 2) (j % 2) hk (by omega)
      rw [show j / 2 * 2 + j % 2 = j by omega, hj] at hat
      rcases Nat.mod_two_eq_zero_or_one j with h0 | h0
      · rw [h0] at hat
        rw [show off + j = off + j / 2 * 2 by omega, q0]; exact hat.symm
      · rw [h0] at hat
        rw [show off + j = off + j / 2 * 2 + 1 by omega, q1]; exact hat.symm) (fun u hu => by
      unfold lcs at hu
      obtain ⟨p, _, hp⟩ := List.mem_flatMap.1 hu
      simp only [LB.cs, List.mem_cons, List.not_mem_nil, or_false] at hp
      rcases hp with rfl | rfl <;> rfl) (by unfold maxLen; omega) (by omega) h.old.size
    refine ⟨v', w', h2, ⟨by rw [lcs_app, List.length_append]; exact h3, ?_⟩, Only.of_grown h4 (fun k hk => hk)⟩
    exact h.old.trans ((Only.of_grown (S := fun i => vx.ownBlock = some i) h4 (fun k hk => hk)).below (fun k hk => (h.own.lt k hk).1) h.old.size)
end Go.Proofs.YtcjfpkfbdcmlbaaDoor
