import Derived.Test.YthbemfpoanmjcaaDoorC
namespace Go.Proofs.YthbemfpoanmjcaaDoor
open Go.RowKit
set_option linter.unusedVariables false

abbrev mk (l : Bs) : ByteArray := ⟨l.toArray⟩
theorem mk_list (l : Bs) : (mk l).data.toList = l := rfl
theorem mk_of {s : ByteArray} {l : Bs} (h : s.data.toList = l) : mk l = s := ba_ext h.symm
theorem Blank_any (x : Nat) (w : World) : Calls Tryd.prog 71 #[.int .u8 x] w fun e w' => e = .returned (.bool (x == 32 || x == 9)) ∧ w' = w := by
  have h1 : ((x : Int) == 32) = (x == 32) := by rw [Bool.eq_iff_iff]; simp; omega
  have h2 : ((x : Int) == 9) = (x == 9) := by rw [Bool.eq_iff_iff]; simp; omega
  cases hx : x == 32 with
  | true =>
    rw [hx] at h1
    clear hx
    go_enter Tryd.func71, Tryd.ntmps71
    go_wp2_with fail
    go_ret
    exact ⟨rfl, rfl⟩
  | false =>
    rw [hx] at h1
    clear hx
    obtain ⟨r, hr⟩ : ∃ r, (x == 9) = r := ⟨_, rfl⟩
    rw [hr] at h2 ⊢
    clear hr
    go_enter Tryd.func71, Tryd.ntmps71
    go_wp2_with fail
    go_ret
    exact ⟨by simp, rfl⟩
theorem Space_any (x : Nat) (w : World) : Calls Tryd.prog 62 #[.int .u8 x] w fun e w' => e = .returned (.bool (sepR x)) ∧ w' = w := by
  have h3 : ((x : Int) == 10) = (x == 10) := by rw [Bool.eq_iff_iff]; simp; omega
  have HB := Lib.hid (Blank_any x w)
  unfold sepR
  obtain ⟨q, hq⟩ : ∃ q, (x == 32 || x == 9) = q := ⟨_, rfl⟩
  rw [hq] at HB ⊢
  obtain ⟨r, hr⟩ : ∃ r, (x == 10) = r := ⟨_, rfl⟩
  rw [hr] at h3 ⊢
  clear hq hr
  cases q with
  | true =>
    go_enter Tryd.func62, Tryd.ntmps62
    go_wp2_with (go_at_call 71; refine HB.out.mono ?_; rintro e w5 ⟨rfl, h5⟩; obtain rfl := h5.symm; simp only [])
    go_ret
    exact ⟨by simp, rfl⟩
  | false =>
    go_enter Tryd.func62, Tryd.ntmps62
    go_wp2_with (go_at_call 71; refine HB.out.mono ?_; rintro e w5 ⟨rfl, h5⟩; obtain rfl := h5.symm; simp only [])
    go_ret
    exact ⟨by simp, rfl⟩
theorem sep_closure (x : Nat) (w : World) : Calls Tryd.prog 61 #[.int .i32 x] w fun e w' => e = .returned (.bool (sepR x)) ∧ w' = w := by
  have HS := Lib.hid (Space_any x w)
  obtain ⟨q, hq⟩ : ∃ q, sepR x = q := ⟨_, rfl⟩
  rw [hq] at HS ⊢
  by_cases hx : x < 128
  · have hd : decide ((x : Int) < 128) = true := decide_eq_true (by omega)
    have hw : IntKind.u8.wrap (x : Int) = (x : Int) := by
      rw [IntKind.wrap]; simp [IntKind.signed, IntKind.bits]; omega
    clear hq
    go_enter Tryd.func61, Tryd.ntmps61
    go_wp2_with (go_at_call 62; refine HS.out.mono ?_; rintro e w5 ⟨rfl, h5⟩; obtain rfl := h5.symm; simp only [])
    go_ret
    exact ⟨rfl, rfl⟩
  · have hd : decide ((x : Int) < 128) = false := decide_eq_false (by omega)
    obtain rfl : q = false := by rw [← hq]; exact sepR_big (by omega) (by omega)
    clear hq
    go_enter Tryd.func61, Tryd.ntmps61
    go_wp2_with fail
    go_ret
    exact ⟨rfl, rfl⟩
def WordsP (w : World) (s : ByteArray) (e : Ending) (w' : World) : Prop := ∃ v, e = .returned v ∧ Wn w w' v (wordsB s)
theorem e61 : ∀ args w, (callFunc 61 args).run Tryd.prog w = .ok (.enter 61 args) w := enters_of Tryd.func61 (by kernel_rfl) rfl
set_option maxRecDepth 100000 in
set_option maxHeartbeats 8000000 in
theorem Words_any (s : ByteArray) (w : World) (hs : s.size ≤ 1000000) : Calls Tryd.prog 52 #[.string s] w (WordsP w s) := by
  have hp : PredAtRunes Tryd.prog 61 #[] sepR w := fun W x hx hb => by
    refine Calls.mono (sep_closure x W) ?_
    rintro e w' ⟨h1, h2⟩
    exact ⟨h1, 0, by rw [h2]; exact (World.drewN_zero _).symm⟩
  have hc := Tryd.strings_FieldsFunc_runes 61 #[] e61 sepR s w (by omega) hp
  rw [goFieldsP_sep] at hc
  have HC : Hid (Calls Tryd.prog 60 #[.string s, .func (.func 61) #[] #[]] w (WordsP w s)) := by
    refine Calls.mono hc ?_
    rintro e w' ⟨A, h1, _, h2, h3⟩
    exact ⟨_, h1, ⟨h2, h3⟩⟩
  clear hc hp
  go_enter Tryd.func52, Tryd.ntmps52
  go_wp2_with (go_at_call 60; refine HC.out.mono ?_)
  rintro e w5 ⟨v, rfl, hW⟩
  have HW := Lib.hid hW
  clear hW
  simp only []
  go_wp2_with fail
  go_ret
  exact ⟨v, rfl, HW.out⟩

theorem cut_le (s : Bs) (sep : Bs) : (Lib.cut s sep).1.length ≤ s.length ∧ (Lib.cut s sep).2.1.length ≤ s.length := by
  unfold Lib.cut
  split
  · exact ⟨by rw [List.length_take]; omega, by rw [List.length_drop]; omega⟩
  · exact ⟨Nat.le_refl _, Nat.zero_le _⟩
theorem Is_any (p : ByteArray) (w : World) : Calls Tryd.prog 54 #[.string p] w fun e w' => e = .returned (.bool (decide (0 ≤ Lib.indexByte p.data.toList 37))) ∧ w' = w := by
  have HC := Lib.hid (Tryd.strings_Contains_one p 37 w)
  obtain ⟨t, ht⟩ : ∃ t, decide (0 ≤ Lib.indexByte p.data.toList 37) = t := ⟨_, rfl⟩
  rw [ht] at HC ⊢
  clear ht
  go_enter Tryd.func54, Tryd.ntmps54
  go_wp2_with (go_at_call 65; refine HC.out.mono ?_; rintro e w5 ⟨rfl, h5⟩; obtain rfl := h5.symm; simp only [])
  go_ret
  exact ⟨rfl, rfl⟩
theorem Fill_any (p s : ByteArray) (m : Int) (w : World) (hm : w.cell? ⟨0, 0, none⟩ = some (.int .i64 m)) (hp1 : p.size ≤ 1000000) (hs1 : s.size ≤ 1000000) :
    Calls Tryd.prog 56 #[.string p, .string s] w fun e w' => e = .returned (.string (mk (Lib.replace p.data.toList [37] s.data.toList 1))) ∧ Below w.heap.size w w' := by
  have hc := Lib.countB_le (mk [37]) (by decide) p.size p (Nat.le_refl _)
  have hlen : p.size + Lib.countB p (mk [37]) * s.size ≤ 140737488355328 := by
    have : Lib.countB p (mk [37]) * s.size ≤ 1000000 * 1000000 := Nat.mul_le_mul (by omega) hs1
    omega
  have HC : Hid (Calls Tryd.prog 67 #[.string p, .string ⟨#[37]⟩, .string s, .int .i64 1] w fun e w' => e = .returned (.string (mk (Lib.replace p.data.toList [37] s.data.toList 1))) ∧ Below w.heap.size w w') := Tryd.strings_Replace p (mk [37]) s 1 m w (by omega) hm (by decide) hlen
  obtain ⟨t, ht⟩ : ∃ t, mk (Lib.replace p.data.toList [37] s.data.toList 1) = t := ⟨_, rfl⟩
  rw [ht] at HC ⊢
  clear ht hlen hc hm
  go_enter Tryd.func56, Tryd.ntmps56
  go_wp2_with (go_at_call 67; refine HC.out.mono ?_; rintro e w5 ⟨rfl, h5⟩; have HB := Lib.hid h5; clear h5; simp only [])
  go_ret
  exact ⟨rfl, HB.out⟩
set_option maxRecDepth 100000 in
set_option maxHeartbeats 4000000 in
theorem Match_any (p s : ByteArray) (m : Int) (w : World) (hm : w.cell? ⟨0, 0, none⟩ = some (.int .i64 m)) (hp1 : p.size ≤ 1000000) (hs1 : s.size ≤ 1000000) :
    Calls Tryd.prog 53 #[.string p, .string s] w fun e w' => e = .returned (.tuple #[.string (mk (matchF p.data.toList s.data.toList).1), .bool (matchF p.data.toList s.data.toList).2]) ∧ ∃ n, w' = w.drewN n := by
  have hcl := cut_le p.data.toList [37]
  have hc : Calls Tryd.prog 41 #[.string p, .string ⟨#[37]⟩] w fun e w' => e = .returned (.tuple #[.string ⟨(Lib.cut p.data.toList [37]).1.toArray⟩, .string ⟨(Lib.cut p.data.toList [37]).2.1.toArray⟩, .bool (Lib.cut p.data.toList [37]).2.2]) ∧ ∃ n, w' = w.drewN n := Tryd.strings_Cut p (mk [37]) m w (by omega) hm
  obtain ⟨R, hR⟩ : ∃ R, matchF p.data.toList s.data.toList = R := ⟨_, rfl⟩
  have hm2 := hR
  unfold matchF at hm2
  rw [hR]
  obtain ⟨⟨a, b, ok⟩, hC⟩ : ∃ C, Lib.cut p.data.toList [37] = C := ⟨_, rfl⟩
  rw [hC] at hc hm2 hcl
  dsimp only at hc hm2 hcl
  rw [dl] at hcl
  obtain ⟨F, hF⟩ : ∃ F : ByteArray, (⟨a.toArray⟩ : ByteArray) = F := ⟨_, rfl⟩
  obtain ⟨G, hG⟩ : ∃ G : ByteArray, (⟨b.toArray⟩ : ByteArray) = G := ⟨_, rfl⟩
  rw [hF, hG] at hc
  have hFl : F.size = a.length := by rw [← hF, sz_mk]
  have hGl : G.size = b.length := by rw [← hG, sz_mk]
  have hFd : F.data.toList = a := by rw [← hF]
  have hGd : G.data.toList = b := by rw [← hG]
  have HC := Lib.hid hc
  clear hc hR hC hF hG hm
  cases ok with
  | false =>
    rw [if_pos rfl] at hm2
    have hse := str_eq p s
    obtain ⟨t, ht⟩ : ∃ t, (p.data.toList == s.data.toList) = t := ⟨_, rfl⟩
    rw [ht] at hm2 hse
    subst hm2
    clear ht
    clear hFl hGl hFd hGd hcl
    go_enter Tryd.func53, Tryd.ntmps53
    go_wp2_with (go_at_call 41; refine HC.out.mono ?_; rintro e w5 ⟨rfl, n5, h5⟩; obtain rfl := h5.symm; simp only [])
    go_ret2
    exact ⟨rfl, _, rfl⟩
  | true =>
    rw [if_neg (by decide)] at hm2
    have hb : IntKind.i64.wrap ((F.size : Int) + (G.size : Int)) = (F.size : Int) + (G.size : Int) := IntWalk.i64_in _ (by omega)
    have HP := Lib.hid (fun w => Tryd.strings_HasPrefix s F w)
    have HS := Lib.hid (fun w => Tryd.strings_HasSuffix s G w (by omega))
    rw [hFd] at HP
    rw [hGd] at HS
    by_cases h1 : s.size ≤ F.size + G.size
    · have d1 : decide ((s.size : Int) ≤ (F.size : Int) + (G.size : Int)) = true := decide_eq_true (by omega)
      rw [if_pos (.inl (by rw [dl]; omega))] at hm2
      subst hm2
      clear hFl hGl hFd hGd hcl
      go_enter Tryd.func53, Tryd.ntmps53
      go_wp2_with (go_at_call 41; refine HC.out.mono ?_; rintro e w5 ⟨rfl, n5, h5⟩; obtain rfl := h5.symm; simp only [])
      go_ret2
      exact ⟨rfl, _, rfl⟩
    have d1 : decide ((s.size : Int) ≤ (F.size : Int) + (G.size : Int)) = false := decide_eq_false (by omega)
    cases h2 : Lib.hasPrefix s.data.toList a with
    | false =>
      rw [if_pos (.inr (.inl h2))] at hm2
      subst hm2
      rw [h2] at HP
      clear hFl hGl hFd hGd hcl h2
      go_enter Tryd.func53, Tryd.ntmps53
      go_wp2_with (first
        | (go_at_call 41; refine HC.out.mono ?_; rintro e w5 ⟨rfl, n5, h5⟩; obtain rfl := h5.symm; simp only [])
        | (go_at_call 63; refine (HP.out _).mono ?_; rintro e w6 ⟨rfl, h6⟩; obtain rfl := h6.symm; simp only []))
      go_ret2
      exact ⟨rfl, _, rfl⟩
    | true =>
      rw [h2] at HP
      cases h3 : Lib.hasSuffix s.data.toList b with
      | false =>
        rw [if_pos (.inr (.inr h3))] at hm2
        subst hm2
        rw [h3] at HS
        clear hFl hGl hFd hGd hcl h2 h3
        go_enter Tryd.func53, Tryd.ntmps53
        go_wp2_with (first
          | (go_at_call 41; refine HC.out.mono ?_; rintro e w5 ⟨rfl, n5, h5⟩; obtain rfl := h5.symm; simp only [])
          | (go_at_call 63; refine (HP.out _).mono ?_; rintro e w6 ⟨rfl, h6⟩; obtain rfl := h6.symm; simp only [])
          | (go_at_call 64; refine (HS.out _).mono ?_; rintro e w6 ⟨rfl, h6⟩; obtain rfl := h6.symm; simp only []))
        go_ret2
        exact ⟨rfl, _, rfl⟩
      | true =>
        rw [if_neg (by rw [h2, h3, dl]; simp; omega)] at hm2
        rw [h3] at HS
        obtain ⟨q, hq⟩ : ∃ q : Nat, s.size - G.size = q := ⟨_, rfl⟩
        have hw1 : IntKind.i64.wrap ((s.size : Int) - (G.size : Int)) = (q : Int) := by rw [IntWalk.i64_in _ (by omega)]; omega
        have hq1 : (F.size : Int) ≤ (q : Int) := by omega
        have hq2 : (q : Int) ≤ (s.size : Int) := by omega
        have HE : Hid (mk ((s.data.toList.take (s.data.toList.length - b.length)).drop a.length) = s.extract F.size q) := by
          refine mk_of ?_
          rw [(ext_dt (by omega) (by omega)).1, dl, hFl, ← hGl, hq]
        have hr1 : mk R.1 = s.extract F.size q := by rw [← hm2]; exact HE.out
        have hr2 : R.2 = true := by rw [← hm2]
        rw [hr1, hr2]
        clear hFl hGl hFd hGd hcl h2 h3 hq hr1 hr2 hm2 HE
        go_enter Tryd.func53, Tryd.ntmps53
        go_wp2_with (first
          | (go_at_call 41; refine HC.out.mono ?_; rintro e w5 ⟨rfl, n5, h5⟩; obtain rfl := h5.symm; simp only [])
          | (go_at_call 63; refine (HP.out _).mono ?_; rintro e w6 ⟨rfl, h6⟩; obtain rfl := h6.symm; simp only [])
          | (go_at_call 64; refine (HS.out _).mono ?_; rintro e w6 ⟨rfl, h6⟩; obtain rfl := h6.symm; simp only []))
        go_ret2
        exact ⟨rfl, _, rfl⟩
end Go.Proofs.YthbemfpoanmjcaaDoor
