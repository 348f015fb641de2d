import Derived.Test.YthbemfpoanmjcaaDoorBI
import Derived.Test.YthbemfpoanmjcaaDoorO
namespace Go.Proofs.YthbemfpoanmjcaaDoor
open Go.RowKit
set_option linter.unusedVariables false

set_option maxRecDepth 100000 in
set_option maxHeartbeats 4000000 in
theorem expand_41 (eb : Nat) (wv : Value) (s : ByteArray) (w : World) : Calls Tryd.prog 24 #[.pointer (some ⟨eb, 0, none⟩), .string s, wv, .int .i64 41] w fun e w' => e = .returned (.tuple #[.string ⟨#[]⟩, .int .i64 3]) ∧ w' = w := by
  obtain ⟨q, hq⟩ : ∃ q, decide ((16384 : Int) < (s.size : Int)) = q := ⟨_, rfl⟩
  cases q <;>
  · go_enter Tryd.func24, Tryd.ntmps24
    go_wp2_with fail
    go_ret2
    exact ⟨rfl, rfl⟩
set_option maxRecDepth 100000 in
set_option maxHeartbeats 4000000 in
theorem reference_40 (eb : Nat) (lv av : Value) (l au : Prs) (cnt : Nat) (wv : Value) (op : List ByteArray) (s : ByteArray) (P : Bs → Nat → Prop) (w : World) (hE : ExR eb w lv av l au cnt) (hT : Txt w wv op) :
    Calls Tryd.prog 36 #[.pointer (some ⟨eb, 0, none⟩), .string s, wv, .int .i64 40] w (XP eb w lv av l au P) := by
  have HC := Lib.hid (expand_41 eb wv s)
  have HEND : Hid (XP eb w lv av l au P (.returned (.tuple #[.string ⟨#[]⟩, .int .i64 3])) w) := XP.bad hE (Only.refl _ _) (by decide)
  clear hE hT
  go_enter Tryd.func36, Tryd.ntmps36
  go_wp2_with (go_at_call 24; refine (HC.out _).mono ?_; rintro e w5 ⟨rfl, h5⟩; obtain rfl := h5.symm; simp only [])
  go_ret2
  exact HEND.out
theorem one_refer {l au : List Pr} {ex : List Bs → Bs → Nat → R} {op : List Bs} {x : Bs} {c0 : Nat} (hc : c0 + 1 ≤ 10000) (hx : x.length = 1) : referF l au ex op x c0 = valueF l au ex op x (c0 + 1) := by
  unfold referF
  rw [if_neg (by omega), if_pos hx]
/-- The reference's expansions, at every depth. -/
theorem expands_r (eb : Nat) (lv av : Value) (l au : Prs) (hau : ∀ p ∈ au, p.2.size ≤ 20000) : ∀ (d ne : Nat), ne + d = 40 → ∀ (w : World) (cnt : Nat) (wv : Value) (op : List ByteArray) (s : ByteArray), ExR eb w lv av l au cnt → cnt ≤ 10000 → Txt w wv op → op.length ≤ ne →
    Calls Tryd.prog 24 #[.pointer (some ⟨eb, 0, none⟩), .string s, wv, .int .i64 ne] w (XP eb w lv av l au (fun t c => t.length ≤ 16384 ∧ expandF (bsl l) (bsl au) d (dd op) s.data.toList cnt = ((t, 0), c)))
  | 0, ne, hd, w, cnt, wv, op, s, hE, hc, hT, hop => by
    obtain rfl : ne = 40 := by omega
    rw [show (fun (t : Bs) (c : Nat) => t.length ≤ 16384 ∧ expandF (bsl l) (bsl au) 0 (dd op) s.data.toList cnt = ((t, 0), c)) = (fun (t : Bs) (c : Nat) => t.length ≤ 16384 ∧ (if 16384 < s.data.toList.length then (([], 3), cnt) else piecesF (fun _ c => (([], 3), c + 1)) (s.data.toList.length + 1) s.data.toList [] cnt) = ((t, 0), c)) from rfl]
    exact expand_r eb lv av l au (fun _ c => (([], 3), c + 1)) 40 (Nat.le_refl _) wv op (fun w1 c0 s1 T h1 h2 h3 h4 h5 => reference_40 eb lv av l au (c0 + 1) wv op s1 _ w1 h1 h3) (fun h => absurd h (by omega)) w cnt s hE hc hT
  | d + 1, ne, hd, w, cnt, wv, op, s, hE, hc, hT, hop => by
    have hne : ne < 40 := by omega
    have HX : NextX eb lv av l au (expandF (bsl l) (bsl au) d) ne := fun w1 c1 wv1 op1 s1 h1 h2 h3 h4 => by
      have := expands_r eb lv av l au hau d (ne + 1) (by omega) w1 c1 wv1 op1 s1 h1 h2 h3 h4
      exact this
    rw [show (fun (t : Bs) (c : Nat) => t.length ≤ 16384 ∧ expandF (bsl l) (bsl au) (d + 1) (dd op) s.data.toList cnt = ((t, 0), c)) = (fun (t : Bs) (c : Nat) => t.length ≤ 16384 ∧ (if 16384 < s.data.toList.length then (([], 3), cnt) else piecesF (referF (bsl l) (bsl au) (expandF (bsl l) (bsl au) d) (dd op)) (s.data.toList.length + 1) s.data.toList [] cnt) = ((t, 0), c)) from rfl]
    refine expand_r eb lv av l au _ ne (by omega) wv op (fun w1 c0 s1 T h1 h2 h3 h4 h5 => reference_r eb lv av l au _ ne hne HX hau w1 (c0 + 1) c0 wv op s1 T h1 h2 h3 hop h4 h5 rfl) (fun _ w1 c0 x h1 h2 h3 h4 => ?_) w cnt s hE hc hT
    refine (value_r eb lv av l au _ ne hne HX hau w1 (c0 + 1) wv op x h1 h2 h3 hop).mono fun e w' h => h.mono (Only.refl _ _) (fun t c hv => .inl ?_)
    rw [one_refer h2 (by rw [dl]; exact h4)]
    exact hv.2
def RefX (w : World) (l au : Prs) (s : ByteArray) (e : Ending) (w' : World) : Prop :=
  ∃ (t : ByteArray) (er : Int), e = .returned (.tuple #[.string t, .int .i64 er]) ∧ Below w.heap.size w w' ∧ (er = 0 → t.size ≤ 16384 ∧ ∃ c, c ≤ 10000 ∧ expandF (bsl l) (bsl au) 40 [] s.data.toList 0 = ((t.data.toList, 0), c))
set_option maxRecDepth 100000 in
set_option maxHeartbeats 4000000 in
theorem RefExpand_any (lv av : Value) (l au : Prs) (hau : ∀ p ∈ au, p.2.size ≤ 20000) (w : World) (s : ByteArray) (hl : PV w.heap.size w lv l) (ha : PV w.heap.size w av au) :
    Calls Tryd.prog 17 #[.string s, lv, av] w (RefX w l au s) := by
  obtain ⟨lo, lc, rfl⟩ := hl.form
  obtain ⟨ao, ac, rfl⟩ := ha.form
  have hb : Below w.heap.size w (w.alloc (.cells #[.slice lo l.length lc, .slice ao au.length ac, .int .i64 0] 52)) := (Below.refl _ _).alloc (Nat.le_refl _) _
  have hex : ExR w.heap.size (w.alloc (.cells #[.slice lo l.length lc, .slice ao au.length ac, .int .i64 0] 52)) (.slice lo l.length lc) (.slice ao au.length ac) l au 0 :=
    ⟨heap_alloc_new w _, hl.mono hb (Nat.le_refl _), ha.mono hb (Nat.le_refl _)⟩
  have hnil : Txt (w.alloc (.cells #[.slice lo l.length lc, .slice ao au.length ac, .int .i64 0] 52)) (.slice none 0 0) [] := ⟨none, 0, rfl, fun i hi => absurd hi (by simp)⟩
  have hcall := expands_r w.heap.size _ _ l au hau 40 0 rfl _ 0 (.slice none 0 0) [] s hex (by omega) hnil (Nat.le_refl _)
  have HC : Hid (Calls Tryd.prog 24 #[.pointer (some ⟨w.heap.size, 0, none⟩), .string s, .slice none 0 0, .int .i64 0] (w.alloc (.cells #[.slice lo l.length lc, .slice ao au.length ac, .int .i64 0] 52)) (RefX w l au s)) := by
    refine hcall.mono fun e w' h => ?_
    obtain ⟨t, er, cnt, h1, h2, h3, h4⟩ := h
    refine ⟨t, er, h1, ?_, fun h0 => ?_⟩
    · exact hb.trans (h3.below (fun k hk => by omega) hb.size)
    · obtain ⟨q1, q2, q3, q4⟩ := h4 h0
      rw [dl] at q3
      exact ⟨q3, cnt, q1, q4⟩
  clear hb hex hnil hcall hau hl ha
  go_enter Tryd.func17, Tryd.ntmps17
  go_wp2_with (go_at_call 24; refine HC.out.mono ?_)
  rintro e w5 ⟨t, er, rfl, h1, h2⟩
  have HEND : Hid (RefX w l au s (.returned (.tuple #[.string t, .int .i64 er])) w5) := ⟨t, er, rfl, h1, h2⟩
  clear h1 h2
  simp only []
  go_wp2_with fail
  go_ret2
  exact HEND.out
/-! Whether macros are too many, to the point. -/
def sumV (l : Prs) : Nat := (l.map fun p => p.2.size).sum
theorem sumV_mem : ∀ {l : Prs} {p : ByteArray × ByteArray}, p ∈ l → p.2.size ≤ sumV l
  | q :: l, p, h => by
    show p.2.size ≤ q.2.size + sumV l
    rcases List.mem_cons.1 h with rfl | h
    · omega
    · have := sumV_mem h; omega
theorem sumV_take {l : Prs} {k : Nat} (h : k < l.length) : sumV (l.take (k + 1)) = sumV (l.take k) + l[k].2.size := by
  unfold sumV
  rw [List.take_succ_eq_append_getElem h, List.map_append, List.sum_append]; simp
theorem sumV_le {M : Nat} {l : Prs} (h : ∀ p ∈ l, p.2.size ≤ M) : ∀ k, sumV (l.take k) ≤ k * M
  | 0 => by simp [sumV]
  | k + 1 => by
    have ih := sumV_le h k
    rw [Nat.succ_mul]
    by_cases hk : k < l.length
    · rw [sumV_take hk]
      have := h l[k] (List.getElem_mem hk)
      omega
    · rw [List.take_of_length_le (by omega)] at ih ⊢; omega
def BigP (w : World) (l : Prs) (e : Ending) (w' : World) : Prop := ∃ b : Bool, e = .returned (.bool b) ∧ w' = w ∧ (b = false → l.length ≤ 30 ∧ ∀ p ∈ l, p.2.size ≤ 2000)
set_option maxRecDepth 100000 in
set_option maxHeartbeats 4000000 in
theorem big_exact (lv : Value) (l : Prs) (w : World) (h : PV w.heap.size w lv l) (hr : ∀ p ∈ l, p.2.size ≤ 140737488351232) : Calls Tryd.prog 14 #[lv] w (BigP w l) := by
  obtain ⟨o, c, rfl⟩ := h.form
  have hll := h.len
  have HP := Lib.hid h
  have HSL := Lib.hid (sumV_le hr)
  have HEN : Hid (∀ k : Nat, (k = 40 ∨ k = l.length) → k ≤ l.length → 30 < l.length ∨ 2000 < sumV (l.take k) ∨ (l.length ≤ 30 ∧ ∀ p ∈ l, p.2.size ≤ 2000)) := fun k hk hkl => by
    by_cases h1 : 30 < l.length
    · exact .inl h1
    · by_cases h2 : 2000 < sumV (l.take k)
      · exact .inr (.inl h2)
      · refine .inr (.inr ⟨by omega, fun p hp => ?_⟩)
        have hkl2 : k = l.length := by omega
        rw [hkl2, List.take_length] at h2
        have := sumV_mem hp
        omega
  have hlI : (l.length : Int) ≤ 9223372036854775807 := by omega
  clear h hr
  go_enter Tryd.func14, Tryd.ntmps14
  go_wp2_with fail
  go_loopw [3, 4] (fun x i wx => ∃ (k z : Nat), x = .int .i64 z ∧ i = .int .i64 k ∧ k ≤ l.length ∧ k ≤ 40 ∧ wx = w ∧ Hid (z = sumV (l.take k))) (fun _ i _ => 40 - (intOf i).toNat)
  case atStart => exact ⟨0, 0, rfl, rfl, Nat.zero_le _, by omega, rfl, by simp [Hid, sumV]⟩
  case round =>
    obtain ⟨k, z, rfl, rfl, hk, hk4, rfl, HZ⟩ := hrel
    have hzb : z ≤ 5629499534049280 := by have := HSL.out k; have := HZ.out; omega
    have hend : ∀ (hx : k = 40 ∨ k = l.length), ∃ b1 b2 : Bool, decide ((30 : Int) < (l.length : Int)) = b1 ∧ decide ((2000 : Int) < (z : Int)) = b2 ∧ Hid (BigP wr l (.returned (.bool (b1 || b2))) wr) := fun hx => by
      refine ⟨_, _, rfl, rfl, _, rfl, rfl, fun hb => ?_⟩
      rw [Bool.or_eq_false_iff, decide_eq_false_iff_not, decide_eq_false_iff_not] at hb
      rcases HEN.out k hx hk with h | h | h
      · omega
      · rw [← HZ.out] at h; omega
      · exact h
    by_cases hlt : k < l.length
    · have hltd : decide ((k : Int) < (l.length : Int)) = true := decide_eq_true (by omega)
      have hltI : (k : Int) < (l.length : Int) := by omega
      have hk0 : (0 : Int) ≤ (k : Int) := by omega
      by_cases h40 : k < 40
      · have h4d : decide ((k : Int) < 40) = true := decide_eq_true (by omega)
        have hb64 : IntKind.i64.wrap ((k : Int) + 1) = (k : Int) + 1 := IntWalk.i64_in _ (by omega)
        rcases HP.out.at' with ⟨o1, c1, _, h0⟩ | ⟨b, off, cap, h1, h2, h3, h4⟩
        · rw [h0] at hlt; simp at hlt
        injection h1 with e1 _ e2
        subst e1
        obtain ⟨q0, q1⟩ := h4 k hlt
        have ad := add2 b off k
        have hst := sumV_take hlt
        have hsl := HSL.out (k + 1)
        obtain ⟨x, hx⟩ : ∃ x, l[k] = x := ⟨_, rfl⟩
        rw [hx] at q0 q1 hst
        have hq : IntKind.i64.wrap ((z : Int) + (x.2.size : Int)) = ((z + x.2.size : Nat) : Int) := by rw [IntWalk.i64_in _ (by have := HZ.out; omega)]; omega
        have HN : Hid (z + x.2.size = sumV (l.take (k + 1))) := by rw [Hid, hst, HZ.out]
        clear h4 hx hst hsl hend
        go_wp2_with fail
        go_roundw
        case measure => simp [intOf]; omega
        case rel => exact ⟨k + 1, z + x.2.size, rfl, by go_num, by omega, by omega, by simp, HN.out⟩
      · have h4d : decide ((k : Int) < 40) = false := decide_eq_false (by omega)
        obtain ⟨b1, b2, hb1, hb2, HE⟩ := hend (.inl (by omega))
        clear hend
        cases b1 <;>
        · go_wp2_with fail
          go_ret
          exact HE.out
    · have hltd : decide ((k : Int) < (l.length : Int)) = false := decide_eq_false (by omega)
      obtain ⟨b1, b2, hb1, hb2, HE⟩ := hend (.inr (by omega))
      clear hend
      cases b1 <;>
      · go_wp2_with fail
        go_ret
        exact HE.out
end Go.Proofs.YthbemfpoanmjcaaDoor
