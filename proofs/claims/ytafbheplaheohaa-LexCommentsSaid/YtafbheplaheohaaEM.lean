import Derived.Test.YtafbheplaheohaaEL
namespace Go.Proofs.Ytafbheplaheohaa
open Go.RowKit
set_option linter.unusedVariables false

theorem RPutS {w0 w : World} {rb B : Nat} {S : ByteArray} {a x : Nat} {va : Option Addr} {n c : Nat} {l : List Prt} {L : List Pt} (h : RS w0 w rb B S a x (.slice va n c) l L) (hl : l.length ≤ 90000) (ki : Int) (k : Nat) (hk : ki = (k : Int)) (t : ByteArray) (hne : k = 1 → t.data.toList ≠ []) :
    Calls Try.prog 40 #[.slice va n c, .agg #[.int .i64 ki, .string t, .string ⟨#[]⟩, .string ⟨#[]⟩, .slice none 0 0, .bool false]] w fun e w' => ∃ va' n' c' L', e = .returned (.slice va' n' c') ∧ RS w0 w' rb B S a x (.slice va' n' c') (l ++ [txt k t.data.toList]) L' :=
  (RPut_any h.row h.le hl ki k hk t hne).mono (by
    rintro e w' ⟨a', n', c', L', rfl, h1, h2⟩
    exact ⟨a', n', c', L', rfl, (h2.block rb h.lt).trans h.rr, h1, Rb.trans h.only (Rb.of_below h2 h.le), h.lt, Nat.le_trans h.le h2.size⟩)
theorem RS.text {w w' : World} {rb B : Nat} {S : ByteArray} {a' : Nat} {l : List Prt} {p : PS} {d Z : Nat} {va : Option Addr} {n c : Nat} {L' : List Pt} {t r : Bz} {k : Nat} (hok : ∀ y ∈ l, RawOk y) (he : Eqv p (tidyS l)) (h : RS w w' rb B S a' 0 (.slice va n c) (l ++ [txt k t]) L') (hk : k = 1 ∨ k = 2) (ht : t ≠ []) (ha : a' ≤ S.size) (hd : S.data.toList.drop a' = r) (hz : SZ l + 1 + t.length + 2 * (S.size - a') ≤ Z) :
    RStep w rb B S d Z (.ok (p.put k t, r)) (.returned (.slice va n c)) w' := by
  refine ⟨va, n, c, _, L', a', 0, rfl, h, fun z hz => ?_, rfl, ha, hd, ?_, ?_⟩
  · rcases List.mem_append.1 hz with hz | hz
    · exact hok z hz
    · simp at hz; rw [hz]; exact rawok_txt (fun _ => ht)
  · rw [tidyS_app]; exact he.text hk ht
  · rw [SZ_app]; exact hz
section
variable {W : Bz → Res (List Prt × Bz)} {q : Bool} {d : Nat} {p : PS} {s : Bz}
theorem param_123 (r : Bz) : paramLen (123 :: r) = 0 := rfl
theorem param_40 (r : Bz) : paramLen (40 :: r) = 0 := rfl
theorem dollB_name (h : 0 < paramLen s) : dollF W q d p s = .ok (p.add (.mk 3 [] (s.take (paramLen s)) [] [] q), s.drop (paramLen s)) := by
  have h1 : s.head? ≠ some 123 := fun e => by
    cases s with
    | nil => cases e
    | cons c r => have : c = 123 := by simpa using e
                  rw [this, param_123] at h; omega
  have h2 : s.head? ≠ some 40 := fun e => by
    cases s with
    | nil => cases e
    | cons c r => have : c = 40 := by simpa using e
                  rw [this, param_40] at h; omega
  unfold dollF
  rw [if_neg h1, if_neg (fun e => h2 e.1), if_neg h2, if_pos h]
theorem dollB_brace (h : s.head? = some 123) : dollF W q d p s = (match braceF W q d s.tail with
    | .error x => .error x
    | .ok (x, r) => .ok (p.add x, r)) := by
  unfold dollF; rw [if_pos h]; cases braceF W q d s.tail <;> rfl
theorem dollB_calc (h : s.head? = some 40) (h2 : s.tail.head? = some 40) : dollF W q d p s = calcR q p (s.drop 2) := by
  unfold dollF calcR
  rw [if_neg (by rw [h]; decide), if_pos ⟨h, h2⟩]
  cases calcN 0 (s.drop 2) <;> rfl
theorem dollB_sub (h : s.head? = some 40) (h2 : s.tail.head? ≠ some 40) : dollF W q d p s = subR q p s.tail := by
  unfold dollF subR
  rw [if_neg (by rw [h]; decide), if_neg (fun e => h2 e.2), if_pos h]
  cases subN 0 0 s.tail <;> rfl
theorem dollB_put (h : s.head? ≠ some 123) (h2 : s.head? ≠ some 40) (h3 : paramLen s = 0) : dollF W q d p s = .ok (p.put (if q then 2 else 1) [36], s) := by
  unfold dollF
  rw [if_neg h, if_neg (fun e => h2 e.1), if_neg h2, if_neg (by omega)]
end
theorem param_first {s : Bz} {c : UInt8} {r : Bz} (hs : s = c :: r) (hn : nameLen s = 0) : paramLen s = if isDigit c || signs.contains c then 1 else 0 := by
  subst hs
  unfold paramLen
  rw [if_neg (by omega)]
theorem head_see {S : ByteArray} {b : Nat} {x : UInt8} (hx : x ≠ 0) : (S.data.toList.drop b).head? = some x ↔ seeF S b = x := by
  cases hd2 : S.data.toList.drop b with
  | nil =>
    have : S.size ≤ b := by have := congrArg List.length hd2; rw [List.length_drop, dl] at this; simp at this; omega
    rw [seeF_off this]
    exact ⟨fun e => (by cases e), fun e => absurd e.symm hx⟩
  | cons y r =>
    rw [seeF_head hd2]; simp
set_option maxRecDepth 100000 in
set_option maxHeartbeats 16000000 in
theorem RDollar_any {w0 w : World} {rb B : Nat} {S : ByteArray} {a : Nat} {va : Option Addr} {n c : Nat} {l : List Prt} {L : List Pt} {p : PS} {Z : Nat} (q : Bool) (d : Nat) (hd : d ≤ 40) (h : RIn w0 w rb B S a (.slice va n c) l L p Z) (hlt : a < S.size) (hZ : Z ≤ 60000) (hS : S.size ≤ 16384) (ih : ∀ m, m < S.size - a → RWP m) :
    Calls Try.prog 41 #[.pointer (some ⟨rb, 0, none⟩), .slice va n c, .int .i64 d, .bool q] w (RStep w0 rb B S d Z (dollF (wordC q (d + 1)) q d p (S.data.toList.drop (a + 1)))) := by
  obtain ⟨b, hb⟩ : ∃ b, a + 1 = b := ⟨_, rfl⟩
  rw [hb]
  obtain ⟨Q, hQ⟩ : ∃ Q, RStep w0 rb B S d Z (dollF (wordC q (d + 1)) q d p (S.data.toList.drop b)) = Q := ⟨_, rfl⟩
  rw [hQ]
  have HQ := Lib.hid hQ
  have H0 := Lib.hid h
  have hszz := h.sz
  obtain ⟨s, hs⟩ : ∃ s, S.data.toList.drop b = s := ⟨_, rfl⟩
  have HSD := Lib.hid hs
  have hsl : s.length = S.size - b := by rw [← hs, List.length_drop, dl]
  have q1 : w.cell? ⟨rb, 1, none⟩ = some (.int .i64 a) := cell_of h.rs.rr 1
  have f1 := free_of h.rs.rr 1
  have haw : IntKind.i64.wrap ((a : Int) + 1) = (b : Int) := (IntWalk.i64_in _ (by omega)).trans (by omega)
  have HR1 : Hid (RS w0 (w.setCell ⟨rb, 1, none⟩ (.int .i64 (b : Int))) rb B S b 0 (.slice va n c) l L) := h.rs.setI b rfl
  have HIN : Hid (∀ w5 m, RS w0 w5 rb B S m 0 (.slice va n c) l L → a ≤ m → m ≤ S.size → RIn w0 w5 rb B S m (.slice va n c) l L p Z) := fun w5 m h5 h6 h7 => ⟨h5, H0.out.ok, H0.out.eqv, by omega, h7⟩
  have HLL : Hid (l.length ≤ 90000) := by
    have : l.length ≤ SZ l := by unfold SZ; omega
    rw [Hid]; omega
  obtain ⟨c0, hc0⟩ : ∃ c0, seeF S b = c0 := ⟨_, rfl⟩
  obtain ⟨nl, hnl⟩ : ∃ nl, nameLen s = nl := ⟨_, rfl⟩
  have HSEE0 : Hid (∀ w5, RS w0 w5 rb B S b 0 (.slice va n c) l L → Calls Try.prog 26 #[.pointer (some ⟨rb, 0, none⟩), .int .i64 0] w5 fun e w' => e = .returned (.int .u8 c0.toNat) ∧ Below w5.heap.size w5 w') := fun w5 h => see_seq h.rr 0 0 b rfl rfl (by omega) (by omega) hc0
  have HNL : Hid (∀ w5, Calls Try.prog 52 #[.string S, .int .i64 b] w5 fun e w' => e = .returned (.int .i64 nl) ∧ w' = w5) := fun w5 => by
    have := RNameLen_any S b (by omega) (by omega) w5
    rw [hs, hnl] at this
    exact this
  have HDIG : Hid (∀ w5, Calls Try.prog 53 #[.int .u8 c0.toNat] w5 fun e w' => e = .returned (.bool (isDigit c0)) ∧ w' = w5) := fun w5 => RDigit_any c0 w5
  have HHD : Hid (∀ x : UInt8, x ≠ 0 → (s.head? = some x ↔ c0 = x)) := fun x hx => by rw [← hs, ← hc0]; exact head_see hx
  have HIH := Lib.hid ih
  have HCZ : Hid (∀ x r, s = x :: r → x = c0) := fun x r e => by rw [← hc0, seeF_head (hs.trans e)]
  have HNIL : Hid (s = [] → c0 = 0) := fun e => by
    have : S.size ≤ b := by rw [e] at hsl; simp at hsl; omega
    rw [← hc0, seeF_off this]
  -- a name, of k bytes
  have HEND : Hid (∀ k m w9 X a9 n9 c9 L9, paramLen s = k → 0 < k → b + k = m → m ≤ S.size → X = s.take k → RS w0 w9 rb B S m 0 (.slice a9 n9 c9) (l ++ [.mk 3 [] X [] [] q]) L9 → Q (.returned (.slice a9 n9 c9)) w9) := fun k m w9 X a9 n9 c9 L9 h1 h2 h3 h4 h5 h6 => by
    rw [← HQ.out, HSD.out, dollB_name (by omega), h1]
    subst h5
    refine RS.done H0.out.ok H0.out.eqv h6 (by show 3 ≤ 3; omega) h4 (by rw [← HSD.out, List.drop_drop, h3]) ?_
    show SZ l + 1 + 0 + _ ≤ Z
    omega
  have hnll : paramLen s ≤ s.length := by
    have := longParam_le s
    exact Nat.le_trans (Nat.le_max_left _ _) this
  clear hQ h ih hs
  by_cases hn : 0 < nl
  · have hpl : paramLen s = nl := by rw [← hnl]; exact paramLen_pos (by rw [hnl]; exact hn)
    have hnI : (0 : Int) < (nl : Int) := by omega
    have hnll2 : nl ≤ S.size - b := by omega
    clear hnll
    obtain ⟨m, hm⟩ : ∃ m, b + nl = m := ⟨_, rfl⟩
    have hmS : m ≤ S.size := by omega
    have hbm : b ≤ m := by omega
    have hbmI : (b : Int) ≤ (m : Int) := by omega
    have hmSI : (m : Int) ≤ (S.size : Int) := by omega
    have hb0 : (0 : Int) ≤ (b : Int) := by omega
    have hwm : IntKind.i64.wrap ((b : Int) + (nl : Int)) = (m : Int) := (IntWalk.i64_in _ (by omega)).trans (by omega)
    have hX := ext_dt (t := S) (a := b) (b := m) hbm hmS
    obtain ⟨X, hXX⟩ : ∃ X, S.extract b m = X := ⟨_, rfl⟩
    rw [hXX] at hX
    have HX : Hid (X.data.toList = s.take (nl)) := by rw [Hid, hX.1, List.drop_take, HSD.out, show m - b = nl by omega]
    have HM := Lib.hid hm
    have HPL := Lib.hid hpl
    clear hX hm hpl
    go_enter Try.func41, Try.ntmps41
    go_wp2_with (go_at_call 26; (with_reducible refine (HSEE0.out _ HR1.out).mono ?_); rintro e w5 ⟨rfl, h5⟩; have HR5 := Lib.hid (HR1.out.under h5); clear h5 q1 f1; have q05 : w5.cell? ⟨rb, 0, none⟩ = some (.string S) := cell_of HR5.out.rr 0; have q15 : w5.cell? ⟨rb, 1, none⟩ = some (.int .i64 b) := cell_of HR5.out.rr 1; simp only [])
    go_quiet ((go_at_call 52; exact Calls.quiet_of_same (HNL.out _)))
    have hbn := drew_below w5 nq
    obtain ⟨w6, hw6⟩ : ∃ wv, World.drewN w5 nq = wv := ⟨_, rfl⟩
    rw [hw6] at hbn ⊢
    have HR6 := Lib.hid (HR5.out.under hbn)
    clear hw6 hbn q05 q15
    have q06 : w6.cell? ⟨rb, 0, none⟩ = some (.string S) := cell_of HR6.out.rr 0
    have q16 : w6.cell? ⟨rb, 1, none⟩ = some (.int .i64 b) := cell_of HR6.out.rr 1
    have f16 := free_of HR6.out.rr 1
    go_wp2_with fail
    go_quiet (fail)
    have hbn := drew_below w6 nq
    obtain ⟨w7, hw7⟩ : ∃ wv, World.drewN w6 nq = wv := ⟨_, rfl⟩
    rw [hw7] at hbn ⊢
    have HR7 := Lib.hid (HR6.out.under hbn)
    clear hw7 hbn q06 q16 f16
    have q17 : w7.cell? ⟨rb, 1, none⟩ = some (.int .i64 b) := cell_of HR7.out.rr 1
    have f17 := free_of HR7.out.rr 1
    have HR8 := Lib.hid (HR7.out.setI m (ai := (m : Int)) rfl)
    obtain ⟨a8, n8, c8, w8, r8, hr8⟩ := HR8.out.push HLL.out ⟨3, ⟨#[]⟩, X, ⟨#[]⟩, .slice none 0 0, q⟩ (.mk 3 [] X.data.toList [] [] q) ⟨rfl, rfl, rfl, rfl, rfl⟩ (.nil 0)
    have HR9 := Lib.hid hr8
    rw [show (w7.setCell ⟨rb, 1, none⟩ (.int .i64 (m : Int))).heap.size = w7.heap.size by simp] at r8
    clear hr8
    go_wp2_with (at_builtin; refine wpList_run_append _ rfl _ _ 32 32 rfl _ _ rfl rfl r8 ?_)
    exact HEND.out (nl) m _ _ _ _ _ _ HPL.out (by omega) HM.out hmS HX.out HR9.out
  obtain rfl : nl = 0 := by omega
  clear hn
  by_cases hdg : isDigit c0 = true
  · have hpl : paramLen s = 1 := by
      cases hh : s with
      | nil => exact absurd (HNIL.out hh) (by rintro e; rw [e] at hdg; exact absurd hdg (by decide))
      | cons x r =>
        rw [← hh, param_first hh hnl, HCZ.out x r hh, if_pos (by rw [hdg]; rfl)]
    have hnll1 : 1 ≤ S.size - b := by omega
    clear hnll
    obtain ⟨m, hm⟩ : ∃ m, b + 1 = m := ⟨_, rfl⟩
    have hmS : m ≤ S.size := by omega
    have hbm : b ≤ m := by omega
    have hbmI : (b : Int) ≤ (m : Int) := by omega
    have hmSI : (m : Int) ≤ (S.size : Int) := by omega
    have hb0 : (0 : Int) ≤ (b : Int) := by omega
    have hwm : IntKind.i64.wrap ((b : Int) + 1) = (m : Int) := (IntWalk.i64_in _ (by omega)).trans (by omega)
    have hX := ext_dt (t := S) (a := b) (b := m) hbm hmS
    obtain ⟨X, hXX⟩ : ∃ X, S.extract b m = X := ⟨_, rfl⟩
    rw [hXX] at hX
    have HX : Hid (X.data.toList = s.take (1)) := by rw [Hid, hX.1, List.drop_take, HSD.out, show m - b = 1 by omega]
    have HM := Lib.hid hm
    have HPL := Lib.hid hpl
    clear hX hm hpl
    go_enter Try.func41, Try.ntmps41
    go_wp2_with (go_at_call 26; (with_reducible refine (HSEE0.out _ HR1.out).mono ?_); rintro e w5 ⟨rfl, h5⟩; have HR5 := Lib.hid (HR1.out.under h5); clear h5 q1 f1; have q05 : w5.cell? ⟨rb, 0, none⟩ = some (.string S) := cell_of HR5.out.rr 0; have q15 : w5.cell? ⟨rb, 1, none⟩ = some (.int .i64 b) := cell_of HR5.out.rr 1; simp only [])
    go_quiet ((go_at_call 52; exact Calls.quiet_of_same (HNL.out _)))
    have hbn := drew_below w5 nq
    obtain ⟨w6, hw6⟩ : ∃ wv, World.drewN w5 nq = wv := ⟨_, rfl⟩
    rw [hw6] at hbn ⊢
    have HR6 := Lib.hid (HR5.out.under hbn)
    clear hw6 hbn q05 q15
    have q06 : w6.cell? ⟨rb, 0, none⟩ = some (.string S) := cell_of HR6.out.rr 0
    have q16 : w6.cell? ⟨rb, 1, none⟩ = some (.int .i64 b) := cell_of HR6.out.rr 1
    have f16 := free_of HR6.out.rr 1
    go_wp2_with (go_at_call 53; refine (HDIG.out _).mono ?_; rintro e w7 ⟨rfl, h7⟩; obtain rfl := h7.symm; simp only [])
    go_quiet (fail)
    have hbn := drew_below w6 nq
    obtain ⟨w7, hw7⟩ : ∃ wv, World.drewN w6 nq = wv := ⟨_, rfl⟩
    rw [hw7] at hbn ⊢
    have HR7 := Lib.hid (HR6.out.under hbn)
    clear hw7 hbn q06 q16 f16
    have q17 : w7.cell? ⟨rb, 1, none⟩ = some (.int .i64 b) := cell_of HR7.out.rr 1
    have f17 := free_of HR7.out.rr 1
    have HR8 := Lib.hid (HR7.out.setI m (ai := (m : Int)) rfl)
    obtain ⟨a8, n8, c8, w8, r8, hr8⟩ := HR8.out.push HLL.out ⟨3, ⟨#[]⟩, X, ⟨#[]⟩, .slice none 0 0, q⟩ (.mk 3 [] X.data.toList [] [] q) ⟨rfl, rfl, rfl, rfl, rfl⟩ (.nil 0)
    have HR9 := Lib.hid hr8
    rw [show (w7.setCell ⟨rb, 1, none⟩ (.int .i64 (m : Int))).heap.size = w7.heap.size by simp] at r8
    clear hr8
    go_wp2_with (at_builtin; refine wpList_run_append _ rfl _ _ 32 32 rfl _ _ rfl rfl r8 ?_)
    exact HEND.out (1) m _ _ _ _ _ _ HPL.out (by omega) HM.out hmS HX.out HR9.out
  have hdg : isDigit c0 = false := by simpa using hdg
  by_cases e63 : c0 = 63
  · have z63 : ((c0.toNat : Int) == 63) = true := by rw [e63]; rfl
    have n63 : (c0.toNat : Int) = 63 := by rw [e63]; rfl
    rw [n63] at HDIG
    have hpl : paramLen s = 1 := by
      cases hh : s with
      | nil => exact absurd (HNIL.out hh) (by rw [e63]; decide)
      | cons x r =>
        rw [← hh, param_first hh hnl, HCZ.out x r hh, if_pos (by rw [hdg, e63]; rfl)]
    have hnll1 : 1 ≤ S.size - b := by omega
    clear hnll
    obtain ⟨m, hm⟩ : ∃ m, b + 1 = m := ⟨_, rfl⟩
    have hmS : m ≤ S.size := by omega
    have hbm : b ≤ m := by omega
    have hbmI : (b : Int) ≤ (m : Int) := by omega
    have hmSI : (m : Int) ≤ (S.size : Int) := by omega
    have hb0 : (0 : Int) ≤ (b : Int) := by omega
    have hwm : IntKind.i64.wrap ((b : Int) + 1) = (m : Int) := (IntWalk.i64_in _ (by omega)).trans (by omega)
    have hX := ext_dt (t := S) (a := b) (b := m) hbm hmS
    obtain ⟨X, hXX⟩ : ∃ X, S.extract b m = X := ⟨_, rfl⟩
    rw [hXX] at hX
    have HX : Hid (X.data.toList = s.take (1)) := by rw [Hid, hX.1, List.drop_take, HSD.out, show m - b = 1 by omega]
    have HM := Lib.hid hm
    have HPL := Lib.hid hpl
    clear hX hm hpl
    go_enter Try.func41, Try.ntmps41
    go_wp2_with (go_at_call 26; (with_reducible refine (HSEE0.out _ HR1.out).mono ?_); rintro e w5 ⟨rfl, h5⟩; have HR5 := Lib.hid (HR1.out.under h5); clear h5 q1 f1; have q05 : w5.cell? ⟨rb, 0, none⟩ = some (.string S) := cell_of HR5.out.rr 0; have q15 : w5.cell? ⟨rb, 1, none⟩ = some (.int .i64 b) := cell_of HR5.out.rr 1; simp only [])
    go_quiet ((go_at_call 52; exact Calls.quiet_of_same (HNL.out _)))
    have hbn := drew_below w5 nq
    obtain ⟨w6, hw6⟩ : ∃ wv, World.drewN w5 nq = wv := ⟨_, rfl⟩
    rw [hw6] at hbn ⊢
    have HR6 := Lib.hid (HR5.out.under hbn)
    clear hw6 hbn q05 q15
    have q06 : w6.cell? ⟨rb, 0, none⟩ = some (.string S) := cell_of HR6.out.rr 0
    have q16 : w6.cell? ⟨rb, 1, none⟩ = some (.int .i64 b) := cell_of HR6.out.rr 1
    have f16 := free_of HR6.out.rr 1
    go_wp2_with (go_at_call 53; refine (HDIG.out _).mono ?_; rintro e w7 ⟨rfl, h7⟩; obtain rfl := h7.symm; simp only [])
    go_quiet (fail)
    have hbn := drew_below w6 nq
    obtain ⟨w7, hw7⟩ : ∃ wv, World.drewN w6 nq = wv := ⟨_, rfl⟩
    rw [hw7] at hbn ⊢
    have HR7 := Lib.hid (HR6.out.under hbn)
    clear hw7 hbn q06 q16 f16
    have q17 : w7.cell? ⟨rb, 1, none⟩ = some (.int .i64 b) := cell_of HR7.out.rr 1
    have f17 := free_of HR7.out.rr 1
    have HR8 := Lib.hid (HR7.out.setI m (ai := (m : Int)) rfl)
    obtain ⟨a8, n8, c8, w8, r8, hr8⟩ := HR8.out.push HLL.out ⟨3, ⟨#[]⟩, X, ⟨#[]⟩, .slice none 0 0, q⟩ (.mk 3 [] X.data.toList [] [] q) ⟨rfl, rfl, rfl, rfl, rfl⟩ (.nil 0)
    have HR9 := Lib.hid hr8
    rw [show (w7.setCell ⟨rb, 1, none⟩ (.int .i64 (m : Int))).heap.size = w7.heap.size by simp] at r8
    clear hr8
    go_wp2_with (at_builtin; refine wpList_run_append _ rfl _ _ 32 32 rfl _ _ rfl rfl r8 ?_)
    exact HEND.out (1) m _ _ _ _ _ _ HPL.out (by omega) HM.out hmS HX.out HR9.out
  by_cases e35 : c0 = 35
  · have n63 : ¬ ((c0.toNat : Int) = 63) := fun e => e63 (UInt8.toNat_inj.1 (by have : ((63 : UInt8).toNat : Int) = 63 := rfl; omega))
    have z63 : ((c0.toNat : Int) == 63) = false := beq_eq_false_iff_ne.2 n63
    have z35 : ((c0.toNat : Int) == 35) = true := by rw [e35]; rfl
    have n35 : (c0.toNat : Int) = 35 := by rw [e35]; rfl
    rw [n35] at HDIG
    have hpl : paramLen s = 1 := by
      cases hh : s with
      | nil => exact absurd (HNIL.out hh) (by rw [e35]; decide)
      | cons x r =>
        rw [← hh, param_first hh hnl, HCZ.out x r hh, if_pos (by rw [hdg, e35]; rfl)]
    have hnll1 : 1 ≤ S.size - b := by omega
    clear hnll
    obtain ⟨m, hm⟩ : ∃ m, b + 1 = m := ⟨_, rfl⟩
    have hmS : m ≤ S.size := by omega
    have hbm : b ≤ m := by omega
    have hbmI : (b : Int) ≤ (m : Int) := by omega
    have hmSI : (m : Int) ≤ (S.size : Int) := by omega
    have hb0 : (0 : Int) ≤ (b : Int) := by omega
    have hwm : IntKind.i64.wrap ((b : Int) + 1) = (m : Int) := (IntWalk.i64_in _ (by omega)).trans (by omega)
    have hX := ext_dt (t := S) (a := b) (b := m) hbm hmS
    obtain ⟨X, hXX⟩ : ∃ X, S.extract b m = X := ⟨_, rfl⟩
    rw [hXX] at hX
    have HX : Hid (X.data.toList = s.take (1)) := by rw [Hid, hX.1, List.drop_take, HSD.out, show m - b = 1 by omega]
    have HM := Lib.hid hm
    have HPL := Lib.hid hpl
    clear hX hm hpl
    go_enter Try.func41, Try.ntmps41
    go_wp2_with (go_at_call 26; (with_reducible refine (HSEE0.out _ HR1.out).mono ?_); rintro e w5 ⟨rfl, h5⟩; have HR5 := Lib.hid (HR1.out.under h5); clear h5 q1 f1; have q05 : w5.cell? ⟨rb, 0, none⟩ = some (.string S) := cell_of HR5.out.rr 0; have q15 : w5.cell? ⟨rb, 1, none⟩ = some (.int .i64 b) := cell_of HR5.out.rr 1; simp only [])
    go_quiet ((go_at_call 52; exact Calls.quiet_of_same (HNL.out _)))
    have hbn := drew_below w5 nq
    obtain ⟨w6, hw6⟩ : ∃ wv, World.drewN w5 nq = wv := ⟨_, rfl⟩
    rw [hw6] at hbn ⊢
    have HR6 := Lib.hid (HR5.out.under hbn)
    clear hw6 hbn q05 q15
    have q06 : w6.cell? ⟨rb, 0, none⟩ = some (.string S) := cell_of HR6.out.rr 0
    have q16 : w6.cell? ⟨rb, 1, none⟩ = some (.int .i64 b) := cell_of HR6.out.rr 1
    have f16 := free_of HR6.out.rr 1
    go_wp2_with (go_at_call 53; refine (HDIG.out _).mono ?_; rintro e w7 ⟨rfl, h7⟩; obtain rfl := h7.symm; simp only [])
    go_quiet (fail)
    have hbn := drew_below w6 nq
    obtain ⟨w7, hw7⟩ : ∃ wv, World.drewN w6 nq = wv := ⟨_, rfl⟩
    rw [hw7] at hbn ⊢
    have HR7 := Lib.hid (HR6.out.under hbn)
    clear hw7 hbn q06 q16 f16
    have q17 : w7.cell? ⟨rb, 1, none⟩ = some (.int .i64 b) := cell_of HR7.out.rr 1
    have f17 := free_of HR7.out.rr 1
    have HR8 := Lib.hid (HR7.out.setI m (ai := (m : Int)) rfl)
    obtain ⟨a8, n8, c8, w8, r8, hr8⟩ := HR8.out.push HLL.out ⟨3, ⟨#[]⟩, X, ⟨#[]⟩, .slice none 0 0, q⟩ (.mk 3 [] X.data.toList [] [] q) ⟨rfl, rfl, rfl, rfl, rfl⟩ (.nil 0)
    have HR9 := Lib.hid hr8
    rw [show (w7.setCell ⟨rb, 1, none⟩ (.int .i64 (m : Int))).heap.size = w7.heap.size by simp] at r8
    clear hr8
    go_wp2_with (at_builtin; refine wpList_run_append _ rfl _ _ 32 32 rfl _ _ rfl rfl r8 ?_)
    exact HEND.out (1) m _ _ _ _ _ _ HPL.out (by omega) HM.out hmS HX.out HR9.out
  by_cases e64 : c0 = 64
  · have n63 : ¬ ((c0.toNat : Int) = 63) := fun e => e63 (UInt8.toNat_inj.1 (by have : ((63 : UInt8).toNat : Int) = 63 := rfl; omega))
    have z63 : ((c0.toNat : Int) == 63) = false := beq_eq_false_iff_ne.2 n63
    have n35 : ¬ ((c0.toNat : Int) = 35) := fun e => e35 (UInt8.toNat_inj.1 (by have : ((35 : UInt8).toNat : Int) = 35 := rfl; omega))
    have z35 : ((c0.toNat : Int) == 35) = false := beq_eq_false_iff_ne.2 n35
    have z64 : ((c0.toNat : Int) == 64) = true := by rw [e64]; rfl
    have n64 : (c0.toNat : Int) = 64 := by rw [e64]; rfl
    rw [n64] at HDIG
    have hpl : paramLen s = 1 := by
      cases hh : s with
      | nil => exact absurd (HNIL.out hh) (by rw [e64]; decide)
      | cons x r =>
        rw [← hh, param_first hh hnl, HCZ.out x r hh, if_pos (by rw [hdg, e64]; rfl)]
    have hnll1 : 1 ≤ S.size - b := by omega
    clear hnll
    obtain ⟨m, hm⟩ : ∃ m, b + 1 = m := ⟨_, rfl⟩
    have hmS : m ≤ S.size := by omega
    have hbm : b ≤ m := by omega
    have hbmI : (b : Int) ≤ (m : Int) := by omega
    have hmSI : (m : Int) ≤ (S.size : Int) := by omega
    have hb0 : (0 : Int) ≤ (b : Int) := by omega
    have hwm : IntKind.i64.wrap ((b : Int) + 1) = (m : Int) := (IntWalk.i64_in _ (by omega)).trans (by omega)
    have hX := ext_dt (t := S) (a := b) (b := m) hbm hmS
    obtain ⟨X, hXX⟩ : ∃ X, S.extract b m = X := ⟨_, rfl⟩
    rw [hXX] at hX
    have HX : Hid (X.data.toList = s.take (1)) := by rw [Hid, hX.1, List.drop_take, HSD.out, show m - b = 1 by omega]
    have HM := Lib.hid hm
    have HPL := Lib.hid hpl
    clear hX hm hpl
    go_enter Try.func41, Try.ntmps41
    go_wp2_with (go_at_call 26; (with_reducible refine (HSEE0.out _ HR1.out).mono ?_); rintro e w5 ⟨rfl, h5⟩; have HR5 := Lib.hid (HR1.out.under h5); clear h5 q1 f1; have q05 : w5.cell? ⟨rb, 0, none⟩ = some (.string S) := cell_of HR5.out.rr 0; have q15 : w5.cell? ⟨rb, 1, none⟩ = some (.int .i64 b) := cell_of HR5.out.rr 1; simp only [])
    go_quiet ((go_at_call 52; exact Calls.quiet_of_same (HNL.out _)))
    have hbn := drew_below w5 nq
    obtain ⟨w6, hw6⟩ : ∃ wv, World.drewN w5 nq = wv := ⟨_, rfl⟩
    rw [hw6] at hbn ⊢
    have HR6 := Lib.hid (HR5.out.under hbn)
    clear hw6 hbn q05 q15
    have q06 : w6.cell? ⟨rb, 0, none⟩ = some (.string S) := cell_of HR6.out.rr 0
    have q16 : w6.cell? ⟨rb, 1, none⟩ = some (.int .i64 b) := cell_of HR6.out.rr 1
    have f16 := free_of HR6.out.rr 1
    go_wp2_with (go_at_call 53; refine (HDIG.out _).mono ?_; rintro e w7 ⟨rfl, h7⟩; obtain rfl := h7.symm; simp only [])
    go_quiet (fail)
    have hbn := drew_below w6 nq
    obtain ⟨w7, hw7⟩ : ∃ wv, World.drewN w6 nq = wv := ⟨_, rfl⟩
    rw [hw7] at hbn ⊢
    have HR7 := Lib.hid (HR6.out.under hbn)
    clear hw7 hbn q06 q16 f16
    have q17 : w7.cell? ⟨rb, 1, none⟩ = some (.int .i64 b) := cell_of HR7.out.rr 1
    have f17 := free_of HR7.out.rr 1
    have HR8 := Lib.hid (HR7.out.setI m (ai := (m : Int)) rfl)
    obtain ⟨a8, n8, c8, w8, r8, hr8⟩ := HR8.out.push HLL.out ⟨3, ⟨#[]⟩, X, ⟨#[]⟩, .slice none 0 0, q⟩ (.mk 3 [] X.data.toList [] [] q) ⟨rfl, rfl, rfl, rfl, rfl⟩ (.nil 0)
    have HR9 := Lib.hid hr8
    rw [show (w7.setCell ⟨rb, 1, none⟩ (.int .i64 (m : Int))).heap.size = w7.heap.size by simp] at r8
    clear hr8
    go_wp2_with (at_builtin; refine wpList_run_append _ rfl _ _ 32 32 rfl _ _ rfl rfl r8 ?_)
    exact HEND.out (1) m _ _ _ _ _ _ HPL.out (by omega) HM.out hmS HX.out HR9.out
  by_cases e42 : c0 = 42
  · have n63 : ¬ ((c0.toNat : Int) = 63) := fun e => e63 (UInt8.toNat_inj.1 (by have : ((63 : UInt8).toNat : Int) = 63 := rfl; omega))
    have z63 : ((c0.toNat : Int) == 63) = false := beq_eq_false_iff_ne.2 n63
    have n35 : ¬ ((c0.toNat : Int) = 35) := fun e => e35 (UInt8.toNat_inj.1 (by have : ((35 : UInt8).toNat : Int) = 35 := rfl; omega))
    have z35 : ((c0.toNat : Int) == 35) = false := beq_eq_false_iff_ne.2 n35
    have n64 : ¬ ((c0.toNat : Int) = 64) := fun e => e64 (UInt8.toNat_inj.1 (by have : ((64 : UInt8).toNat : Int) = 64 := rfl; omega))
    have z64 : ((c0.toNat : Int) == 64) = false := beq_eq_false_iff_ne.2 n64
    have z42 : ((c0.toNat : Int) == 42) = true := by rw [e42]; rfl
    have n42 : (c0.toNat : Int) = 42 := by rw [e42]; rfl
    rw [n42] at HDIG
    have hpl : paramLen s = 1 := by
      cases hh : s with
      | nil => exact absurd (HNIL.out hh) (by rw [e42]; decide)
      | cons x r =>
        rw [← hh, param_first hh hnl, HCZ.out x r hh, if_pos (by rw [hdg, e42]; rfl)]
    have hnll1 : 1 ≤ S.size - b := by omega
    clear hnll
    obtain ⟨m, hm⟩ : ∃ m, b + 1 = m := ⟨_, rfl⟩
    have hmS : m ≤ S.size := by omega
    have hbm : b ≤ m := by omega
    have hbmI : (b : Int) ≤ (m : Int) := by omega
    have hmSI : (m : Int) ≤ (S.size : Int) := by omega
    have hb0 : (0 : Int) ≤ (b : Int) := by omega
    have hwm : IntKind.i64.wrap ((b : Int) + 1) = (m : Int) := (IntWalk.i64_in _ (by omega)).trans (by omega)
    have hX := ext_dt (t := S) (a := b) (b := m) hbm hmS
    obtain ⟨X, hXX⟩ : ∃ X, S.extract b m = X := ⟨_, rfl⟩
    rw [hXX] at hX
    have HX : Hid (X.data.toList = s.take (1)) := by rw [Hid, hX.1, List.drop_take, HSD.out, show m - b = 1 by omega]
    have HM := Lib.hid hm
    have HPL := Lib.hid hpl
    clear hX hm hpl
    go_enter Try.func41, Try.ntmps41
    go_wp2_with (go_at_call 26; (with_reducible refine (HSEE0.out _ HR1.out).mono ?_); rintro e w5 ⟨rfl, h5⟩; have HR5 := Lib.hid (HR1.out.under h5); clear h5 q1 f1; have q05 : w5.cell? ⟨rb, 0, none⟩ = some (.string S) := cell_of HR5.out.rr 0; have q15 : w5.cell? ⟨rb, 1, none⟩ = some (.int .i64 b) := cell_of HR5.out.rr 1; simp only [])
    go_quiet ((go_at_call 52; exact Calls.quiet_of_same (HNL.out _)))
    have hbn := drew_below w5 nq
    obtain ⟨w6, hw6⟩ : ∃ wv, World.drewN w5 nq = wv := ⟨_, rfl⟩
    rw [hw6] at hbn ⊢
    have HR6 := Lib.hid (HR5.out.under hbn)
    clear hw6 hbn q05 q15
    have q06 : w6.cell? ⟨rb, 0, none⟩ = some (.string S) := cell_of HR6.out.rr 0
    have q16 : w6.cell? ⟨rb, 1, none⟩ = some (.int .i64 b) := cell_of HR6.out.rr 1
    have f16 := free_of HR6.out.rr 1
    go_wp2_with (go_at_call 53; refine (HDIG.out _).mono ?_; rintro e w7 ⟨rfl, h7⟩; obtain rfl := h7.symm; simp only [])
    go_quiet (fail)
    have hbn := drew_below w6 nq
    obtain ⟨w7, hw7⟩ : ∃ wv, World.drewN w6 nq = wv := ⟨_, rfl⟩
    rw [hw7] at hbn ⊢
    have HR7 := Lib.hid (HR6.out.under hbn)
    clear hw7 hbn q06 q16 f16
    have q17 : w7.cell? ⟨rb, 1, none⟩ = some (.int .i64 b) := cell_of HR7.out.rr 1
    have f17 := free_of HR7.out.rr 1
    have HR8 := Lib.hid (HR7.out.setI m (ai := (m : Int)) rfl)
    obtain ⟨a8, n8, c8, w8, r8, hr8⟩ := HR8.out.push HLL.out ⟨3, ⟨#[]⟩, X, ⟨#[]⟩, .slice none 0 0, q⟩ (.mk 3 [] X.data.toList [] [] q) ⟨rfl, rfl, rfl, rfl, rfl⟩ (.nil 0)
    have HR9 := Lib.hid hr8
    rw [show (w7.setCell ⟨rb, 1, none⟩ (.int .i64 (m : Int))).heap.size = w7.heap.size by simp] at r8
    clear hr8
    go_wp2_with (at_builtin; refine wpList_run_append _ rfl _ _ 32 32 rfl _ _ rfl rfl r8 ?_)
    exact HEND.out (1) m _ _ _ _ _ _ HPL.out (by omega) HM.out hmS HX.out HR9.out
  have n63 : ¬ ((c0.toNat : Int) = 63) := fun e => e63 (UInt8.toNat_inj.1 (by have : ((63 : UInt8).toNat : Int) = 63 := rfl; omega))
  have z63 : ((c0.toNat : Int) == 63) = false := beq_eq_false_iff_ne.2 n63
  have n35 : ¬ ((c0.toNat : Int) = 35) := fun e => e35 (UInt8.toNat_inj.1 (by have : ((35 : UInt8).toNat : Int) = 35 := rfl; omega))
  have z35 : ((c0.toNat : Int) == 35) = false := beq_eq_false_iff_ne.2 n35
  have n64 : ¬ ((c0.toNat : Int) = 64) := fun e => e64 (UInt8.toNat_inj.1 (by have : ((64 : UInt8).toNat : Int) = 64 := rfl; omega))
  have z64 : ((c0.toNat : Int) == 64) = false := beq_eq_false_iff_ne.2 n64
  have n42 : ¬ ((c0.toNat : Int) = 42) := fun e => e42 (UInt8.toNat_inj.1 (by have : ((42 : UInt8).toNat : Int) = 42 := rfl; omega))
  have z42 : ((c0.toNat : Int) == 42) = false := beq_eq_false_iff_ne.2 n42
  have hpl0 : paramLen s = 0 := by
    cases hh : s with
    | nil => rfl
    | cons x r =>
      rw [← hh, param_first hh hnl, HCZ.out x r hh, if_neg (by rw [hdg]; simp [signs, e63, e35, e64, e42])]
  have htl : s.tail = S.data.toList.drop (b + 1) := by rw [← HSD.out, List.tail_drop]
  by_cases e123 : c0 = 123
  · have z123 : ((c0.toNat : Int) == 123) = true := by rw [e123]; rfl
    have n123 : (c0.toNat : Int) = 123 := by rw [e123]; rfl
    rw [n123] at HDIG
    have hh := (HHD.out 123 (by decide)).2 e123
    have hltb : b < S.size := by
      cases hx : s with
      | nil => rw [hx] at hh; cases hh
      | cons x r => rw [hx] at hsl; simp at hsl; omega
    obtain ⟨m, hm⟩ : ∃ m, b + 1 = m := ⟨_, rfl⟩
    have hwm : IntKind.i64.wrap ((b : Int) + 1) = (m : Int) := (IntWalk.i64_in _ (by omega)).trans (by omega)
    rw [hm] at htl
    have HDF : Hid (dollF (wordC q (d + 1)) q d p s = braceR q d p (S.data.toList.drop m)) := by rw [Hid, dollB_brace hh, htl]; rfl
    have HBR : Hid (∀ w7, RS w0 w7 rb B S m 0 (.slice va n c) l L → Calls Try.prog 54 #[.pointer (some ⟨rb, 0, none⟩), .slice va n c, .int .i64 d, .bool q] w7 fun e w' => ∃ va' n' c', e = .returned (.slice va' n' c') ∧ Q e w') := fun w7 h7 => (RBrace_any q d hd (HIN.out w7 m h7 (by omega) (by omega)) hZ hS (fun k hk => HIH.out k (by omega))).mono (by
      intro e w' hq
      obtain ⟨va', n', c', _, _, _, _, e1, _⟩ := id hq
      refine ⟨va', n', c', e1, ?_⟩
      rw [← HQ.out, HSD.out, HDF.out]
      exact hq)
    have HR8 : Hid (∀ w7, RS w0 w7 rb B S b 0 (.slice va n c) l L → RS w0 (w7.setCell ⟨rb, 1, none⟩ (.int .i64 (m : Int))) rb B S m 0 (.slice va n c) l L) := fun w7 h => h.setI m rfl
    clear hh hm htl hpl0 hnll e123 e63 e35 e64 e42
    go_enter Try.func41, Try.ntmps41
    go_wp2_with (go_at_call 26; (with_reducible refine (HSEE0.out _ HR1.out).mono ?_); rintro e w5 ⟨rfl, h5⟩; have HR5 := Lib.hid (HR1.out.under h5); clear h5 q1 f1; have q05 : w5.cell? ⟨rb, 0, none⟩ = some (.string S) := cell_of HR5.out.rr 0; have q15 : w5.cell? ⟨rb, 1, none⟩ = some (.int .i64 b) := cell_of HR5.out.rr 1; simp only [])
    go_quiet ((go_at_call 52; exact Calls.quiet_of_same (HNL.out _)))
    have hbn := drew_below w5 nq
    obtain ⟨w6, hw6⟩ : ∃ wv, World.drewN w5 nq = wv := ⟨_, rfl⟩
    rw [hw6] at hbn ⊢
    have HR6 := Lib.hid (HR5.out.under hbn)
    clear hw6 hbn q05 q15
    have q06 : w6.cell? ⟨rb, 0, none⟩ = some (.string S) := cell_of HR6.out.rr 0
    have q16 : w6.cell? ⟨rb, 1, none⟩ = some (.int .i64 b) := cell_of HR6.out.rr 1
    have f16 := free_of HR6.out.rr 1
    have HR7 := Lib.hid (HR8.out _ HR6.out)
    go_wp2_with (first
      | (go_at_call 53; refine (HDIG.out _).mono ?_; rintro e w7 ⟨rfl, h7⟩; obtain rfl := h7.symm; simp only [])
      | (go_at_call 54; refine (HBR.out _ HR7.out).mono ?_; rintro e w8 ⟨va', n', c', rfl, h8⟩; have H8 := Lib.hid h8; clear h8; simp only []))
    exact H8.out
  have n123 : ¬ ((c0.toNat : Int) = 123) := fun e => e123 (UInt8.toNat_inj.1 (by have : ((123 : UInt8).toNat : Int) = 123 := rfl; omega))
  have z123 : ((c0.toNat : Int) == 123) = false := beq_eq_false_iff_ne.2 n123
  by_cases e40 : c0 = 40
  · have z40 : ((c0.toNat : Int) == 40) = true := by rw [e40]; rfl
    have n40 : (c0.toNat : Int) = 40 := by rw [e40]; rfl
    rw [n40] at HDIG
    have hh := (HHD.out 40 (by decide)).2 e40
    have hltb : b < S.size := by
      cases hx : s with
      | nil => rw [hx] at hh; cases hh
      | cons x r => rw [hx] at hsl; simp at hsl; omega
    obtain ⟨c1, hc1⟩ : ∃ c1, seeF S (b + 1) = c1 := ⟨_, rfl⟩
    have hh1 : s.tail.head? = some 40 ↔ c1 = 40 := by rw [htl, ← hc1]; exact head_see (by decide)
    have HSEE1 : Hid (∀ w5, RS w0 w5 rb B S b 0 (.slice va n c) l L → Calls Try.prog 26 #[.pointer (some ⟨rb, 0, none⟩), .int .i64 1] w5 fun e w' => e = .returned (.int .u8 c1.toNat) ∧ Below w5.heap.size w5 w') := fun w5 h => see_seq h.rr 1 1 (b + 1) rfl rfl (by omega) (by omega) hc1
    by_cases e41 : c1 = 40
    · have n40' : (c1.toNat : Int) = 40 := by rw [e41]; rfl
      have z40' : ((c1.toNat : Int) == 40) = true := by rw [n40']; rfl
      obtain ⟨m, hm⟩ : ∃ m, b + 2 = m := ⟨_, rfl⟩
      have hmS : m ≤ S.size := by
        by_cases h : b + 1 < S.size
        · omega
        · rw [seeF_off (by omega)] at hc1
          rw [← hc1] at e41; exact absurd e41 (by decide)
      have hwm : IntKind.i64.wrap ((b : Int) + 2) = (m : Int) := (IntWalk.i64_in _ (by omega)).trans (by omega)
      have HDF : Hid (dollF (wordC q (d + 1)) q d p s = calcR q p (S.data.toList.drop m)) := by rw [Hid, dollB_calc hh (hh1.2 e41), ← HSD.out, List.drop_drop, hm]
      have HBR : Hid (∀ w7, RS w0 w7 rb B S m 0 (.slice va n c) l L → Calls Try.prog 55 #[.pointer (some ⟨rb, 0, none⟩), .slice va n c, .bool q] w7 fun e w' => ∃ va' n' c', e = .returned (.slice va' n' c') ∧ Q e w') := fun w7 h7 => (RCalc_any q d (HIN.out w7 m h7 (by omega) hmS) hZ (by omega)).mono (by
        intro e w' hq
        obtain ⟨va', n', c', _, _, _, _, e1, _⟩ := id hq
        refine ⟨va', n', c', e1, ?_⟩
        rw [← HQ.out, HSD.out, HDF.out]
        exact hq)
      have HR8 : Hid (∀ w7, RS w0 w7 rb B S b 0 (.slice va n c) l L → RS w0 (w7.setCell ⟨rb, 1, none⟩ (.int .i64 (m : Int))) rb B S m 0 (.slice va n c) l L) := fun w7 h => h.setI m rfl
      clear hh hh1 hm htl hpl0 hnll e63 e35 e64 e42 e123 e40 e41 hc1
      go_enter Try.func41, Try.ntmps41
      go_wp2_with (go_at_call 26; (with_reducible refine (HSEE0.out _ HR1.out).mono ?_); rintro e w5 ⟨rfl, h5⟩; have HR5 := Lib.hid (HR1.out.under h5); clear h5 q1 f1; have q05 : w5.cell? ⟨rb, 0, none⟩ = some (.string S) := cell_of HR5.out.rr 0; have q15 : w5.cell? ⟨rb, 1, none⟩ = some (.int .i64 b) := cell_of HR5.out.rr 1; simp only [])
      go_quiet ((go_at_call 52; exact Calls.quiet_of_same (HNL.out _)))
      have hbn := drew_below w5 nq
      obtain ⟨w6, hw6⟩ : ∃ wv, World.drewN w5 nq = wv := ⟨_, rfl⟩
      rw [hw6] at hbn ⊢
      have HR6 := Lib.hid (HR5.out.under hbn)
      clear hw6 hbn q05 q15
      have q06 : w6.cell? ⟨rb, 0, none⟩ = some (.string S) := cell_of HR6.out.rr 0
      have q16 : w6.cell? ⟨rb, 1, none⟩ = some (.int .i64 b) := cell_of HR6.out.rr 1
      have f16 := free_of HR6.out.rr 1
      go_wp2_with (first
        | (go_at_call 53; refine (HDIG.out _).mono ?_; rintro e w7 ⟨rfl, h7⟩; obtain rfl := h7.symm; simp only [])
        | (go_at_call 26; (with_reducible refine (HSEE1.out _ HR6.out).mono ?_); rintro e w9 ⟨rfl, h9⟩; have HR9 := Lib.hid (HR6.out.under h9); clear h9 q06 q16 f16; have q19 : w9.cell? ⟨rb, 1, none⟩ = some (.int .i64 b) := cell_of HR9.out.rr 1; have f19 := free_of HR9.out.rr 1; have HR7 := Lib.hid (HR8.out _ HR9.out); simp only [])
        | (go_at_call 55; refine (HBR.out _ HR7.out).mono ?_; rintro e w8 ⟨va', n', c', rfl, h8⟩; have H8 := Lib.hid h8; clear h8; simp only []))
      exact H8.out
    · have n40' : ¬ ((c1.toNat : Int) = 40) := fun e => e41 (UInt8.toNat_inj.1 (by have : ((40 : UInt8).toNat : Int) = 40 := rfl; omega))
      have z40' : ((c1.toNat : Int) == 40) = false := beq_eq_false_iff_ne.2 n40'
      obtain ⟨m, hm⟩ : ∃ m, b + 1 = m := ⟨_, rfl⟩
      have hmS : m ≤ S.size := by omega
      have hwm : IntKind.i64.wrap ((b : Int) + 1) = (m : Int) := (IntWalk.i64_in _ (by omega)).trans (by omega)
      have HDF : Hid (dollF (wordC q (d + 1)) q d p s = subR q p (S.data.toList.drop m)) := by rw [Hid, dollB_sub hh (fun e => e41 (hh1.1 e)), htl, hm]
      have HBR : Hid (∀ w7, RS w0 w7 rb B S m 0 (.slice va n c) l L → Calls Try.prog 56 #[.pointer (some ⟨rb, 0, none⟩), .slice va n c, .bool q] w7 fun e w' => ∃ va' n' c', e = .returned (.slice va' n' c') ∧ Q e w') := fun w7 h7 => (RSub_any q d (HIN.out w7 m h7 (by omega) hmS) hZ (by omega)).mono (by
        intro e w' hq
        obtain ⟨va', n', c', _, _, _, _, e1, _⟩ := id hq
        refine ⟨va', n', c', e1, ?_⟩
        rw [← HQ.out, HSD.out, HDF.out]
        exact hq)
      have HR8 : Hid (∀ w7, RS w0 w7 rb B S b 0 (.slice va n c) l L → RS w0 (w7.setCell ⟨rb, 1, none⟩ (.int .i64 (m : Int))) rb B S m 0 (.slice va n c) l L) := fun w7 h => h.setI m rfl
      clear hh hh1 hm htl hpl0 hnll e63 e35 e64 e42 e123 e40 e41 hc1
      go_enter Try.func41, Try.ntmps41
      go_wp2_with (go_at_call 26; (with_reducible refine (HSEE0.out _ HR1.out).mono ?_); rintro e w5 ⟨rfl, h5⟩; have HR5 := Lib.hid (HR1.out.under h5); clear h5 q1 f1; have q05 : w5.cell? ⟨rb, 0, none⟩ = some (.string S) := cell_of HR5.out.rr 0; have q15 : w5.cell? ⟨rb, 1, none⟩ = some (.int .i64 b) := cell_of HR5.out.rr 1; simp only [])
      go_quiet ((go_at_call 52; exact Calls.quiet_of_same (HNL.out _)))
      have hbn := drew_below w5 nq
      obtain ⟨w6, hw6⟩ : ∃ wv, World.drewN w5 nq = wv := ⟨_, rfl⟩
      rw [hw6] at hbn ⊢
      have HR6 := Lib.hid (HR5.out.under hbn)
      clear hw6 hbn q05 q15
      have q06 : w6.cell? ⟨rb, 0, none⟩ = some (.string S) := cell_of HR6.out.rr 0
      have q16 : w6.cell? ⟨rb, 1, none⟩ = some (.int .i64 b) := cell_of HR6.out.rr 1
      have f16 := free_of HR6.out.rr 1
      go_wp2_with (first
        | (go_at_call 53; refine (HDIG.out _).mono ?_; rintro e w7 ⟨rfl, h7⟩; obtain rfl := h7.symm; simp only [])
        | (go_at_call 26; (with_reducible refine (HSEE1.out _ HR6.out).mono ?_); rintro e w9 ⟨rfl, h9⟩; have HR9 := Lib.hid (HR6.out.under h9); clear h9 q06 q16 f16; have q19 : w9.cell? ⟨rb, 1, none⟩ = some (.int .i64 b) := cell_of HR9.out.rr 1; have f19 := free_of HR9.out.rr 1; have HR7 := Lib.hid (HR8.out _ HR9.out); simp only [])
        | (go_at_call 56; refine (HBR.out _ HR7.out).mono ?_; rintro e w8 ⟨va', n', c', rfl, h8⟩; have H8 := Lib.hid h8; clear h8; simp only []))
      exact H8.out
  have n40 : ¬ ((c0.toNat : Int) = 40) := fun e => e40 (UInt8.toNat_inj.1 (by have : ((40 : UInt8).toNat : Int) = 40 := rfl; omega))
  have z40 : ((c0.toNat : Int) == 40) = false := beq_eq_false_iff_ne.2 n40
  have HDF := Lib.hid (dollB_put (W := wordC q (d + 1)) (q := q) (d := d) (p := p) (fun e => e123 ((HHD.out 123 (by decide)).1 e)) (fun e => e40 ((HHD.out 40 (by decide)).1 e)) hpl0)
  cases q with
  | true =>
    have HPUT : Hid (∀ w7, RS w0 w7 rb B S b 0 (.slice va n c) l L → Calls Try.prog 40 #[.slice va n c, .agg #[.int .i64 2, .string ⟨#[36]⟩, .string ⟨#[]⟩, .string ⟨#[]⟩, .slice none 0 0, .bool false]] w7 fun e w' => ∃ va' n' c', e = .returned (.slice va' n' c') ∧ Q e w') := fun w7 h7 => (RPutS h7 HLL.out 2 2 rfl ⟨#[36]⟩ (fun _ => by decide)).mono (by
      rintro e w' ⟨va', n', c', L', rfl, h8⟩
      refine ⟨va', n', c', rfl, ?_⟩
      rw [← HQ.out, HSD.out, HDF.out]
      exact RS.text H0.out.ok H0.out.eqv h8 (by decide) (by decide) (by omega) HSD.out (by show SZ l + 1 + 1 + _ ≤ Z; omega))
    clear htl hpl0 hnll e63 e35 e64 e42 e123 e40
    go_enter Try.func41, Try.ntmps41
    go_wp2_with (go_at_call 26; (with_reducible refine (HSEE0.out _ HR1.out).mono ?_); rintro e w5 ⟨rfl, h5⟩; have HR5 := Lib.hid (HR1.out.under h5); clear h5 q1 f1; have q05 : w5.cell? ⟨rb, 0, none⟩ = some (.string S) := cell_of HR5.out.rr 0; have q15 : w5.cell? ⟨rb, 1, none⟩ = some (.int .i64 b) := cell_of HR5.out.rr 1; simp only [])
    go_quiet ((go_at_call 52; exact Calls.quiet_of_same (HNL.out _)))
    have hbn := drew_below w5 nq
    obtain ⟨w6, hw6⟩ : ∃ wv, World.drewN w5 nq = wv := ⟨_, rfl⟩
    rw [hw6] at hbn ⊢
    have HR6 := Lib.hid (HR5.out.under hbn)
    clear hw6 hbn q05 q15
    have q06 : w6.cell? ⟨rb, 0, none⟩ = some (.string S) := cell_of HR6.out.rr 0
    have q16 : w6.cell? ⟨rb, 1, none⟩ = some (.int .i64 b) := cell_of HR6.out.rr 1
    have f16 := free_of HR6.out.rr 1
    go_wp2_with (first
      | (go_at_call 53; refine (HDIG.out _).mono ?_; rintro e w7 ⟨rfl, h7⟩; obtain rfl := h7.symm; simp only [])
      | (go_at_call 40; refine (HPUT.out _ HR6.out).mono ?_; rintro e w8 ⟨va', n', c', rfl, h8⟩; have H8 := Lib.hid h8; clear h8; simp only []))
    exact H8.out
  | false =>
    have HPUT : Hid (∀ w7, RS w0 w7 rb B S b 0 (.slice va n c) l L → Calls Try.prog 40 #[.slice va n c, .agg #[.int .i64 1, .string ⟨#[36]⟩, .string ⟨#[]⟩, .string ⟨#[]⟩, .slice none 0 0, .bool false]] w7 fun e w' => ∃ va' n' c', e = .returned (.slice va' n' c') ∧ Q e w') := fun w7 h7 => (RPutS h7 HLL.out 1 1 rfl ⟨#[36]⟩ (fun _ => by decide)).mono (by
      rintro e w' ⟨va', n', c', L', rfl, h8⟩
      refine ⟨va', n', c', rfl, ?_⟩
      rw [← HQ.out, HSD.out, HDF.out]
      exact RS.text H0.out.ok H0.out.eqv h8 (by decide) (by decide) (by omega) HSD.out (by show SZ l + 1 + 1 + _ ≤ Z; omega))
    clear htl hpl0 hnll e63 e35 e64 e42 e123 e40
    go_enter Try.func41, Try.ntmps41
    go_wp2_with (go_at_call 26; (with_reducible refine (HSEE0.out _ HR1.out).mono ?_); rintro e w5 ⟨rfl, h5⟩; have HR5 := Lib.hid (HR1.out.under h5); clear h5 q1 f1; have q05 : w5.cell? ⟨rb, 0, none⟩ = some (.string S) := cell_of HR5.out.rr 0; have q15 : w5.cell? ⟨rb, 1, none⟩ = some (.int .i64 b) := cell_of HR5.out.rr 1; simp only [])
    go_quiet ((go_at_call 52; exact Calls.quiet_of_same (HNL.out _)))
    have hbn := drew_below w5 nq
    obtain ⟨w6, hw6⟩ : ∃ wv, World.drewN w5 nq = wv := ⟨_, rfl⟩
    rw [hw6] at hbn ⊢
    have HR6 := Lib.hid (HR5.out.under hbn)
    clear hw6 hbn q05 q15
    have q06 : w6.cell? ⟨rb, 0, none⟩ = some (.string S) := cell_of HR6.out.rr 0
    have q16 : w6.cell? ⟨rb, 1, none⟩ = some (.int .i64 b) := cell_of HR6.out.rr 1
    have f16 := free_of HR6.out.rr 1
    go_wp2_with (first
      | (go_at_call 53; refine (HDIG.out _).mono ?_; rintro e w7 ⟨rfl, h7⟩; obtain rfl := h7.symm; simp only [])
      | (go_at_call 40; refine (HPUT.out _ HR6.out).mono ?_; rintro e w8 ⟨va', n', c', rfl, h8⟩; have H8 := Lib.hid h8; clear h8; simp only []))
    exact H8.out
end Go.Proofs.Ytafbheplaheohaa
