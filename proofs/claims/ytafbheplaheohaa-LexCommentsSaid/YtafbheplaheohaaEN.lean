import Derived.Test.YtafbheplaheohaaEM
namespace Go.Proofs.Ytafbheplaheohaa
open Go.RowKit
set_option linter.unusedVariables false

/-- One step between quotes. -/
def innerF (d : Nat) (p : PS) : Bz → Res (PS × Bz)
  | [] => .error 2
  | c :: r => if c = 34 ∨ c = 96 then .error 2 else if c = 36 then dollF (wordC true (d + 1)) true d p r else if c = 92 then .ok (escF true p r) else .ok (p.put 2 [c], r)
set_option maxRecDepth 100000 in
set_option maxHeartbeats 16000000 in
theorem RInner_any {w0 w : World} {rb B : Nat} {S : ByteArray} {a : Nat} {va : Option Addr} {n c : Nat} {l : List Prt} {L : List Pt} {p : PS} {Z : Nat} (d : Nat) (hd : d ≤ 40) (h : RIn w0 w rb B S a (.slice va n c) l L p Z) (hlt : a < S.size) (hZ : Z ≤ 60000) (hS : S.size ≤ 16384) (ih : ∀ m, m < S.size - a → RWP m) :
    Calls Try.prog 38 #[.pointer (some ⟨rb, 0, none⟩), .slice va n c, .int .i64 d] w (RStep w0 rb B S d Z (innerF d p (S.data.toList.drop a))) := by
  obtain ⟨b, hb⟩ : ∃ b, a + 1 = b := ⟨_, rfl⟩
  have hat := data_get S a hlt
  obtain ⟨c0, hch⟩ : ∃ ch, S[a]'hlt = ch := ⟨_, rfl⟩
  rw [hch] at hat
  have hdr := at_drop hat
  rw [hb] at hdr
  obtain ⟨Q, hQ⟩ : ∃ Q, RStep w0 rb B S d Z (innerF d p (S.data.toList.drop a)) = Q := ⟨_, rfl⟩
  rw [hQ]
  rw [hdr] at hQ
  have HQ := Lib.hid hQ
  have H0 := Lib.hid h
  have hszz := h.sz
  have HDR := Lib.hid hdr
  obtain ⟨r, hr⟩ : ∃ r, S.data.toList.drop b = r := ⟨_, rfl⟩
  have HRD := Lib.hid hr
  have haw : IntKind.i64.wrap ((a : Int) + 1) = (b : Int) := (IntWalk.i64_in _ (by omega)).trans (by omega)
  have HLL : Hid (l.length ≤ 90000) := by
    have : l.length ≤ SZ l := by unfold SZ; omega
    rw [Hid]; omega
  have HSEE0 : Hid (∀ w5, RS w0 w5 rb B S a 0 (.slice va n c) l L → Calls Try.prog 26 #[.pointer (some ⟨rb, 0, none⟩), .int .i64 0] w5 fun e w' => e = .returned (.int .u8 c0.toNat) ∧ Below w5.heap.size w5 w') := fun w5 h => see_seq h.rr 0 0 a rfl rfl (by omega) (by omega) (seeF_head hdr)
  obtain ⟨c1, hc1⟩ : ∃ c1, seeF S b = c1 := ⟨_, rfl⟩
  have HSEE1 : Hid (∀ w5, RS w0 w5 rb B S a 0 (.slice va n c) l L → Calls Try.prog 26 #[.pointer (some ⟨rb, 0, none⟩), .int .i64 1] w5 fun e w' => e = .returned (.int .u8 c1.toNat) ∧ Below w5.heap.size w5 w') := fun w5 h => see_seq h.rr 1 1 b rfl hb (by omega) (by omega) hc1
  have HHD : Hid (∀ x : UInt8, x ≠ 0 → (r.head? = some x ↔ c1 = x)) := fun x hx => by rw [← hr, ← hc1]; exact head_see hx
  have HIH := Lib.hid ih
  have HFL : Hid (∀ w5, RS w0 w5 rb B S a 0 (.slice va n c) l L → innerF d p (c0 :: r) = .error 2 → Calls Try.prog 39 #[.pointer (some ⟨rb, 0, none⟩), .int .i64 2] w5 fun e w' => e = .returned (.tuple #[]) ∧ Q (.returned (.slice va n c)) w') := fun w5 h5 hn => (fail_any h5.rr 2 2 rfl).mono (by
    rintro e w' ⟨rfl, h1, h2⟩
    refine ⟨rfl, ?_⟩
    rw [← HQ.out, HRD.out, hn]
    exact RS.failed H0.out.ok (h5.rb h1 h2) (by decide) (by unfold EAt; omega) (by omega))
  -- a byte more
  have HPUT : Hid (∀ (X : ByteArray) x m w7, X.data.toList = [x] → innerF d p (c0 :: r) = .ok (p.put 2 [x], S.data.toList.drop m) → a < m → m ≤ S.size → RS w0 w7 rb B S m 0 (.slice va n c) l L → Calls Try.prog 40 #[.slice va n c, .agg #[.int .i64 2, .string X, .string ⟨#[]⟩, .string ⟨#[]⟩, .slice none 0 0, .bool false]] w7 fun e w' => ∃ va' n' c', e = .returned (.slice va' n' c') ∧ Q e w') := fun X x m w7 hX hf h1 h2 h7 => (RPutS h7 HLL.out 2 2 rfl X (fun e => absurd e (by decide))).mono (by
    rintro e w' ⟨va', n', c', L', rfl, h8⟩
    refine ⟨va', n', c', rfl, ?_⟩
    rw [← HQ.out, HRD.out, hf]
    rw [hX] at h8
    exact RS.text H0.out.ok H0.out.eqv h8 (by decide) (by simp) h2 rfl (by show SZ l + 1 + 1 + _ ≤ Z; omega))
  clear hQ h ih hr hch hat
  by_cases e34 : c0 = 34
  · have nc034 : (c0.toNat : Int) = 34 := by rw [e34]; rfl
    have HF : Hid (innerF d p (c0 :: r) = .error 2) := by rw [e34]; rfl
    clear hdr hb hc1 e34
    go_enter Try.func38, Try.ntmps38
    go_wp2_with (first
      | (go_at_call 26; first
          | ((with_reducible refine (HSEE0.out _ H0.out.rs).mono ?_); rintro e w5 ⟨rfl, h5⟩; have HR5 := Lib.hid (H0.out.rs.under h5); clear h5; have q15 : w5.cell? ⟨rb, 1, none⟩ = some (.int .i64 a) := cell_of HR5.out.rr 1; have f15 := free_of HR5.out.rr 1; simp only [])
          | ((with_reducible refine (HSEE1.out _ HR5.out).mono ?_); rintro e w5 ⟨rfl, h5⟩; have HR5 := Lib.hid (HR5.out.under h5); clear h5 q15 f15; have q15 : w5.cell? ⟨rb, 1, none⟩ = some (.int .i64 a) := cell_of HR5.out.rr 1; have f15 := free_of HR5.out.rr 1; simp only []))
      | (go_at_call 39; refine (HFL.out _ HR5.out HF.out).mono ?_; rintro e w6 ⟨rfl, h6⟩; have H6 := Lib.hid h6; clear h6; simp only []))
    exact H6.out
  by_cases e96 : c0 = 96
  · have nc034 : ¬ ((c0.toNat : Int) = 34) := fun e => e34 (UInt8.toNat_inj.1 (by have : ((34 : UInt8).toNat : Int) = 34 := rfl; omega))
    have zc034 : ((c0.toNat : Int) == 34) = false := beq_eq_false_iff_ne.2 nc034
    have nc096 : (c0.toNat : Int) = 96 := by rw [e96]; rfl
    have HF : Hid (innerF d p (c0 :: r) = .error 2) := by rw [e96]; rfl
    clear hdr hb hc1 e34 e96
    go_enter Try.func38, Try.ntmps38
    go_wp2_with (first
      | (go_at_call 26; first
          | ((with_reducible refine (HSEE0.out _ H0.out.rs).mono ?_); rintro e w5 ⟨rfl, h5⟩; have HR5 := Lib.hid (H0.out.rs.under h5); clear h5; have q15 : w5.cell? ⟨rb, 1, none⟩ = some (.int .i64 a) := cell_of HR5.out.rr 1; have f15 := free_of HR5.out.rr 1; simp only [])
          | ((with_reducible refine (HSEE1.out _ HR5.out).mono ?_); rintro e w5 ⟨rfl, h5⟩; have HR5 := Lib.hid (HR5.out.under h5); clear h5 q15 f15; have q15 : w5.cell? ⟨rb, 1, none⟩ = some (.int .i64 a) := cell_of HR5.out.rr 1; have f15 := free_of HR5.out.rr 1; simp only []))
      | (go_at_call 39; refine (HFL.out _ HR5.out HF.out).mono ?_; rintro e w6 ⟨rfl, h6⟩; have H6 := Lib.hid h6; clear h6; simp only []))
    exact H6.out
  have nc034 : ¬ ((c0.toNat : Int) = 34) := fun e => e34 (UInt8.toNat_inj.1 (by have : ((34 : UInt8).toNat : Int) = 34 := rfl; omega))
  have zc034 : ((c0.toNat : Int) == 34) = false := beq_eq_false_iff_ne.2 nc034
  have nc096 : ¬ ((c0.toNat : Int) = 96) := fun e => e96 (UInt8.toNat_inj.1 (by have : ((96 : UInt8).toNat : Int) = 96 := rfl; omega))
  have zc096 : ((c0.toNat : Int) == 96) = false := beq_eq_false_iff_ne.2 nc096
  by_cases e36 : c0 = 36
  · have nc036 : (c0.toNat : Int) = 36 := by rw [e36]; rfl
    have HF : Hid (innerF d p (c0 :: r) = dollF (wordC true (d + 1)) true d p (S.data.toList.drop (a + 1))) := by rw [hb, HRD.out, e36]; rfl
    have HDO : Hid (∀ w7, RS w0 w7 rb B S a 0 (.slice va n c) l L → Calls Try.prog 41 #[.pointer (some ⟨rb, 0, none⟩), .slice va n c, .int .i64 d, .bool true] w7 fun e w' => ∃ va' n' c', e = .returned (.slice va' n' c') ∧ Q e w') := fun w7 h7 => (RDollar_any true d hd ⟨h7, H0.out.ok, H0.out.eqv, H0.out.sz, H0.out.le⟩ hlt hZ hS HIH.out).mono (by
      intro e w' hq
      obtain ⟨va', n', c', _, _, _, _, e1, _⟩ := id hq
      refine ⟨va', n', c', e1, ?_⟩
      rw [← HQ.out, HRD.out, HF.out]
      exact hq)
    clear hdr hb hc1 e34 e96 e36
    go_enter Try.func38, Try.ntmps38
    go_wp2_with (first
      | (go_at_call 26; first
          | ((with_reducible refine (HSEE0.out _ H0.out.rs).mono ?_); rintro e w5 ⟨rfl, h5⟩; have HR5 := Lib.hid (H0.out.rs.under h5); clear h5; have q15 : w5.cell? ⟨rb, 1, none⟩ = some (.int .i64 a) := cell_of HR5.out.rr 1; have f15 := free_of HR5.out.rr 1; simp only [])
          | ((with_reducible refine (HSEE1.out _ HR5.out).mono ?_); rintro e w5 ⟨rfl, h5⟩; have HR5 := Lib.hid (HR5.out.under h5); clear h5 q15 f15; have q15 : w5.cell? ⟨rb, 1, none⟩ = some (.int .i64 a) := cell_of HR5.out.rr 1; have f15 := free_of HR5.out.rr 1; simp only []))
      | (go_at_call 41; refine (HDO.out _ HR5.out).mono ?_; rintro e w8 ⟨va', n', c', rfl, h8⟩; have H8 := Lib.hid h8; clear h8; simp only []))
    exact H8.out
  have nc036 : ¬ ((c0.toNat : Int) = 36) := fun e => e36 (UInt8.toNat_inj.1 (by have : ((36 : UInt8).toNat : Int) = 36 := rfl; omega))
  have zc036 : ((c0.toNat : Int) == 36) = false := beq_eq_false_iff_ne.2 nc036
  by_cases e92 : c0 = 92
  · have nc092 : (c0.toNat : Int) = 92 := by rw [e92]; rfl
    by_cases e10 : c1 = 10
    · have nc110 : (c1.toNat : Int) = 10 := by rw [e10]; rfl
      obtain ⟨m, hm⟩ : ∃ m, a + 2 = m := ⟨_, rfl⟩
      have hh := (HHD.out 10 (by decide)).2 e10
      have hbS : b < S.size := by
        by_cases h : b < S.size
        · exact h
        · rw [seeF_off (by omega)] at hc1
          rw [← hc1] at e10; exact absurd e10 (by decide)
      have hmS : m ≤ S.size := by omega
      have hwm : IntKind.i64.wrap ((a : Int) + 2) = (m : Int) := (IntWalk.i64_in _ (by omega)).trans (by omega)
      have HF : Hid (innerF d p (c0 :: r) = .ok (p, S.data.toList.drop m)) := by
        rw [e92]
        cases hr : r with
        | nil => rw [hr] at hh; cases hh
        | cons x r' =>
          rw [hr] at hh
          have hx : x = 10 := by simpa using hh
          have : S.data.toList.drop m = r' := by rw [show m = b + 1 by omega, ← List.drop_drop, HRD.out, hr]; rfl
          rw [this, hx]; rfl
      have HDN : Hid (∀ w7, RS w0 w7 rb B S m 0 (.slice va n c) l L → Q (.returned (.slice va n c)) w7) := fun w7 h7 => by
        rw [← HQ.out, HRD.out, HF.out]
        exact ⟨va, n, c, l, L, m, 0, rfl, h7, H0.out.ok, rfl, hmS, rfl, H0.out.eqv, by omega⟩
      clear hdr hb hc1 e34 e96 e36 e92 e10 hh hm
      go_enter Try.func38, Try.ntmps38
      go_wp2_with (first
        | (go_at_call 26; first
            | ((with_reducible refine (HSEE0.out _ H0.out.rs).mono ?_); rintro e w5 ⟨rfl, h5⟩; have HR5 := Lib.hid (H0.out.rs.under h5); clear h5; have q15 : w5.cell? ⟨rb, 1, none⟩ = some (.int .i64 a) := cell_of HR5.out.rr 1; have f15 := free_of HR5.out.rr 1; simp only [])
            | ((with_reducible refine (HSEE1.out _ HR5.out).mono ?_); rintro e w5 ⟨rfl, h5⟩; have HR5 := Lib.hid (HR5.out.under h5); clear h5 q15 f15; have q15 : w5.cell? ⟨rb, 1, none⟩ = some (.int .i64 a) := cell_of HR5.out.rr 1; have f15 := free_of HR5.out.rr 1; simp only [])))
      exact HDN.out _ (HR5.out.setI m (ai := (m : Int)) rfl)
    have nc110 : ¬ ((c1.toNat : Int) = 10) := fun e => e10 (UInt8.toNat_inj.1 (by have : ((10 : UInt8).toNat : Int) = 10 := rfl; omega))
    have zc110 : ((c1.toNat : Int) == 10) = false := beq_eq_false_iff_ne.2 nc110
    by_cases g36 : c1 = 36
    · have nc136 : (c1.toNat : Int) = 36 := by rw [g36]; rfl
      have hbS : b < S.size := by
        by_cases h : b < S.size
        · exact h
        · rw [seeF_off (by omega)] at hc1
          rw [← hc1] at g36; exact absurd g36 (by decide)
      obtain ⟨m, hm⟩ : ∃ m, b + 1 = m := ⟨_, rfl⟩
      have hmS : m ≤ S.size := by omega
      have ham : a < m := by omega
      have hfm : b ≤ m := by omega
      have hfmI : (b : Int) ≤ (m : Int) := by omega
      have hmSI : (m : Int) ≤ (S.size : Int) := by omega
      have hf0 : (0 : Int) ≤ (b : Int) := by omega
      have hwm : IntKind.i64.wrap ((b : Int) + 1) = (m : Int) := (IntWalk.i64_in _ (by omega)).trans (by omega)
      have hwm2 : IntKind.i64.wrap ((m : Int) - 1) = (b : Int) := (IntWalk.i64_in _ (by omega)).trans (by omega)
      have hX := ext_dt (t := S) (a := b) (b := m) hfm hmS
      obtain ⟨X, hXX⟩ : ∃ X, S.extract b m = X := ⟨_, rfl⟩
      rw [hXX] at hX
      have hh := (HHD.out 36 (by decide)).2 g36
      have hrr : r = 36 :: S.data.toList.drop m := by
        cases hr : r with
        | nil => rw [hr] at hh; cases hh
        | cons x r' =>
          rw [hr] at hh
          have hx : x = 36 := by simpa using hh
          have : S.data.toList.drop m = r' := by rw [← hm, ← List.drop_drop, HRD.out, hr]; rfl
          rw [this, hx]
      have HX : Hid (X.data.toList = [36]) := by rw [Hid, hX.1, List.drop_take, HRD.out, hrr, show m - b = 1 by omega]; rfl
      have HF : Hid (innerF d p (c0 :: r) = .ok (p.put 2 [36], S.data.toList.drop m)) := by rw [e92, hrr]; rfl
      clear hh hrr
      clear hX hm hb hc1 hdr e34 e96 e36 e92 e10 g36
      go_enter Try.func38, Try.ntmps38
      go_wp2_with (first
        | (go_at_call 26; first
            | ((with_reducible refine (HSEE0.out _ H0.out.rs).mono ?_); rintro e w5 ⟨rfl, h5⟩; have HR5 := Lib.hid (H0.out.rs.under h5); clear h5; have q15 : w5.cell? ⟨rb, 1, none⟩ = some (.int .i64 a) := cell_of HR5.out.rr 1; have f15 := free_of HR5.out.rr 1; simp only [])
            | ((with_reducible refine (HSEE1.out _ HR5.out).mono ?_); rintro e w5 ⟨rfl, h5⟩; have HR5 := Lib.hid (HR5.out.under h5); clear h5 q15 f15; have q15 : w5.cell? ⟨rb, 1, none⟩ = some (.int .i64 a) := cell_of HR5.out.rr 1; have f15 := free_of HR5.out.rr 1; simp only [])))
      have HRM := Lib.hid ((HR5.out.setI b (ai := (b : Int)) rfl).setI m (ai := (m : Int)) rfl)
      generalize (w5.setCell ⟨rb, 1, none⟩ (.int .i64 (b : Int))).setCell ⟨rb, 1, none⟩ (.int .i64 (m : Int)) = w7 at HRM ⊢
      clear q15 f15
      have q07 : w7.cell? ⟨rb, 0, none⟩ = some (.string S) := cell_of HRM.out.rr 0
      have q17 : w7.cell? ⟨rb, 1, none⟩ = some (.int .i64 m) := cell_of HRM.out.rr 1
      go_still_tail 16, (by kernel_rfl)
      change wpList _ _ _ _ _ w7.drew
      have HRd : Hid (RS w0 w7.drew rb B S m 0 (.slice va n c) l L) := HRM.out.under (drew_below w7 1)
      clear q07 q17
      go_wp2_with (go_at_call 40; refine (HPUT.out X _ m _ HX.out HF.out ham hmS HRd.out).mono ?_; rintro e w8 ⟨va', n', c', rfl, h8⟩; have H8 := Lib.hid h8; clear h8; simp only [])
      exact H8.out
    by_cases g34 : c1 = 34
    · have nc136 : ¬ ((c1.toNat : Int) = 36) := fun e => g36 (UInt8.toNat_inj.1 (by have : ((36 : UInt8).toNat : Int) = 36 := rfl; omega))
      have zc136 : ((c1.toNat : Int) == 36) = false := beq_eq_false_iff_ne.2 nc136
      have nc134 : (c1.toNat : Int) = 34 := by rw [g34]; rfl
      have hbS : b < S.size := by
        by_cases h : b < S.size
        · exact h
        · rw [seeF_off (by omega)] at hc1
          rw [← hc1] at g34; exact absurd g34 (by decide)
      obtain ⟨m, hm⟩ : ∃ m, b + 1 = m := ⟨_, rfl⟩
      have hmS : m ≤ S.size := by omega
      have ham : a < m := by omega
      have hfm : b ≤ m := by omega
      have hfmI : (b : Int) ≤ (m : Int) := by omega
      have hmSI : (m : Int) ≤ (S.size : Int) := by omega
      have hf0 : (0 : Int) ≤ (b : Int) := by omega
      have hwm : IntKind.i64.wrap ((b : Int) + 1) = (m : Int) := (IntWalk.i64_in _ (by omega)).trans (by omega)
      have hwm2 : IntKind.i64.wrap ((m : Int) - 1) = (b : Int) := (IntWalk.i64_in _ (by omega)).trans (by omega)
      have hX := ext_dt (t := S) (a := b) (b := m) hfm hmS
      obtain ⟨X, hXX⟩ : ∃ X, S.extract b m = X := ⟨_, rfl⟩
      rw [hXX] at hX
      have hh := (HHD.out 34 (by decide)).2 g34
      have hrr : r = 34 :: S.data.toList.drop m := by
        cases hr : r with
        | nil => rw [hr] at hh; cases hh
        | cons x r' =>
          rw [hr] at hh
          have hx : x = 34 := by simpa using hh
          have : S.data.toList.drop m = r' := by rw [← hm, ← List.drop_drop, HRD.out, hr]; rfl
          rw [this, hx]
      have HX : Hid (X.data.toList = [34]) := by rw [Hid, hX.1, List.drop_take, HRD.out, hrr, show m - b = 1 by omega]; rfl
      have HF : Hid (innerF d p (c0 :: r) = .ok (p.put 2 [34], S.data.toList.drop m)) := by rw [e92, hrr]; rfl
      clear hh hrr
      clear hX hm hb hc1 hdr e34 e96 e36 e92 e10 g36 g34
      go_enter Try.func38, Try.ntmps38
      go_wp2_with (first
        | (go_at_call 26; first
            | ((with_reducible refine (HSEE0.out _ H0.out.rs).mono ?_); rintro e w5 ⟨rfl, h5⟩; have HR5 := Lib.hid (H0.out.rs.under h5); clear h5; have q15 : w5.cell? ⟨rb, 1, none⟩ = some (.int .i64 a) := cell_of HR5.out.rr 1; have f15 := free_of HR5.out.rr 1; simp only [])
            | ((with_reducible refine (HSEE1.out _ HR5.out).mono ?_); rintro e w5 ⟨rfl, h5⟩; have HR5 := Lib.hid (HR5.out.under h5); clear h5 q15 f15; have q15 : w5.cell? ⟨rb, 1, none⟩ = some (.int .i64 a) := cell_of HR5.out.rr 1; have f15 := free_of HR5.out.rr 1; simp only [])))
      have HRM := Lib.hid ((HR5.out.setI b (ai := (b : Int)) rfl).setI m (ai := (m : Int)) rfl)
      generalize (w5.setCell ⟨rb, 1, none⟩ (.int .i64 (b : Int))).setCell ⟨rb, 1, none⟩ (.int .i64 (m : Int)) = w7 at HRM ⊢
      clear q15 f15
      have q07 : w7.cell? ⟨rb, 0, none⟩ = some (.string S) := cell_of HRM.out.rr 0
      have q17 : w7.cell? ⟨rb, 1, none⟩ = some (.int .i64 m) := cell_of HRM.out.rr 1
      go_still_tail 16, (by kernel_rfl)
      change wpList _ _ _ _ _ w7.drew
      have HRd : Hid (RS w0 w7.drew rb B S m 0 (.slice va n c) l L) := HRM.out.under (drew_below w7 1)
      clear q07 q17
      go_wp2_with (go_at_call 40; refine (HPUT.out X _ m _ HX.out HF.out ham hmS HRd.out).mono ?_; rintro e w8 ⟨va', n', c', rfl, h8⟩; have H8 := Lib.hid h8; clear h8; simp only [])
      exact H8.out
    by_cases g92 : c1 = 92
    · have nc136 : ¬ ((c1.toNat : Int) = 36) := fun e => g36 (UInt8.toNat_inj.1 (by have : ((36 : UInt8).toNat : Int) = 36 := rfl; omega))
      have zc136 : ((c1.toNat : Int) == 36) = false := beq_eq_false_iff_ne.2 nc136
      have nc134 : ¬ ((c1.toNat : Int) = 34) := fun e => g34 (UInt8.toNat_inj.1 (by have : ((34 : UInt8).toNat : Int) = 34 := rfl; omega))
      have zc134 : ((c1.toNat : Int) == 34) = false := beq_eq_false_iff_ne.2 nc134
      have nc192 : (c1.toNat : Int) = 92 := by rw [g92]; rfl
      have hbS : b < S.size := by
        by_cases h : b < S.size
        · exact h
        · rw [seeF_off (by omega)] at hc1
          rw [← hc1] at g92; exact absurd g92 (by decide)
      obtain ⟨m, hm⟩ : ∃ m, b + 1 = m := ⟨_, rfl⟩
      have hmS : m ≤ S.size := by omega
      have ham : a < m := by omega
      have hfm : b ≤ m := by omega
      have hfmI : (b : Int) ≤ (m : Int) := by omega
      have hmSI : (m : Int) ≤ (S.size : Int) := by omega
      have hf0 : (0 : Int) ≤ (b : Int) := by omega
      have hwm : IntKind.i64.wrap ((b : Int) + 1) = (m : Int) := (IntWalk.i64_in _ (by omega)).trans (by omega)
      have hwm2 : IntKind.i64.wrap ((m : Int) - 1) = (b : Int) := (IntWalk.i64_in _ (by omega)).trans (by omega)
      have hX := ext_dt (t := S) (a := b) (b := m) hfm hmS
      obtain ⟨X, hXX⟩ : ∃ X, S.extract b m = X := ⟨_, rfl⟩
      rw [hXX] at hX
      have hh := (HHD.out 92 (by decide)).2 g92
      have hrr : r = 92 :: S.data.toList.drop m := by
        cases hr : r with
        | nil => rw [hr] at hh; cases hh
        | cons x r' =>
          rw [hr] at hh
          have hx : x = 92 := by simpa using hh
          have : S.data.toList.drop m = r' := by rw [← hm, ← List.drop_drop, HRD.out, hr]; rfl
          rw [this, hx]
      have HX : Hid (X.data.toList = [92]) := by rw [Hid, hX.1, List.drop_take, HRD.out, hrr, show m - b = 1 by omega]; rfl
      have HF : Hid (innerF d p (c0 :: r) = .ok (p.put 2 [92], S.data.toList.drop m)) := by rw [e92, hrr]; rfl
      clear hh hrr
      clear hX hm hb hc1 hdr e34 e96 e36 e92 e10 g36 g34 g92
      go_enter Try.func38, Try.ntmps38
      go_wp2_with (first
        | (go_at_call 26; first
            | ((with_reducible refine (HSEE0.out _ H0.out.rs).mono ?_); rintro e w5 ⟨rfl, h5⟩; have HR5 := Lib.hid (H0.out.rs.under h5); clear h5; have q15 : w5.cell? ⟨rb, 1, none⟩ = some (.int .i64 a) := cell_of HR5.out.rr 1; have f15 := free_of HR5.out.rr 1; simp only [])
            | ((with_reducible refine (HSEE1.out _ HR5.out).mono ?_); rintro e w5 ⟨rfl, h5⟩; have HR5 := Lib.hid (HR5.out.under h5); clear h5 q15 f15; have q15 : w5.cell? ⟨rb, 1, none⟩ = some (.int .i64 a) := cell_of HR5.out.rr 1; have f15 := free_of HR5.out.rr 1; simp only [])))
      have HRM := Lib.hid ((HR5.out.setI b (ai := (b : Int)) rfl).setI m (ai := (m : Int)) rfl)
      generalize (w5.setCell ⟨rb, 1, none⟩ (.int .i64 (b : Int))).setCell ⟨rb, 1, none⟩ (.int .i64 (m : Int)) = w7 at HRM ⊢
      clear q15 f15
      have q07 : w7.cell? ⟨rb, 0, none⟩ = some (.string S) := cell_of HRM.out.rr 0
      have q17 : w7.cell? ⟨rb, 1, none⟩ = some (.int .i64 m) := cell_of HRM.out.rr 1
      go_still_tail 16, (by kernel_rfl)
      change wpList _ _ _ _ _ w7.drew
      have HRd : Hid (RS w0 w7.drew rb B S m 0 (.slice va n c) l L) := HRM.out.under (drew_below w7 1)
      clear q07 q17
      go_wp2_with (go_at_call 40; refine (HPUT.out X _ m _ HX.out HF.out ham hmS HRd.out).mono ?_; rintro e w8 ⟨va', n', c', rfl, h8⟩; have H8 := Lib.hid h8; clear h8; simp only [])
      exact H8.out
    by_cases g96 : c1 = 96
    · have nc136 : ¬ ((c1.toNat : Int) = 36) := fun e => g36 (UInt8.toNat_inj.1 (by have : ((36 : UInt8).toNat : Int) = 36 := rfl; omega))
      have zc136 : ((c1.toNat : Int) == 36) = false := beq_eq_false_iff_ne.2 nc136
      have nc134 : ¬ ((c1.toNat : Int) = 34) := fun e => g34 (UInt8.toNat_inj.1 (by have : ((34 : UInt8).toNat : Int) = 34 := rfl; omega))
      have zc134 : ((c1.toNat : Int) == 34) = false := beq_eq_false_iff_ne.2 nc134
      have nc192 : ¬ ((c1.toNat : Int) = 92) := fun e => g92 (UInt8.toNat_inj.1 (by have : ((92 : UInt8).toNat : Int) = 92 := rfl; omega))
      have zc192 : ((c1.toNat : Int) == 92) = false := beq_eq_false_iff_ne.2 nc192
      have nc196 : (c1.toNat : Int) = 96 := by rw [g96]; rfl
      have hbS : b < S.size := by
        by_cases h : b < S.size
        · exact h
        · rw [seeF_off (by omega)] at hc1
          rw [← hc1] at g96; exact absurd g96 (by decide)
      obtain ⟨m, hm⟩ : ∃ m, b + 1 = m := ⟨_, rfl⟩
      have hmS : m ≤ S.size := by omega
      have ham : a < m := by omega
      have hfm : b ≤ m := by omega
      have hfmI : (b : Int) ≤ (m : Int) := by omega
      have hmSI : (m : Int) ≤ (S.size : Int) := by omega
      have hf0 : (0 : Int) ≤ (b : Int) := by omega
      have hwm : IntKind.i64.wrap ((b : Int) + 1) = (m : Int) := (IntWalk.i64_in _ (by omega)).trans (by omega)
      have hwm2 : IntKind.i64.wrap ((m : Int) - 1) = (b : Int) := (IntWalk.i64_in _ (by omega)).trans (by omega)
      have hX := ext_dt (t := S) (a := b) (b := m) hfm hmS
      obtain ⟨X, hXX⟩ : ∃ X, S.extract b m = X := ⟨_, rfl⟩
      rw [hXX] at hX
      have hh := (HHD.out 96 (by decide)).2 g96
      have hrr : r = 96 :: S.data.toList.drop m := by
        cases hr : r with
        | nil => rw [hr] at hh; cases hh
        | cons x r' =>
          rw [hr] at hh
          have hx : x = 96 := by simpa using hh
          have : S.data.toList.drop m = r' := by rw [← hm, ← List.drop_drop, HRD.out, hr]; rfl
          rw [this, hx]
      have HX : Hid (X.data.toList = [96]) := by rw [Hid, hX.1, List.drop_take, HRD.out, hrr, show m - b = 1 by omega]; rfl
      have HF : Hid (innerF d p (c0 :: r) = .ok (p.put 2 [96], S.data.toList.drop m)) := by rw [e92, hrr]; rfl
      clear hh hrr
      clear hX hm hb hc1 hdr e34 e96 e36 e92 e10 g36 g34 g92 g96
      go_enter Try.func38, Try.ntmps38
      go_wp2_with (first
        | (go_at_call 26; first
            | ((with_reducible refine (HSEE0.out _ H0.out.rs).mono ?_); rintro e w5 ⟨rfl, h5⟩; have HR5 := Lib.hid (H0.out.rs.under h5); clear h5; have q15 : w5.cell? ⟨rb, 1, none⟩ = some (.int .i64 a) := cell_of HR5.out.rr 1; have f15 := free_of HR5.out.rr 1; simp only [])
            | ((with_reducible refine (HSEE1.out _ HR5.out).mono ?_); rintro e w5 ⟨rfl, h5⟩; have HR5 := Lib.hid (HR5.out.under h5); clear h5 q15 f15; have q15 : w5.cell? ⟨rb, 1, none⟩ = some (.int .i64 a) := cell_of HR5.out.rr 1; have f15 := free_of HR5.out.rr 1; simp only [])))
      have HRM := Lib.hid ((HR5.out.setI b (ai := (b : Int)) rfl).setI m (ai := (m : Int)) rfl)
      generalize (w5.setCell ⟨rb, 1, none⟩ (.int .i64 (b : Int))).setCell ⟨rb, 1, none⟩ (.int .i64 (m : Int)) = w7 at HRM ⊢
      clear q15 f15
      have q07 : w7.cell? ⟨rb, 0, none⟩ = some (.string S) := cell_of HRM.out.rr 0
      have q17 : w7.cell? ⟨rb, 1, none⟩ = some (.int .i64 m) := cell_of HRM.out.rr 1
      go_still_tail 16, (by kernel_rfl)
      change wpList _ _ _ _ _ w7.drew
      have HRd : Hid (RS w0 w7.drew rb B S m 0 (.slice va n c) l L) := HRM.out.under (drew_below w7 1)
      clear q07 q17
      go_wp2_with (go_at_call 40; refine (HPUT.out X _ m _ HX.out HF.out ham hmS HRd.out).mono ?_; rintro e w8 ⟨va', n', c', rfl, h8⟩; have H8 := Lib.hid h8; clear h8; simp only [])
      exact H8.out
    have nc136 : ¬ ((c1.toNat : Int) = 36) := fun e => g36 (UInt8.toNat_inj.1 (by have : ((36 : UInt8).toNat : Int) = 36 := rfl; omega))
    have zc136 : ((c1.toNat : Int) == 36) = false := beq_eq_false_iff_ne.2 nc136
    have nc134 : ¬ ((c1.toNat : Int) = 34) := fun e => g34 (UInt8.toNat_inj.1 (by have : ((34 : UInt8).toNat : Int) = 34 := rfl; omega))
    have zc134 : ((c1.toNat : Int) == 34) = false := beq_eq_false_iff_ne.2 nc134
    have nc192 : ¬ ((c1.toNat : Int) = 92) := fun e => g92 (UInt8.toNat_inj.1 (by have : ((92 : UInt8).toNat : Int) = 92 := rfl; omega))
    have zc192 : ((c1.toNat : Int) == 92) = false := beq_eq_false_iff_ne.2 nc192
    have nc196 : ¬ ((c1.toNat : Int) = 96) := fun e => g96 (UInt8.toNat_inj.1 (by have : ((96 : UInt8).toNat : Int) = 96 := rfl; omega))
    have zc196 : ((c1.toNat : Int) == 96) = false := beq_eq_false_iff_ne.2 nc196
    obtain ⟨m, hm⟩ : ∃ m, a + 1 = m := ⟨_, rfl⟩
    have hmS : m ≤ S.size := by omega
    have ham : a < m := by omega
    rw [show (b : Int) = (m : Int) by omega] at haw
    have hfm : a ≤ m := by omega
    have hfmI : (a : Int) ≤ (m : Int) := by omega
    have hmSI : (m : Int) ≤ (S.size : Int) := by omega
    have hf0 : (0 : Int) ≤ (a : Int) := by omega
    have hwm : IntKind.i64.wrap ((a : Int) + 1) = (m : Int) := (IntWalk.i64_in _ (by omega)).trans (by omega)
    have hwm2 : IntKind.i64.wrap ((m : Int) - 1) = (a : Int) := (IntWalk.i64_in _ (by omega)).trans (by omega)
    have hX := ext_dt (t := S) (a := a) (b := m) hfm hmS
    obtain ⟨X, hXX⟩ : ∃ X, S.extract a m = X := ⟨_, rfl⟩
    rw [hXX] at hX
    have HX : Hid (X.data.toList = [92]) := by rw [Hid, hX.1, List.drop_take, hdr, show m - a = 1 by omega, e92]; rfl
    have HF : Hid (innerF d p (c0 :: r) = .ok (p.put 2 [92], S.data.toList.drop m)) := by
      have hrm : S.data.toList.drop m = r := by rw [← hm, hb]; exact HRD.out
      rw [hrm, e92]
      show Except.ok (escF true p r) = _
      cases hr : r with
      | nil => rfl
      | cons x r' =>
        have hx : c1 = x := by rw [← hc1]; exact seeF_head (HRD.out.trans hr)
        rw [hx] at e10 g36 g34 g92 g96
        have : escs.contains x = false := by simp [escs, e10, g36, g34, g92, g96]
        rw [show escF true p (x :: r') = (if (true && !escs.contains x) = true then (p.put 2 [92], x :: r') else if x = 10 then (p, r') else (p.put 2 [x], r')) from rfl, this]; rfl
    clear hX hm hb hc1 hdr e34 e96 e36 e92 e10 g36 g34 g92 g96
    go_enter Try.func38, Try.ntmps38
    go_wp2_with (first
      | (go_at_call 26; first
          | ((with_reducible refine (HSEE0.out _ H0.out.rs).mono ?_); rintro e w5 ⟨rfl, h5⟩; have HR5 := Lib.hid (H0.out.rs.under h5); clear h5; have q15 : w5.cell? ⟨rb, 1, none⟩ = some (.int .i64 a) := cell_of HR5.out.rr 1; have f15 := free_of HR5.out.rr 1; simp only [])
          | ((with_reducible refine (HSEE1.out _ HR5.out).mono ?_); rintro e w5 ⟨rfl, h5⟩; have HR5 := Lib.hid (HR5.out.under h5); clear h5 q15 f15; have q15 : w5.cell? ⟨rb, 1, none⟩ = some (.int .i64 a) := cell_of HR5.out.rr 1; have f15 := free_of HR5.out.rr 1; simp only [])))
    have HRM := Lib.hid (HR5.out.setI m (ai := (m : Int)) rfl)
    generalize w5.setCell ⟨rb, 1, none⟩ (.int .i64 (m : Int)) = w7 at HRM ⊢
    clear q15 f15
    have q07 : w7.cell? ⟨rb, 0, none⟩ = some (.string S) := cell_of HRM.out.rr 0
    have q17 : w7.cell? ⟨rb, 1, none⟩ = some (.int .i64 m) := cell_of HRM.out.rr 1
    go_still_tail 16, (by kernel_rfl)
    change wpList _ _ _ _ _ w7.drew
    have HRd : Hid (RS w0 w7.drew rb B S m 0 (.slice va n c) l L) := HRM.out.under (drew_below w7 1)
    clear q07 q17
    go_wp2_with (go_at_call 40; refine (HPUT.out X _ m _ HX.out HF.out ham hmS HRd.out).mono ?_; rintro e w8 ⟨va', n', c', rfl, h8⟩; have H8 := Lib.hid h8; clear h8; simp only [])
    exact H8.out
  have nc092 : ¬ ((c0.toNat : Int) = 92) := fun e => e92 (UInt8.toNat_inj.1 (by have : ((92 : UInt8).toNat : Int) = 92 := rfl; omega))
  have zc092 : ((c0.toNat : Int) == 92) = false := beq_eq_false_iff_ne.2 nc092
  obtain ⟨m, hm⟩ : ∃ m, a + 1 = m := ⟨_, rfl⟩
  have hmS : m ≤ S.size := by omega
  have ham : a < m := by omega
  rw [show (b : Int) = (m : Int) by omega] at haw
  have hfm : a ≤ m := by omega
  have hfmI : (a : Int) ≤ (m : Int) := by omega
  have hmSI : (m : Int) ≤ (S.size : Int) := by omega
  have hf0 : (0 : Int) ≤ (a : Int) := by omega
  have hwm : IntKind.i64.wrap ((a : Int) + 1) = (m : Int) := (IntWalk.i64_in _ (by omega)).trans (by omega)
  have hwm2 : IntKind.i64.wrap ((m : Int) - 1) = (a : Int) := (IntWalk.i64_in _ (by omega)).trans (by omega)
  have hX := ext_dt (t := S) (a := a) (b := m) hfm hmS
  obtain ⟨X, hXX⟩ : ∃ X, S.extract a m = X := ⟨_, rfl⟩
  rw [hXX] at hX
  have HX : Hid (X.data.toList = [c0]) := by rw [Hid, hX.1, List.drop_take, hdr, show m - a = 1 by omega]; rfl
  have HF : Hid (innerF d p (c0 :: r) = .ok (p.put 2 [c0], S.data.toList.drop m)) := by
    have hrm : S.data.toList.drop m = r := by rw [← hm, hb]; exact HRD.out
    rw [hrm, Hid]
    show (if c0 = 34 ∨ c0 = 96 then Except.error 2 else if c0 = 36 then _ else if c0 = 92 then _ else Except.ok (p.put 2 [c0], r)) = _
    rw [if_neg (fun e => e.elim e34 e96), if_neg e36, if_neg e92]
  clear hX hm hb hc1 hdr e34 e96 e36 e92
  go_enter Try.func38, Try.ntmps38
  go_wp2_with (first
    | (go_at_call 26; first
        | ((with_reducible refine (HSEE0.out _ H0.out.rs).mono ?_); rintro e w5 ⟨rfl, h5⟩; have HR5 := Lib.hid (H0.out.rs.under h5); clear h5; have q15 : w5.cell? ⟨rb, 1, none⟩ = some (.int .i64 a) := cell_of HR5.out.rr 1; have f15 := free_of HR5.out.rr 1; simp only [])
        | ((with_reducible refine (HSEE1.out _ HR5.out).mono ?_); rintro e w5 ⟨rfl, h5⟩; have HR5 := Lib.hid (HR5.out.under h5); clear h5 q15 f15; have q15 : w5.cell? ⟨rb, 1, none⟩ = some (.int .i64 a) := cell_of HR5.out.rr 1; have f15 := free_of HR5.out.rr 1; simp only [])))
  have HRM := Lib.hid (HR5.out.setI m (ai := (m : Int)) rfl)
  generalize w5.setCell ⟨rb, 1, none⟩ (.int .i64 (m : Int)) = w7 at HRM ⊢
  clear q15 f15
  have q07 : w7.cell? ⟨rb, 0, none⟩ = some (.string S) := cell_of HRM.out.rr 0
  have q17 : w7.cell? ⟨rb, 1, none⟩ = some (.int .i64 m) := cell_of HRM.out.rr 1
  go_still_tail 16, (by kernel_rfl)
  change wpList _ _ _ _ _ w7.drew
  have HRd : Hid (RS w0 w7.drew rb B S m 0 (.slice va n c) l L) := HRM.out.under (drew_below w7 1)
  clear q07 q17
  go_wp2_with (go_at_call 40; refine (HPUT.out X _ m _ HX.out HF.out ham hmS HRd.out).mono ?_; rintro e w8 ⟨va', n', c', rfl, h8⟩; have H8 := Lib.hid h8; clear h8; simp only [])
  exact H8.out
end Go.Proofs.Ytafbheplaheohaa

namespace Go.Proofs.Ytafbheplaheohaa
open Go.RowKit
set_option linter.unusedVariables false

theorem readC_in {e d : Nat} {p : PS} {c : UInt8} {r : Bz} (h : endsB e c = false) : readC e true d p (c :: r) = match innerF d p (c :: r) with
    | .error x => .error x
    | .ok (p', r') => readC e true d p' r' := by
  rw [show innerF d p (c :: r) = (if c = 34 ∨ c = 96 then Except.error 2 else if c = 36 then dollF (wordC true (d + 1)) true d p r else if c = 92 then Except.ok (escF true p r) else Except.ok (p.put 2 [c], r)) from rfl]
  by_cases h1 : c = 34 ∨ c = 96
  · rw [if_pos h1, readC_bad h (h1.elim (fun e => .inr ⟨e, rfl⟩) .inl)]
  rw [if_neg h1]
  by_cases h2 : c = 36
  · rw [if_pos h2]
    subst h2
    rw [readC_doll h]
    cases dollF (wordC true (d + 1)) true d p r <;> rfl
  rw [if_neg h2]
  by_cases h3 : c = 92
  · rw [if_pos h3, readC_esc h h3]
  rw [if_neg h3, readC_else h h3 (fun e => by cases e.2) (fun e => h1 (.inl e)) h2 (fun e => h1 (.inr e))]
  rfl
theorem innerF_len {d : Nat} {p : PS} {c : UInt8} {r : Bz} {p' : PS} {t : Bz} (h : innerF d p (c :: r) = .ok (p', t)) : t.length ≤ r.length := by
  change (if c = 34 ∨ c = 96 then Except.error 2 else if c = 36 then dollF (wordC true (d + 1)) true d p r else if c = 92 then Except.ok (escF true p r) else Except.ok (p.put 2 [c], r)) = _ at h
  by_cases h1 : c = 34 ∨ c = 96
  · rw [if_pos h1] at h; cases h
  rw [if_neg h1] at h
  by_cases h2 : c = 36
  · rw [if_pos h2] at h
    exact dollF_len (fun t w r _ hw => wordC_len hw) h
  rw [if_neg h2] at h
  by_cases h3 : c = 92
  · rw [if_pos h3] at h
    have := escF_len true p r
    injection h with h
    rw [h] at this; exact this
  rw [if_neg h3] at h
  injection h with h
  rw [Prod.mk.injEq] at h
  rw [h.2]; exact Nat.le_refl _
theorem Rb.only {B rb : Nat} {w w' : World} (h : Rb B rb w w') (hB : w.heap.size ≤ B) : Only (fun k => k = rb) w w' :=
  ⟨h.os, h.tape, h.output, h.size, fun k hk hn => h.block k hk (by rintro (e | e); exact hn e; omega)⟩
/-- The end of a word. -/
theorem word_ok {w wx : World} {rb : Nat} {S : ByteArray} {a' : Nat} {va : Option Addr} {n c : Nat} {l : List Prt} {L : List Pt} {p : PS} {Z : Nat} (d : Nat) (h : RIn w wx rb w.heap.size S a' (.slice va n c) l L p Z) (hZ : Z ≤ 60000) :
    Calls Try.prog 36 #[.slice va n c] wx fun e w' => (∃ va' n' c', e = .returned (.slice va' n' c')) ∧ WordR w rb S d (.ok (p.all, S.data.toList.drop a')) e w' := by
  have hsz := h.sz
  have h1 : l.length ≤ SZ l := by unfold SZ; omega
  have h2 : txL l ≤ SZ l := by unfold SZ; omega
  refine (RTidy_any h.rs.row h.rs.le (by omega) (by omega)).mono ?_
  rintro e w' ⟨a2, n2, c2, L2, rfl, h3, h4⟩
  refine ⟨⟨_, _, _, rfl⟩, a2, n2, c2, a', 0, tidyL l, rfl, (h4.block rb h.rs.lt).trans h.rs.rr, Rb.only (Rb.trans h.rs.only (Rb.of_below h4 h.rs.le)) (Nat.le_refl _), h3.wd, rfl, h.le, rfl, ?_⟩
  rw [tidy_all h.ok, h.eqv.all]
theorem word_bad {w wx : World} {rb : Nat} {S : ByteArray} {a' x : Nat} {va : Option Addr} {n c : Nat} {l : List Prt} {L : List Pt} (d : Nat) (h : RS w wx rb w.heap.size S a' x (.slice va n c) l L) (hx : x ≠ 0) (ha : a' ≤ EAt d + 50) (hz : SZ l ≤ 60002) :
    Calls Try.prog 36 #[.slice va n c] wx fun e w' => (∃ va' n' c', e = .returned (.slice va' n' c')) ∧ WordR w rb S d (.error x) e w' := by
  have h1 : l.length ≤ SZ l := by unfold SZ; omega
  have h2 : txL l ≤ SZ l := by unfold SZ; omega
  refine (RTidy_any h.row h.le (by omega) (by omega)).mono ?_
  rintro e w' ⟨a2, n2, c2, L2, rfl, h3, h4⟩
  exact ⟨⟨_, _, _, rfl⟩, a2, n2, c2, a', x, tidyL l, rfl, (h4.block rb h.lt).trans h.rr, Rb.only (Rb.trans h.only (Rb.of_below h4 h.le)) (Nat.le_refl _), h3.wd, rfl, hx, ha⟩
def meaW (rb : Nat) (wx : World) : Nat := match wx.cell? ⟨rb, 2, none⟩ with
  | some b => if intOf b = 0 then (match wx.cell? ⟨rb, 1, none⟩ with | some v => 70001 - (intOf v).toNat | none => 0) else 0
  | none => 0
theorem meaW_ok {rb a : Nat} {wx : World} {S : ByteArray} (h : Rr wx rb S a 0) : meaW rb wx = 70001 - a := by
  have h1 : wx.cell? ⟨rb, 1, none⟩ = some (.int .i64 a) := cell_of h 1
  have h2 : wx.cell? ⟨rb, 2, none⟩ = some (.int .i64 ((0 : Nat) : Int)) := cell_of h 2
  simp [meaW, h1, h2, intOf]
theorem meaW_bad {rb a x : Nat} {wx : World} {S : ByteArray} (h : Rr wx rb S a x) (hx : x ≠ 0) : meaW rb wx = 0 := by
  have h2 : wx.cell? ⟨rb, 2, none⟩ = some (.int .i64 ((x : Nat) : Int)) := cell_of h 2
  simp [meaW, h2, intOf, hx]
/-- Where the word's reading has come to. -/
def WGood (w wx : World) (rb : Nat) (S : ByteArray) (e : Nat) (q : Bool) (d Z : Nat) (s : Bz) (va : Option Addr) (n c a' : Nat) (l : List Prt) (L : List Pt) (p : PS) : Prop :=
  RIn w wx rb w.heap.size S a' (.slice va n c) l L p Z ∧ readC e q d ps0 s = readC e q d p (S.data.toList.drop a')
def WBad (w wx : World) (rb : Nat) (S : ByteArray) (e : Nat) (q : Bool) (d Z : Nat) (s : Bz) (va : Option Addr) (n c a' : Nat) (l : List Prt) (L : List Pt) (x : Nat) : Prop :=
  RS w wx rb w.heap.size S a' x (.slice va n c) l L ∧ (∀ y ∈ l, RawOk y) ∧ x ≠ 0 ∧ a' ≤ EAt d + 40 ∧ SZ l ≤ Z + 2 ∧ readC e q d ps0 s = .error x
end Go.Proofs.Ytafbheplaheohaa
