import Derived.Test.YtafbheplaheohaaEG
import Derived.Test.YtafbheplaheohaaME
import Derived.Test.YtafbheplaheohaaQU
import Derived.Deep.QuietTactic
import Derived.Test.YtafbheplaheohaaN
namespace Go.Proofs.Ytafbheplaheohaa
open Go.RowKit
set_option linter.unusedVariables false

/-- The document's reader, and the parts that are gathered. -/
structure RS (w wx : World) (rb B : Nat) (S : ByteArray) (a x : Nat) (v : Value) (l : List Prt) (L : List Pt) : Prop where
  rr : Rr wx rb S a x
  row : PRow wx B v l L
  only : Rb B rb w wx
  lt : rb < B
  le : B ≤ wx.heap.size
theorem RS.under {w wx w' : World} {rb B : Nat} {S : ByteArray} {a x : Nat} {v : Value} {l : List Prt} {L : List Pt} (h : RS w wx rb B S a x v l L) (hb : Below wx.heap.size wx w') : RS w w' rb B S a x v l L :=
  ⟨h.rr.under hb, h.row.under hb, Rb.trans h.only (Rb.of_new hb), h.lt, Nat.le_trans h.le hb.size⟩
theorem PRow.rr {w w' : World} {B rb a x : Nat} {S : ByteArray} {v : Value} {l : List Prt} {L : List Pt} (h : PRow w B v l L) (hr : Rr w rb S a x) (ho : Only (fun k => k = rb) w w') : PRow w' B v l L :=
  h.keep fun g c _ h1 => (ho.block g (Array.getElem?_eq_some_iff.1 h1).1 (cells_ne h1 hr (by decide))).trans h1
theorem RS.rb {w wx w' : World} {rb B : Nat} {S : ByteArray} {a x a' x' : Nat} {v : Value} {l : List Prt} {L : List Pt} (h : RS w wx rb B S a x v l L) (hr : Rr w' rb S a' x') (ho : Only (fun k => k = rb) wx w') : RS w w' rb B S a' x' v l L :=
  ⟨hr, h.row.rr h.rr ho, Only.trans h.only ho (fun _ h => h) (fun _ _ h => .inl h), h.lt, Nat.le_trans h.le ho.size⟩
theorem RS.setI {w wx : World} {rb B : Nat} {S : ByteArray} {a x : Nat} {v : Value} {l : List Prt} {L : List Pt} (h : RS w wx rb B S a x v l L) {ai : Int} (a' : Nat) (e : ai = (a' : Int)) : RS w (wx.setCell ⟨rb, 1, none⟩ (.int .i64 ai)) rb B S a' x v l L :=
  h.rb (h.rr.setI a' e) (Only.set (S := fun k => k = rb) (Only.refl _ wx) (.inl rfl) _ _)
/-- A part more. -/
theorem RS.push {w wx : World} {rb B : Nat} {S : ByteArray} {a x : Nat} {va : Option Addr} {n c : Nat} {l : List Prt} {L : List Pt} (h : RS w wx rb B S a x (.slice va n c) l L) (hl : l.length ≤ 90000) (pt : Pt) (y : Prt) (hy : pt.is y) (hw : Wd wx (Sep B (.slice va n c)) pt.wv y.word) :
    ∃ (a2 : Option Addr) (n2 c2 : Nat) (w2 : World), (Builtin.append_ #[32, 32] 32 #[.slice va n c, .slice (some ⟨wx.heap.size, 0, none⟩) 1 1]).run Try.prog (wx.alloc (.cells pt.cs.toArray 39)) = .ok (.slice a2 n2 c2) w2 ∧ RS w w2 rb B S a x (.slice a2 n2 c2) (l ++ [y]) (L ++ [pt]) := by
  obtain ⟨a2, c2, w2, r, hrow, hb, hk, _⟩ := h.row.push2 h.le (by rw [h.row.len]; omega) pt y hy hw
  exact ⟨a2, _, c2, w2, r, hk rb _ 60 (by decide) h.rr, hrow, Rb.trans h.only (Rb.of_below hb h.le), h.lt, Nat.le_trans h.le hb.size⟩
def SZ (l : List Prt) : Nat := l.length + txL l
def EAt (d : Nat) : Nat := 30000 + 100 * (60 - d)
/-- What a call that gathers leaves. -/
def RStep (w : World) (rb B : Nat) (S : ByteArray) (d Z : Nat) (r : Res (PS × Bz)) (e : Ending) (w' : World) : Prop := ∃ va n c l' L' a' x, e = .returned (.slice va n c) ∧ RS w w' rb B S a' x (.slice va n c) l' L' ∧ (∀ y ∈ l', RawOk y) ∧ (match r with
  | .error y => x = y ∧ y ≠ 0 ∧ a' ≤ EAt d ∧ SZ l' ≤ Z + 2
  | .ok (p', t) => x = 0 ∧ a' ≤ S.size ∧ S.data.toList.drop a' = t ∧ Eqv p' (tidyS l') ∧ SZ l' + 2 * (S.size - a') ≤ Z)
/-- What such a call is given. -/
structure RIn (w wx : World) (rb B : Nat) (S : ByteArray) (a : Nat) (v : Value) (l : List Prt) (L : List Pt) (p : PS) (Z : Nat) : Prop where
  rs : RS w wx rb B S a 0 v l L
  ok : ∀ y ∈ l, RawOk y
  eqv : Eqv p (tidyS l)
  sz : SZ l + 2 * (S.size - a) ≤ Z
  le : a ≤ S.size
theorem RIn.under {w wx w' : World} {rb B : Nat} {S : ByteArray} {a : Nat} {v : Value} {l : List Prt} {L : List Pt} {p : PS} {Z : Nat} (h : RIn w wx rb B S a v l L p Z) (hb : Below wx.heap.size wx w') : RIn w w' rb B S a v l L p Z := ⟨h.rs.under hb, h.ok, h.eqv, h.sz, h.le⟩
theorem SZ_app (l : List Prt) (y : Prt) : SZ (l ++ [y]) = SZ l + 1 + y.text.length := by
  unfold SZ; rw [txL_app]; simp [txL]; omega
/-- A part that is no text, gathered. -/
theorem RS.done {w w' : World} {rb B : Nat} {S : ByteArray} {a' : Nat} {l : List Prt} {p : PS} {d Z : Nat} {y : Prt} {va : Option Addr} {n c : Nat} {L' : List Pt} {t : Bz} (hok : ∀ y ∈ l, RawOk y) (he : Eqv p (tidyS l)) (h : RS w w' rb B S a' 0 (.slice va n c) (l ++ [y]) L') (hy : 3 ≤ y.kind) (ha : a' ≤ S.size) (ht : S.data.toList.drop a' = t) (hz : SZ l + 1 + y.text.length + 2 * (S.size - a') ≤ Z) :
    RStep w rb B S d Z (.ok (p.add y, t)) (.returned (.slice va n c)) w' := by
  refine ⟨va, n, c, _, L', a', 0, rfl, h, fun z hz => ?_, rfl, ha, ht, ?_, ?_⟩
  · rcases List.mem_append.1 hz with hz | hz
    · exact hok z hz
    · simp at hz; rw [hz]; exact rawok_kind hy
  · rw [tidyS_app]; exact he.addx hy
  · rw [SZ_app]; exact hz
theorem RS.failed {w w' : World} {rb B : Nat} {S : ByteArray} {a' x : Nat} {l : List Prt} {d Z : Nat} {va : Option Addr} {n c : Nat} {L' : List Pt} (hok : ∀ y ∈ l, RawOk y) (h : RS w w' rb B S a' x (.slice va n c) l L') (hx : x ≠ 0) (ha : a' ≤ EAt d) (hz : SZ l ≤ Z + 2) :
    RStep w rb B S d Z (.error x) (.returned (.slice va n c)) w' := ⟨va, n, c, l, L', a', x, rfl, h, hok, rfl, hx, ha, hz⟩
def meaR (rb : Nat) (wx : World) : Nat := match wx.cell? ⟨rb, 1, none⟩ with | some v => 70001 - (intOf v).toNat | none => 0
theorem meaR_at {rb a x : Nat} {wx : World} {S : ByteArray} (h : Rr wx rb S a x) : meaR rb wx = 70001 - a := by
  have : wx.cell? ⟨rb, 1, none⟩ = some (.int .i64 a) := cell_of h 1
  simp [meaR, this, intOf]
def calcR (q : Bool) (p : PS) (s : Bz) : Res (PS × Bz) := match calcN 0 s with
  | none => .error 2
  | some i => .ok (p.add (.mk 4 (s.take i) [] [] [] q), s.drop (i + 2))
/-- Where the closing parenthesis is looked for. -/
structure CalcAt (s : Bz) (k o : Nat) : Prop where
  le : k ≤ s.length
  ok : o ≤ k
  eq : calcN 0 s = (calcN o (s.drop k)).map (· + k)
theorem opt_map_add (x : Option Nat) (a b : Nat) : (x.map (· + a)).map (· + b) = x.map (· + (a + b)) := by
  cases x <;> simp <;> omega
theorem CalcAt.step {s : Bz} {k o : Nat} (h : CalcAt s k o) {c : UInt8} (hc : s.drop k = c :: s.drop (k + 1)) (o' : Nat) (ho : o' ≤ k + 1) (he : calcN o (c :: s.drop (k + 1)) = (calcN o' (s.drop (k + 1))).map (· + 1)) : CalcAt s (k + 1) o' := by
  refine ⟨?_, ho, ?_⟩
  · have := congrArg List.length hc
    simp at this; omega
  · rw [h.eq, hc, he, opt_map_add, Nat.add_comm 1 k]
set_option maxRecDepth 100000 in
set_option maxHeartbeats 8000000 in
theorem RCalc_any {w0 w : World} {rb B : Nat} {S : ByteArray} {a : Nat} {va : Option Addr} {n c : Nat} {l : List Prt} {L : List Pt} {p : PS} {Z : Nat} (q : Bool) (d : Nat) (h : RIn w0 w rb B S a (.slice va n c) l L p Z) (hZ : Z ≤ 60000) (hS : S.size ≤ 20000) :
    Calls Try.prog 55 #[.pointer (some ⟨rb, 0, none⟩), .slice va n c, .bool q] w (RStep w0 rb B S d Z (calcR q p (S.data.toList.drop a))) := by
  obtain ⟨Q, hQ⟩ : ∃ Q, RStep w0 rb B S d Z (calcR q p (S.data.toList.drop a)) = Q := ⟨_, rfl⟩
  rw [hQ]
  have HQ := Lib.hid hQ
  have H0 := Lib.hid h
  have q1 : w.cell? ⟨rb, 1, none⟩ = some (.int .i64 a) := cell_of h.rs.rr 1
  have hle := h.le
  have hszz := h.sz
  obtain ⟨s, hs⟩ : ∃ s, S.data.toList.drop a = s := ⟨_, rfl⟩
  have hsl : s.length = S.size - a := by rw [← hs, List.length_drop, dl]
  have HSD := Lib.hid hs
  clear hQ h
  have HFAIL : Hid (∀ (k : Nat) wx w', RS w0 wx rb B S (a + k) 0 (.slice va n c) l L → k ≤ s.length → calcN 0 s = none → Below wx.heap.size wx w' → ∀ (e : Ending) w'', FailP w' rb S (a + k) (orE 0 2) e w'' → Q (.returned (.slice va n c)) w'') := fun k wx w' hr hk hn hb e w'' hf => by
    rw [← HQ.out, HSD.out]
    unfold calcR
    rw [hn]
    have h2 := (hr.under hb).rb hf.2.1 hf.2.2
    exact RS.failed H0.out.ok h2 (by decide) (by unfold EAt; omega) (by omega)
  go_enter Try.func55, Try.ntmps55
  go_wp2_with fail
  go_loopw [8] (fun ov wx => ∃ k o : Nat, ov = .int .i64 o ∧ Hid (CalcAt s k o ∧ RS w0 wx rb B S (a + k) 0 (.slice va n c) l L)) (fun _ wx => meaR rb wx)
  case atStart => exact ⟨0, 0, rfl, ⟨Nat.zero_le _, Nat.le_refl _, by simp⟩, H0.out.rs⟩
  case round =>
    obtain ⟨k, o, rfl, HR⟩ := hrel
    have hkl := HR.out.1.le
    have hok := HR.out.1.ok
    obtain ⟨m, hm⟩ : ∃ m, a + k = m := ⟨_, rfl⟩
    have hmS : m ≤ S.size := by omega
    have HRS : Hid (RS w0 wr rb B S m 0 (.slice va n c) l L) := by rw [Hid, ← hm]; exact HR.out.2
    have HSDK : Hid (S.data.toList.drop m = s.drop k) := by rw [Hid, ← hs, List.drop_drop, hm]
    have hw1 : IntKind.i64.wrap ((m : Int) + 1) = (m : Int) + 1 := IntWalk.i64_in _ (by omega)
    have hw2 : IntKind.i64.wrap ((m : Int) + 2) = (m : Int) + 2 := IntWalk.i64_in _ (by omega)
    have hwo : IntKind.i64.wrap ((o : Int) + 1) = (o : Int) + 1 := IntWalk.i64_in _ (by omega)
    have HOV : Hid (∀ b, decide (S.size ≤ m) = b → Calls Try.prog 25 #[.pointer (some ⟨rb, 0, none⟩)] wr fun e w' => e = .returned (.bool b) ∧ Below wr.heap.size wr w') := fun b hb => over_seq HRS.out.rr b hb
    have HFL : Hid (∀ w5, RS w0 w5 rb B S m 0 (.slice va n c) l L → calcN 0 s = none → Calls Try.prog 39 #[.pointer (some ⟨rb, 0, none⟩), .int .i64 2] w5 fun e w' => e = .returned (.tuple #[]) ∧ Q (.returned (.slice va n c)) w') := fun w5 h5 hn => (fail_any h5.rr 2 2 rfl).mono (by
      rintro e w' ⟨rfl, h1, h2⟩
      refine ⟨rfl, HFAIL.out k w5 w5 (by rw [hm]; exact h5) hkl hn (Below.refl _ _) (.returned (.tuple #[])) w' ⟨rfl, by rw [hm]; exact h1, h2⟩⟩)
    by_cases hov : S.size ≤ m
    · have HO1 := Lib.hid (HOV.out true (decide_eq_true hov))
      have HN : Hid (calcN 0 s = none) := by
        rw [Hid, HR.out.1.eq, List.drop_of_length_le (by omega)]; rw [calcN]; rfl
      clear hm hov
      go_wp2_with (first
        | (go_at_call 25; refine HO1.out.mono ?_; rintro e w5 ⟨rfl, h5⟩; have HR5 := Lib.hid (HRS.out.under h5); clear h5; simp only [])
        | (go_at_call 39; refine (HFL.out _ HR5.out HN.out).mono ?_; rintro e w6 ⟨rfl, h6⟩; have H6 := Lib.hid h6; clear h6; simp only []))
      exact H6.out
    · have hlt : m < S.size := by omega
      have HO1 := Lib.hid (HOV.out false (decide_eq_false hov))
      have hat := data_get S m hlt
      obtain ⟨ch, hch⟩ : ∃ ch, S[m]'hlt = ch := ⟨_, rfl⟩
      rw [hch] at hat
      have hdr := at_drop hat
      have HSEE : Hid (∀ w5, RS w0 w5 rb B S m 0 (.slice va n c) l L → Calls Try.prog 26 #[.pointer (some ⟨rb, 0, none⟩), .int .i64 0] w5 fun e w' => e = .returned (.int .u8 ch.toNat) ∧ Below w5.heap.size w5 w') := fun w5 h => see_seq h.rr 0 0 m rfl rfl (by omega) (by omega) (seeF_head hdr)
      have HCK : Hid (s.drop k = ch :: s.drop (k + 1)) := by
        rw [Hid, ← HSDK.out, hdr, ← hs, List.drop_drop, show a + (k + 1) = m + 1 by omega]
      have hkl1 : k < s.length := by omega
      have h40 := byte_eq ch 40
      rw [show ((40 : UInt8).toNat : Int) = 40 from rfl] at h40
      have h41 := byte_eq ch 41
      rw [show ((41 : UInt8).toNat : Int) = 41 from rfl] at h41
      have HNEXT : Hid (∀ w5, RS w0 w5 rb B S m 0 (.slice va n c) l L → RS w0 (w5.setCell ⟨rb, 1, none⟩ (.int .i64 ((m : Int) + 1))) rb B S (a + (k + 1)) 0 (.slice va n c) l L) := fun w5 h => h.setI _ (by omega)
      have HMEA : Hid (∀ w5, RS w0 w5 rb B S (a + (k + 1)) 0 (.slice va n c) l L → meaR rb w5 < meaR rb wr) := fun w5 h => by rw [meaR_at h.rr, meaR_at HRS.out.rr]; omega
      by_cases e40 : ch = 40
      · have hz : ((ch.toNat : Int) == 40) = true := by rw [h40, e40]; rfl
        have HCA : Hid (CalcAt s (k + 1) (o + 1)) := HR.out.1.step HCK.out (o + 1) (by omega) (by rw [calcN_cons, if_pos e40])
        clear h40 h41 hov hat hdr hm e40
        go_wp2_with (first
          | (go_at_call 25; refine HO1.out.mono ?_; rintro e w5 ⟨rfl, h5⟩; have HR5 := Lib.hid (HRS.out.under h5); clear h5; simp only [])
          | (go_at_call 26; (with_reducible refine (HSEE.out _ HR5.out).mono ?_); rintro e w6 ⟨rfl, h6⟩; have HR6 := Lib.hid (HR5.out.under h6); clear h6; have q1 : w6.cell? ⟨rb, 1, none⟩ = some (.int .i64 m) := cell_of HR6.out.rr 1; have f1 := free_of HR6.out.rr 1; simp only []))
        have HN7 := Lib.hid (HNEXT.out _ HR6.out)
        go_roundw
        case measure => exact HMEA.out _ HN7.out
        case rel => exact ⟨k + 1, o + 1, by go_num, HCA.out, HN7.out⟩
      · have hz : ((ch.toNat : Int) == 40) = false := by rw [h40]; exact beq_eq_false_iff_ne.2 e40
        by_cases e41 : ch = 41
        · have hz1 : ((ch.toNat : Int) == 41) = true := by rw [h41, e41]; rfl
          cases o with
          | succ o =>
            have hoI : (((o + 1 : Nat) : Int) == 0) = false := beq_eq_false_iff_ne.2 (by omega)
            have hwd : IntKind.i64.wrap (((o + 1 : Nat) : Int) - 1) = (o : Int) := by rw [IntWalk.i64_in _ (by omega)]; omega
            obtain ⟨ov, hov2⟩ : ∃ ov : Nat, o + 1 = ov := ⟨_, rfl⟩
            have HCA : Hid (CalcAt s (k + 1) o) := HR.out.1.step HCK.out o (by omega) (by rw [calcN_cons, if_neg e40, if_pos e41])
            rw [hov2] at hoI hwd ⊢
            clear h40 h41 hov hat hdr hm e40 e41 hov2
            go_wp2_with (first
              | (go_at_call 25; refine HO1.out.mono ?_; rintro e w5 ⟨rfl, h5⟩; have HR5 := Lib.hid (HRS.out.under h5); clear h5; simp only [])
              | (go_at_call 26; (with_reducible refine (HSEE.out _ HR5.out).mono ?_); rintro e w6 ⟨rfl, h6⟩; have HR6 := Lib.hid (HR5.out.under h6); clear h6; have q1 : w6.cell? ⟨rb, 1, none⟩ = some (.int .i64 m) := cell_of HR6.out.rr 1; have f1 := free_of HR6.out.rr 1; simp only []))
            have HN7 := Lib.hid (HNEXT.out _ HR6.out)
            go_roundw
            case measure => exact HMEA.out _ HN7.out
            case rel => exact ⟨k + 1, o, by go_num, HCA.out, HN7.out⟩
          | zero =>
            have HSEE1 : Hid (∀ w5, RS w0 w5 rb B S m 0 (.slice va n c) l L → Calls Try.prog 26 #[.pointer (some ⟨rb, 0, none⟩), .int .i64 1] w5 fun e w' => e = .returned (.int .u8 (seeF S (m + 1)).toNat) ∧ Below w5.heap.size w5 w') := fun w5 h => see_seq h.rr 1 1 (m + 1) rfl rfl (by omega) (by omega) rfl
            obtain ⟨c1, hc1⟩ : ∃ c1, seeF S (m + 1) = c1 := ⟨_, rfl⟩
            rw [hc1] at HSEE1
            have h411 := byte_eq c1 41
            rw [show ((41 : UInt8).toNat : Int) = 41 from rfl] at h411
            have hhd : (s.drop (k + 1)).head? = some 41 ↔ c1 = 41 := by
              have e1 : s.drop (k + 1) = S.data.toList.drop (m + 1) := by rw [← hs, List.drop_drop, show a + (k + 1) = m + 1 by omega]
              rw [e1]
              cases hd2 : S.data.toList.drop (m + 1) with
              | nil =>
                have : S.size ≤ m + 1 := by have := congrArg List.length hd2; rw [List.length_drop, dl] at this; simp at this; omega
                rw [seeF_off this] at hc1
                rw [← hc1]; simp
              | cons x r =>
                rw [seeF_head hd2] at hc1
                rw [← hc1]; simp
            by_cases e411 : c1 = 41
            · have hz2 : ((c1.toNat : Int) == 41) = true := by rw [h411, e411]; rfl
              have HI : Hid (calcN 0 s = some k) := by
                rw [Hid, HR.out.1.eq, HCK.out, calcN_cons, if_neg e40, if_pos e41]
                simp only
                rw [if_pos (hhd.2 e411)]; simp
              have hm2 : m + 2 ≤ S.size := by
                by_cases h : m + 1 < S.size
                · omega
                · rw [seeF_off (by omega)] at hc1
                  rw [← hc1] at e411; exact absurd e411 (by decide)
              have ham : a ≤ m := by omega
              have hamI : (a : Int) ≤ (m : Int) := by omega
              have hmSI : (m : Int) ≤ (S.size : Int) := by omega
              have ha0 : (0 : Int) ≤ (a : Int) := by omega
              have hX := ext_dt (t := S) (a := a) (b := m) ham hmS
              obtain ⟨X, hXX⟩ : ∃ X, S.extract a m = X := ⟨_, rfl⟩
              rw [hXX] at hX
              have hXk : m - a = k := by omega
              have HXD : Hid (X.data.toList = s.take k) := by rw [Hid, hX.1, List.drop_take, hs, hXk]
              have HDONE : Hid (∀ w9 a9 n9 c9 L9, RS w0 w9 rb B S (m + 2) 0 (.slice a9 n9 c9) (l ++ [.mk 4 X.data.toList [] [] [] q]) L9 → Q (.returned (.slice a9 n9 c9)) w9) := fun w9 a9 n9 c9 L9 h9 => by
                rw [← HQ.out, HSD.out]
                unfold calcR
                rw [HI.out]
                rw [HXD.out] at h9
                refine RS.done H0.out.ok H0.out.eqv h9 (by show 3 ≤ 4; omega) (by omega) ?_ ?_
                · rw [← HSD.out, List.drop_drop, show a + (k + 2) = m + 2 by omega]
                · show SZ l + 1 + (s.take k).length + _ ≤ Z
                  rw [List.length_take]; omega
              have HLL : Hid (l.length ≤ 90000) := by have : l.length ≤ SZ l := by unfold SZ; omega
                                                      rw [Hid]; omega
              clear h40 h41 hov hat hdr hm e40 e41 hhd hc1 h411 e411 hX hXk
              go_wp2_with (first
                | (go_at_call 25; refine HO1.out.mono ?_; rintro e w5 ⟨rfl, h5⟩; have HR5 := Lib.hid (HRS.out.under h5); clear h5; simp only [])
                | (go_at_call 26; first
                    | ((with_reducible refine (HSEE.out _ HR5.out).mono ?_); rintro e w6 ⟨rfl, h6⟩; have HR6 := Lib.hid (HR5.out.under h6); clear h6; simp only [])
                    | ((with_reducible refine (HSEE1.out _ HR6.out).mono ?_); rintro e w7 ⟨rfl, h7⟩; have HR7 := Lib.hid (HR6.out.under h7); clear h7; simp only [])))
              refine wp_region_made 12 1 69 _ (by kernel_rfl) (by kernel_rfl) (by kernel_rfl) (Nat.le_refl 69) rfl ?_
              have HRZ : Hid (RS w0 w7.drew rb B S m 0 (.slice va n c) l L) := HR7.out.under (drew_below w7 1)
              obtain ⟨wz, hwz⟩ : ∃ wz, w7.drew = wz := ⟨_, rfl⟩
              rw [hwz] at HRZ ⊢
              clear hwz
              have HRY := Lib.hid (HRZ.out.under ((Below.refl wz.heap.size wz).alloc (Nat.le_refl _) (.cells zero6.toArray 39)))
              have hz0 := (cell_of HRZ.out.rr 0 : wz.cell? ⟨rb, 0, none⟩ = some (.string S))
              have hz1' := (cell_of HRZ.out.rr 1 : wz.cell? ⟨rb, 1, none⟩ = some (.int .i64 m))
              have r0 : ∀ b : One wz, b.v.cell? ⟨rb, 0, none⟩ = some (.string S) := fun b => by rw [b.h]; exact hz0
              have r1 : ∀ b : One wz, b.v.cell? ⟨rb, 1, none⟩ = some (.int .i64 m) := fun b => by rw [b.h]; exact hz1'
              clear hz0 hz1'
              unfold isOne
              simp only [List.take_succ_cons, List.take_zero, List.drop_succ_cons, List.drop_zero]
              repeat (go_big_quiet_step (fail))
              refine wpQuiet_nil ?_
              refine ⟨by kernel_rfl, .pointer (some ⟨wz.heap.size, 0, none⟩), wz.alloc (.cells zero6.toArray 39), ?_, ?_, ?_⟩
              · go_simp
                rfl
              · have hs0 := (cell_of HRY.out.rr 0 : (wz.alloc (.cells zero6.toArray 39)).cell? ⟨rb, 0, none⟩ = some (.string S))
                have hs1 := (cell_of HRY.out.rr 1 : (wz.alloc (.cells zero6.toArray 39)).cell? ⟨rb, 1, none⟩ = some (.int .i64 m))
                clear r0 r1
                generalize wz.alloc (.cells zero6.toArray 39) = wy at hs0 hs1
                have s0 : ∀ b : One wy, b.v.cell? ⟨rb, 0, none⟩ = some (.string S) := fun b => by rw [b.h]; exact hs0
                have s1 : ∀ b : One wy, b.v.cell? ⟨rb, 1, none⟩ = some (.int .i64 m) := fun b => by rw [b.h]; exact hs1
                repeat (go_big_quiet_step (fail))
                exact wpQuiet_nil rfl
              clear r0 r1
              unfold zero6
              go_wp2_with fail
              refine wpQuiet_nil ?_
              have hnb := heap_alloc_new wz (.cells #[.int .i64 4, .string X, .string ⟨#[]⟩, .string ⟨#[]⟩, .slice none 0 0, .bool q] 39)
              have HRB := Lib.hid (HRZ.out.under ((Below.refl wz.heap.size wz).alloc (Nat.le_refl _) (.cells #[.int .i64 4, .string X, .string ⟨#[]⟩, .string ⟨#[]⟩, .slice none 0 0, .bool q] 39)))
              obtain ⟨wb, hwb⟩ : ∃ wb, wz.alloc (.cells #[.int .i64 4, .string X, .string ⟨#[]⟩, .string ⟨#[]⟩, .slice none 0 0, .bool q] 39) = wb := ⟨_, rfl⟩
              rw [hwb] at hnb HRB ⊢
              obtain ⟨g, hg⟩ : ∃ g, wz.heap.size = g := ⟨_, rfl⟩
              rw [hg] at hnb ⊢
              have q1 : wb.cell? ⟨rb, 1, none⟩ = some (.int .i64 m) := cell_of HRB.out.rr 1
              have f1 := free_of HRB.out.rr 1
              have HRC := Lib.hid (HRB.out.setI (m + 2) (ai := (m : Int) + 2) (by omega))
              have hnc : (wb.setCell ⟨rb, 1, none⟩ (.int .i64 ((m : Int) + 2))).heap[g]? = some (.cells #[.int .i64 4, .string X, .string ⟨#[]⟩, .string ⟨#[]⟩, .slice none 0 0, .bool q] 39 (0, 0)) := (heap_other (cells_ne hnb HRB.out.rr (by decide)) _ _).trans hnb
              have p0 := Lib.cell_of_heap hnc 0
              have p1 := Lib.cell_of_heap hnc 1
              have p2 := Lib.cell_of_heap hnc 2
              have p3 := Lib.cell_of_heap hnc 3
              have p4 := Lib.cell_of_heap hnc 4
              have p5 := Lib.cell_of_heap hnc 5
              simp only [List.getElem?_toArray, List.getElem?_cons_zero, List.getElem?_cons_succ] at p0 p1 p2 p3 p4 p5
              obtain ⟨a8, n8, c8, w8, r8, hr8⟩ := HRC.out.push HLL.out ⟨4, X, ⟨#[]⟩, ⟨#[]⟩, .slice none 0 0, q⟩ (.mk 4 X.data.toList [] [] [] q) ⟨rfl, rfl, rfl, rfl, rfl⟩ (.nil 0)
              have HR8 := Lib.hid hr8
              rw [show (wb.setCell ⟨rb, 1, none⟩ (.int .i64 ((m : Int) + 2))).heap.size = wb.heap.size by simp] at r8
              clear hwb hg hnb hnc hr8
              go_wp2_with (at_builtin; refine wpList_run_append _ rfl _ _ 32 32 rfl _ _ rfl rfl r8 ?_)
              exact HDONE.out _ _ _ _ _ HR8.out
            · have hz2 : ((c1.toNat : Int) == 41) = false := by rw [h411]; exact beq_eq_false_iff_ne.2 e411
              have HN : Hid (calcN 0 s = none) := by
                rw [Hid, HR.out.1.eq, HCK.out, calcN_cons, if_neg e40, if_pos e41]
                simp only
                rw [if_neg (fun h => e411 (hhd.1 h))]; rfl
              clear h40 h41 hov hat hdr hm e40 e41 hhd hc1 h411 e411
              go_wp2_with (first
                | (go_at_call 25; refine HO1.out.mono ?_; rintro e w5 ⟨rfl, h5⟩; have HR5 := Lib.hid (HRS.out.under h5); clear h5; simp only [])
                | (go_at_call 26; first
                    | ((with_reducible refine (HSEE.out _ HR5.out).mono ?_); rintro e w6 ⟨rfl, h6⟩; have HR6 := Lib.hid (HR5.out.under h6); clear h6; simp only [])
                    | ((with_reducible refine (HSEE1.out _ HR6.out).mono ?_); rintro e w7 ⟨rfl, h7⟩; have HR7 := Lib.hid (HR6.out.under h7); clear h7; simp only []))
                | (go_at_call 39; refine (HFL.out _ HR7.out HN.out).mono ?_; rintro e w8 ⟨rfl, h8⟩; have H8 := Lib.hid h8; clear h8; simp only []))
              exact H8.out
        · have hz1 : ((ch.toNat : Int) == 41) = false := by rw [h41]; exact beq_eq_false_iff_ne.2 e41
          have HCA : Hid (CalcAt s (k + 1) o) := HR.out.1.step HCK.out o (by omega) (by rw [calcN_cons, if_neg e40, if_neg e41])
          clear h40 h41 hov hat hdr hm e40 e41
          go_wp2_with (first
            | (go_at_call 25; refine HO1.out.mono ?_; rintro e w5 ⟨rfl, h5⟩; have HR5 := Lib.hid (HRS.out.under h5); clear h5; simp only [])
            | (go_at_call 26; (with_reducible refine (HSEE.out _ HR5.out).mono ?_); rintro e w6 ⟨rfl, h6⟩; have HR6 := Lib.hid (HR5.out.under h6); clear h6; have q1 : w6.cell? ⟨rb, 1, none⟩ = some (.int .i64 m) := cell_of HR6.out.rr 1; have f1 := free_of HR6.out.rr 1; simp only []))
          have HN7 := Lib.hid (HNEXT.out _ HR6.out)
          go_roundw
          case measure => exact HMEA.out _ HN7.out
          case rel => exact ⟨k + 1, o, rfl, HCA.out, HN7.out⟩
end Go.Proofs.Ytafbheplaheohaa

namespace Go.Proofs.Ytafbheplaheohaa
open Go.RowKit
set_option linter.unusedVariables false

def passN (c : UInt8) (r : Bz) : Nat := if c = 92 then 1 else if c = 39 ∨ c = 34 then quotT c false r else 0
def PassP (w : World) (rb : Nat) (S : ByteArray) (a : Nat) (c : UInt8) (r : Bz) (e : Ending) (w' : World) : Prop := ∃ a', e = .returned (.tuple #[]) ∧ Rr w' rb S a' 0 ∧ Only (fun k => k = rb) w w' ∧ a < a' ∧ a' ≤ S.size + 2 ∧ ((a' = a + 1 + passN c r ∧ a' ≤ S.size) ∨ (S.size ≤ a' ∧ r.length ≤ passN c r))
/-- A reader that has gone on. -/
structure RG (w wx : World) (rb : Nat) (S : ByteArray) (a : Nat) : Prop where
  rr : Rr wx rb S a 0
  only : Only (fun k => k = rb) w wx
theorem RG.under {w wx w' : World} {rb a : Nat} {S : ByteArray} (h : RG w wx rb S a) (hb : Below wx.heap.size wx w') : RG w w' rb S a := ⟨h.rr.under hb, h.only.trans (Only.of_below (S := fun _ => False) hb) (fun _ h => h) (fun _ _ h => h.elim)⟩
theorem RG.setI {w wx : World} {rb a : Nat} {S : ByteArray} (h : RG w wx rb S a) {ai : Int} (a' : Nat) (e : ai = (a' : Int)) : RG w (wx.setCell ⟨rb, 1, none⟩ (.int .i64 ai)) rb S a' := ⟨h.rr.setI a' e, h.only.set (.inl rfl) _ _⟩
theorem quotT_nil (q : UInt8) : quotT q false [] = 1 := rfl
theorem quotT_one {c : UInt8} {r : Bz} (h : c ≠ 39) : quotT 39 false (c :: r) = quotT 39 false r + 1 := by rw [quotT_false, if_neg h, if_neg (fun e => absurd e.2 (by decide))]
theorem quotT_two {c : UInt8} {r : Bz} (h : c ≠ 34) (h2 : c ≠ 92) : quotT 34 false (c :: r) = quotT 34 false r + 1 := by rw [quotT_false, if_neg h, if_neg (fun e => h2 e.1)]
theorem quotT_bs {r : Bz} : quotT 34 false (92 :: r) = quotT 34 true r + 1 := by rw [quotT_false, if_neg (by decide), if_pos ⟨rfl, rfl⟩]
theorem quotT_hit (q : UInt8) {r : Bz} : quotT q false (q :: r) = 1 := by rw [quotT_false, if_pos rfl]
/-- Where a quotation has been read to. -/
structure QA (q : UInt8) (r : Bz) (j : Nat) : Prop where
  le : j ≤ r.length + 1
  eq : j ≤ r.length → quotT q false r = j + quotT q false (r.drop j)
  off : j = r.length + 1 → quotT q false r = r.length + 1
theorem QA.nil (q : UInt8) (r : Bz) : QA q r 0 := ⟨by omega, fun _ => by simp, fun h => by omega⟩
theorem QA.one {r : Bz} {j : Nat} (h : QA 39 r j) {c : UInt8} (hc : r.drop j = c :: r.drop (j + 1)) (hn : c ≠ 39) : QA 39 r (j + 1) := by
  have hl : j + 1 ≤ r.length := by
    have := congrArg List.length hc
    simp at this; omega
  refine ⟨by omega, fun _ => ?_, fun e => by omega⟩
  rw [h.eq (by omega), hc, quotT_one hn]; omega
theorem QA.two {r : Bz} {j : Nat} (h : QA 34 r j) {c : UInt8} (hc : r.drop j = c :: r.drop (j + 1)) (hn : c ≠ 34) (hn2 : c ≠ 92) : QA 34 r (j + 1) := by
  have hl : j + 1 ≤ r.length := by
    have := congrArg List.length hc
    simp at this; omega
  refine ⟨by omega, fun _ => ?_, fun e => by omega⟩
  rw [h.eq (by omega), hc, quotT_two hn hn2]; omega
theorem QA.bs {r : Bz} {j : Nat} (h : QA 34 r j) (hc : r.drop j = 92 :: r.drop (j + 1)) : QA 34 r (j + 2) := by
  have hl : j + 1 ≤ r.length := by
    have := congrArg List.length hc
    simp at this; omega
  have e := h.eq (by omega)
  rw [hc, quotT_bs] at e
  cases hd : r.drop (j + 1) with
  | nil =>
    have hj : r.length = j + 1 := by
      have := congrArg List.length hd
      simp at this; omega
    rw [hd] at e
    have e1 : quotT 34 true [] = 1 := rfl
    rw [e1] at e
    exact ⟨by omega, fun hh => by omega, fun _ => by omega⟩
  | cons d r2 =>
    rw [hd] at e
    have e1 : quotT 34 true (d :: r2) = quotT 34 false r2 + 1 := rfl
    rw [e1] at e
    have hj : j + 2 ≤ r.length := by
      have := congrArg List.length hd
      simp at this; omega
    have hr2 : r.drop (j + 2) = r2 := by
      have : r.drop (j + 2) = (r.drop (j + 1)).drop 1 := by rw [List.drop_drop]
      rw [this, hd]; rfl
    refine ⟨by omega, fun _ => ?_, fun hh => by omega⟩
    rw [hr2]; omega
set_option maxRecDepth 100000 in
set_option maxHeartbeats 8000000 in
theorem RPass_any {w : World} {rb : Nat} {S : ByteArray} {a : Nat} {c : UInt8} {r : Bz} (h : Rr w rb S a 0) (hd : S.data.toList.drop a = c :: r) (hS : S.size ≤ 20000) :
    Calls Try.prog 67 #[.pointer (some ⟨rb, 0, none⟩)] w (PassP w rb S a c r) := by
  obtain ⟨Q, hQ⟩ : ∃ Q, PassP w rb S a c r = Q := ⟨_, rfl⟩
  rw [hQ]
  have HQ := Lib.hid hQ
  have hrl : r.length + 1 = S.size - a := by have := congrArg List.length hd; rw [List.length_drop, dl] at this; simp at this; omega
  have haS : a < S.size := by omega
  have H0 : Hid (RG w w rb S a) := ⟨h, Only.refl _ _⟩
  have HSEE : Hid (Calls Try.prog 26 #[.pointer (some ⟨rb, 0, none⟩), .int .i64 0] w fun e w' => e = .returned (.int .u8 c.toNat) ∧ Below w.heap.size w w') := see_seq h 0 0 a rfl rfl (by omega) (by omega) (seeF_head hd)
  have HEND : Hid (∀ a' w', RG w w' rb S a' → a < a' → a' ≤ S.size + 2 → ((a' = a + 1 + passN c r ∧ a' ≤ S.size) ∨ (S.size ≤ a' ∧ r.length ≤ passN c r)) → Q (.returned (.tuple #[])) w') := fun a' w' h1 h2 h3 h4 => by
    rw [← HQ.out]; exact ⟨a', rfl, h1.rr, h1.only, h2, h3, h4⟩
  have hR1 : S.data.toList.drop (a + 1) = r := by
    have : S.data.toList.drop (a + 1) = (S.data.toList.drop a).drop 1 := by rw [List.drop_drop]
    rw [this, hd]; rfl
  have HR1 := Lib.hid hR1
  have hw1 : IntKind.i64.wrap ((a : Int) + 1) = (a : Int) + 1 := IntWalk.i64_in _ (by omega)
  have h92 := byte_eq c 92
  rw [show ((92 : UInt8).toNat : Int) = 92 from rfl] at h92
  have h39 := byte_eq c 39
  rw [show ((39 : UInt8).toNat : Int) = 39 from rfl] at h39
  have h34 := byte_eq c 34
  rw [show ((34 : UInt8).toNat : Int) = 34 from rfl] at h34
  clear hQ h
  by_cases e92 : c = 92
  · have z92 : ((c.toNat : Int) == 92) = true := by rw [h92, e92]; rfl
    have hw2 : IntKind.i64.wrap ((a : Int) + 1 + 1) = (a : Int) + 2 := by rw [IntWalk.i64_in _ (by omega)]; omega
    have HP : Hid (passN c r = 1) := by rw [Hid]; unfold passN; rw [if_pos e92]
    clear h92 h39 h34 e92 hd hR1
    go_enter Try.func67, Try.ntmps67
    go_wp2_with (go_at_call 26; refine HSEE.out.mono ?_; rintro e w5 ⟨rfl, h5⟩; have HG5 := Lib.hid (H0.out.under h5); clear h5; have q1 : w5.cell? ⟨rb, 1, none⟩ = some (.int .i64 a) := cell_of HG5.out.rr 1; have f1 := free_of HG5.out.rr 1; have HG6 := Lib.hid (HG5.out.setI (a + 1) (ai := (a : Int) + 1) (by omega)); have q16 : (w5.setCell ⟨rb, 1, none⟩ (.int .i64 ((a : Int) + 1))).cell? ⟨rb, 1, none⟩ = some (.int .i64 ((a : Int) + 1)) := cell_of HG6.out.rr 1; have f16 := free_of HG6.out.rr 1; simp only [])
    go_end0
    have HG7 := Lib.hid (HG5.out.setI (a + 2) (ai := (a : Int) + 2) (by omega))
    first
      | exact HEND.out (a + 2) _ HG7.out (by omega) (by omega) (by rw [HP.out]; omega)
      | exact HEND.out (a + 2) _ (HG6.out.setI (a + 2) (ai := (a : Int) + 2) (by omega)) (by omega) (by omega) (by rw [HP.out]; omega)
  have z92 : ((c.toNat : Int) == 92) = false := by rw [h92]; exact beq_eq_false_iff_ne.2 e92
  by_cases e39 : c = 39
  · have z39 : ((c.toNat : Int) == 39) = true := by rw [h39, e39]; rfl
    have HP : Hid (passN c r = quotT 39 false r) := by rw [Hid]; unfold passN; rw [if_neg e92, if_pos (Or.inl e39), e39]
    clear h92 h39 h34 hd hR1
    go_enter Try.func67, Try.ntmps67
    go_wp2_with (go_at_call 26; refine HSEE.out.mono ?_; rintro e w5 ⟨rfl, h5⟩; have HG5 := Lib.hid (H0.out.under h5); clear h5; have q1 : w5.cell? ⟨rb, 1, none⟩ = some (.int .i64 a) := cell_of HG5.out.rr 1; have f1 := free_of HG5.out.rr 1; simp only [])
    have HG6 := Lib.hid (HG5.out.setI (a + 1) (ai := (a : Int) + 1) (by omega))
    go_loopw [] (fun wx => ∃ j : Nat, Hid (RG w wx rb S (a + 1 + j) ∧ QA 39 r j)) (fun wx => meaR rb wx)
    case atStart => exact ⟨0, HG6.out, QA.nil 39 r⟩
    case round =>
      obtain ⟨j, HJ⟩ := hrel
      have hjl := HJ.out.2.le
      obtain ⟨m, hm⟩ : ∃ m, a + 1 + j = m := ⟨_, rfl⟩
      have HG : Hid (RG w wr rb S m) := by rw [Hid, ← hm]; exact HJ.out.1
      have hwm : IntKind.i64.wrap ((m : Int) + 1) = (m : Int) + 1 := IntWalk.i64_in _ (by omega)
      have hwm2 : IntKind.i64.wrap ((m : Int) + 1 + 1) = (m : Int) + 2 := (IntWalk.i64_in ((m : Int) + 1 + 1) (by omega)).trans (by omega)
      have HMEA : Hid (∀ w5 k, RG w w5 rb S (m + k) → 0 < k → meaR rb w5 < meaR rb wr) := fun w5 k h hk => by rw [meaR_at h.rr, meaR_at HG.out.rr]; omega
      by_cases hov : S.size ≤ m
      · have HO1 := Lib.hid (over_seq HG.out.rr true (decide_eq_true hov))
        have hq : r.length ≤ quotT 39 false r := by
          by_cases h : j ≤ r.length
          · rw [HJ.out.2.eq h]; omega
          · rw [HJ.out.2.off (by omega)]; omega
        have HQ2 := Lib.hid hq
        have HOVK := Lib.hid hov
        clear hov hq
        go_wp2_with (go_at_call 25; refine HO1.out.mono ?_; rintro e w6 ⟨rfl, h6⟩; have HG7 := Lib.hid (HG.out.under h6); clear h6; have q1 : w6.cell? ⟨rb, 1, none⟩ = some (.int .i64 m) := cell_of HG7.out.rr 1; have f1 := free_of HG7.out.rr 1; simp only [])
        go_end0
        exact HEND.out (m + 1) _ (HG7.out.setI (m + 1) (ai := (m : Int) + 1) (by omega)) (by omega) (by omega) (.inr ⟨Nat.le_succ_of_le HOVK.out, by rw [HP.out]; exact HQ2.out⟩)
      · have hlt : m < S.size := by omega
        have HO1 := Lib.hid (over_seq HG.out.rr false (decide_eq_false hov))
        have hat := data_get S m hlt
        obtain ⟨ch, hch⟩ : ∃ ch, S[m]'hlt = ch := ⟨_, rfl⟩
        rw [hch] at hat
        have hdr := at_drop hat
        have HSE : Hid (∀ w5, RG w w5 rb S m → Calls Try.prog 26 #[.pointer (some ⟨rb, 0, none⟩), .int .i64 0] w5 fun e w' => e = .returned (.int .u8 ch.toNat) ∧ Below w5.heap.size w5 w') := fun w5 h => see_seq h.rr 0 0 m rfl rfl (by omega) (by omega) (seeF_head hdr)
        have HRJ : Hid (r.drop j = ch :: r.drop (j + 1)) := by
          rw [Hid, ← HR1.out, List.drop_drop, List.drop_drop, hm, hdr, show a + 1 + (j + 1) = m + 1 by omega]
        have h39 := byte_eq ch 39
        rw [show ((39 : UInt8).toNat : Int) = 39 from rfl] at h39
        have h92b := byte_eq ch 92
        rw [show ((92 : UInt8).toNat : Int) = 92 from rfl] at h92b
        by_cases eh : ch = 39
        · have zz : ((ch.toNat : Int) == 39) = true := by rw [h39, eh]; rfl
          have HQE : Hid (quotT 39 false r = j + 1) := by rw [Hid, HJ.out.2.eq (by omega), HRJ.out, eh, quotT_hit]
          clear hov hat hdr h39 h92b eh
          go_wp2_with (first
            | (go_at_call 25; refine HO1.out.mono ?_; rintro e w6 ⟨rfl, h6⟩; have HG7 := Lib.hid (HG.out.under h6); clear h6; simp only [])
            | (go_at_call 26; (with_reducible refine (HSE.out _ HG7.out).mono ?_); rintro e w8 ⟨rfl, h8⟩; have HG8 := Lib.hid (HG7.out.under h8); clear h8; have q1 : w8.cell? ⟨rb, 1, none⟩ = some (.int .i64 m) := cell_of HG8.out.rr 1; have f1 := free_of HG8.out.rr 1; simp only []))
          go_end0
          exact HEND.out (m + 1) _ (HG8.out.setI (m + 1) (ai := (m : Int) + 1) (by omega)) (by omega) (by omega) (.inl ⟨by rw [HP.out, HQE.out]; omega, by omega⟩)
        · have zz : ((ch.toNat : Int) == 39) = false := by rw [h39]; exact beq_eq_false_iff_ne.2 eh
          have HQN := Lib.hid (HJ.out.2.one HRJ.out eh)
          clear hov hat hdr h39 h92b eh
          go_wp2_with (first
            | (go_at_call 25; refine HO1.out.mono ?_; rintro e w6 ⟨rfl, h6⟩; have HG7 := Lib.hid (HG.out.under h6); clear h6; simp only [])
            | (go_at_call 26; (with_reducible refine (HSE.out _ HG7.out).mono ?_); rintro e w8 ⟨rfl, h8⟩; have HG8 := Lib.hid (HG7.out.under h8); clear h8; have q1 : w8.cell? ⟨rb, 1, none⟩ = some (.int .i64 m) := cell_of HG8.out.rr 1; have f1 := free_of HG8.out.rr 1; simp only []))
          have HG9 := Lib.hid (HG8.out.setI (m + 1) (ai := (m : Int) + 1) (by omega))
          go_roundw
          case measure => exact HMEA.out _ 1 HG9.out (by omega)
          case rel => exact ⟨j + 1, by rw [show a + 1 + (j + 1) = m + 1 by omega]; exact HG9.out, HQN.out⟩
  have z39 : ((c.toNat : Int) == 39) = false := by rw [h39]; exact beq_eq_false_iff_ne.2 e39
  by_cases e34 : c = 34
  · have z34 : ((c.toNat : Int) == 34) = true := by rw [h34, e34]; rfl
    have HP : Hid (passN c r = quotT 34 false r) := by rw [Hid]; unfold passN; rw [if_neg e92, if_pos (Or.inr e34), e34]
    clear h92 h39 h34 hd hR1
    go_enter Try.func67, Try.ntmps67
    go_wp2_with (go_at_call 26; refine HSEE.out.mono ?_; rintro e w5 ⟨rfl, h5⟩; have HG5 := Lib.hid (H0.out.under h5); clear h5; have q1 : w5.cell? ⟨rb, 1, none⟩ = some (.int .i64 a) := cell_of HG5.out.rr 1; have f1 := free_of HG5.out.rr 1; simp only [])
    have HG6 := Lib.hid (HG5.out.setI (a + 1) (ai := (a : Int) + 1) (by omega))
    go_loopw [] (fun wx => ∃ j : Nat, Hid (RG w wx rb S (a + 1 + j) ∧ QA 34 r j)) (fun wx => meaR rb wx)
    case atStart => exact ⟨0, HG6.out, QA.nil 34 r⟩
    case round =>
      obtain ⟨j, HJ⟩ := hrel
      have hjl := HJ.out.2.le
      obtain ⟨m, hm⟩ : ∃ m, a + 1 + j = m := ⟨_, rfl⟩
      have HG : Hid (RG w wr rb S m) := by rw [Hid, ← hm]; exact HJ.out.1
      have hwm : IntKind.i64.wrap ((m : Int) + 1) = (m : Int) + 1 := IntWalk.i64_in _ (by omega)
      have hwm2 : IntKind.i64.wrap ((m : Int) + 1 + 1) = (m : Int) + 2 := (IntWalk.i64_in ((m : Int) + 1 + 1) (by omega)).trans (by omega)
      have HMEA : Hid (∀ w5 k, RG w w5 rb S (m + k) → 0 < k → meaR rb w5 < meaR rb wr) := fun w5 k h hk => by rw [meaR_at h.rr, meaR_at HG.out.rr]; omega
      by_cases hov : S.size ≤ m
      · have HO1 := Lib.hid (over_seq HG.out.rr true (decide_eq_true hov))
        have hq : r.length ≤ quotT 34 false r := by
          by_cases h : j ≤ r.length
          · rw [HJ.out.2.eq h]; omega
          · rw [HJ.out.2.off (by omega)]; omega
        have HQ2 := Lib.hid hq
        have HOVK := Lib.hid hov
        clear hov hq
        go_wp2_with (go_at_call 25; refine HO1.out.mono ?_; rintro e w6 ⟨rfl, h6⟩; have HG7 := Lib.hid (HG.out.under h6); clear h6; have q1 : w6.cell? ⟨rb, 1, none⟩ = some (.int .i64 m) := cell_of HG7.out.rr 1; have f1 := free_of HG7.out.rr 1; simp only [])
        go_end0
        exact HEND.out (m + 1) _ (HG7.out.setI (m + 1) (ai := (m : Int) + 1) (by omega)) (by omega) (by omega) (.inr ⟨Nat.le_succ_of_le HOVK.out, by rw [HP.out]; exact HQ2.out⟩)
      · have hlt : m < S.size := by omega
        have HO1 := Lib.hid (over_seq HG.out.rr false (decide_eq_false hov))
        have hat := data_get S m hlt
        obtain ⟨ch, hch⟩ : ∃ ch, S[m]'hlt = ch := ⟨_, rfl⟩
        rw [hch] at hat
        have hdr := at_drop hat
        have HSE : Hid (∀ w5, RG w w5 rb S m → Calls Try.prog 26 #[.pointer (some ⟨rb, 0, none⟩), .int .i64 0] w5 fun e w' => e = .returned (.int .u8 ch.toNat) ∧ Below w5.heap.size w5 w') := fun w5 h => see_seq h.rr 0 0 m rfl rfl (by omega) (by omega) (seeF_head hdr)
        have HRJ : Hid (r.drop j = ch :: r.drop (j + 1)) := by
          rw [Hid, ← HR1.out, List.drop_drop, List.drop_drop, hm, hdr, show a + 1 + (j + 1) = m + 1 by omega]
        have h34 := byte_eq ch 34
        rw [show ((34 : UInt8).toNat : Int) = 34 from rfl] at h34
        have h92b := byte_eq ch 92
        rw [show ((92 : UInt8).toNat : Int) = 92 from rfl] at h92b
        by_cases eh : ch = 34
        · have zz : ((ch.toNat : Int) == 34) = true := by rw [h34, eh]; rfl
          have HQE : Hid (quotT 34 false r = j + 1) := by rw [Hid, HJ.out.2.eq (by omega), HRJ.out, eh, quotT_hit]
          clear hov hat hdr h34 h92b eh
          go_wp2_with (first
            | (go_at_call 25; refine HO1.out.mono ?_; rintro e w6 ⟨rfl, h6⟩; have HG7 := Lib.hid (HG.out.under h6); clear h6; simp only [])
            | (go_at_call 26; (with_reducible refine (HSE.out _ HG7.out).mono ?_); rintro e w8 ⟨rfl, h8⟩; have HG8 := Lib.hid (HG7.out.under h8); clear h8; have q1 : w8.cell? ⟨rb, 1, none⟩ = some (.int .i64 m) := cell_of HG8.out.rr 1; have f1 := free_of HG8.out.rr 1; simp only []))
          go_end0
          exact HEND.out (m + 1) _ (HG8.out.setI (m + 1) (ai := (m : Int) + 1) (by omega)) (by omega) (by omega) (.inl ⟨by rw [HP.out, HQE.out]; omega, by omega⟩)
        · have zz : ((ch.toNat : Int) == 34) = false := by rw [h34]; exact beq_eq_false_iff_ne.2 eh
          by_cases eb : ch = 92
          · have zb : ((ch.toNat : Int) == 92) = true := by rw [h92b, eb]; rfl
            have HQN := Lib.hid (HJ.out.2.bs (by rw [HRJ.out, eb]))
            clear hov hat hdr h34 h92b eh eb
            go_wp2_with (first
              | (go_at_call 25; refine HO1.out.mono ?_; rintro e w6 ⟨rfl, h6⟩; have HG7 := Lib.hid (HG.out.under h6); clear h6; simp only [])
              | (go_at_call 26; first
                  | ((with_reducible refine (HSE.out _ HG7.out).mono ?_); rintro e w8 ⟨rfl, h8⟩; have HG8 := Lib.hid (HG7.out.under h8); clear h8 HG7; simp only [])
                  | ((with_reducible refine (HSE.out _ HG8.out).mono ?_); rintro e w9 ⟨rfl, h9⟩; have HG9 := Lib.hid (HG8.out.under h9); clear h9; have q1 : w9.cell? ⟨rb, 1, none⟩ = some (.int .i64 m) := cell_of HG9.out.rr 1; have f1 := free_of HG9.out.rr 1; have HGA := Lib.hid (HG9.out.setI (m + 1) (ai := (m : Int) + 1) (by omega)); have q16 : (w9.setCell ⟨rb, 1, none⟩ (.int .i64 ((m : Int) + 1))).cell? ⟨rb, 1, none⟩ = some (.int .i64 ((m : Int) + 1)) := cell_of HGA.out.rr 1; have f16 := free_of HGA.out.rr 1; simp only [])))
            have HGB1 := Lib.hid (HGA.out.setI (m + 2) (ai := (m : Int) + 2) (by omega))
            have HGB2 := Lib.hid (HG9.out.setI (m + 2) (ai := (m : Int) + 2) (by omega))
            go_roundw
            case measure => first | exact HMEA.out _ 2 HGB1.out (by omega) | exact HMEA.out _ 2 HGB2.out (by omega)
            case rel => first | exact ⟨j + 2, by rw [show a + 1 + (j + 2) = m + 2 by omega]; exact HGB1.out, HQN.out⟩ | exact ⟨j + 2, by rw [show a + 1 + (j + 2) = m + 2 by omega]; exact HGB2.out, HQN.out⟩
          · have zb : ((ch.toNat : Int) == 92) = false := by rw [h92b]; exact beq_eq_false_iff_ne.2 eb
            have HQN := Lib.hid (HJ.out.2.two HRJ.out eh eb)
            clear hov hat hdr h34 h92b eh eb
            go_wp2_with (first
              | (go_at_call 25; refine HO1.out.mono ?_; rintro e w6 ⟨rfl, h6⟩; have HG7 := Lib.hid (HG.out.under h6); clear h6; simp only [])
              | (go_at_call 26; first
                  | ((with_reducible refine (HSE.out _ HG7.out).mono ?_); rintro e w8 ⟨rfl, h8⟩; have HG8 := Lib.hid (HG7.out.under h8); clear h8 HG7; simp only [])
                  | ((with_reducible refine (HSE.out _ HG8.out).mono ?_); rintro e w9 ⟨rfl, h9⟩; have HG9 := Lib.hid (HG8.out.under h9); clear h9; have q1 : w9.cell? ⟨rb, 1, none⟩ = some (.int .i64 m) := cell_of HG9.out.rr 1; have f1 := free_of HG9.out.rr 1; simp only [])))
            have HGA := Lib.hid (HG9.out.setI (m + 1) (ai := (m : Int) + 1) (by omega))
            go_roundw
            case measure => exact HMEA.out _ 1 HGA.out (by omega)
            case rel => exact ⟨j + 1, by rw [show a + 1 + (j + 1) = m + 1 by omega]; exact HGA.out, HQN.out⟩
  · have z34 : ((c.toNat : Int) == 34) = false := by rw [h34]; exact beq_eq_false_iff_ne.2 e34
    have HP : Hid (passN c r = 0) := by rw [Hid]; unfold passN; rw [if_neg e92, if_neg (fun e => e.elim e39 e34)]
    clear h92 h39 h34 e92 e39 e34 hd hR1
    go_enter Try.func67, Try.ntmps67
    go_wp2_with (go_at_call 26; refine HSEE.out.mono ?_; rintro e w5 ⟨rfl, h5⟩; have HG5 := Lib.hid (H0.out.under h5); clear h5; have q1 : w5.cell? ⟨rb, 1, none⟩ = some (.int .i64 a) := cell_of HG5.out.rr 1; have f1 := free_of HG5.out.rr 1; simp only [])
    go_end0
    exact HEND.out (a + 1) _ (HG5.out.setI (a + 1) (ai := (a : Int) + 1) (by omega)) (by omega) (by omega) (by rw [HP.out]; omega)
end Go.Proofs.Ytafbheplaheohaa
