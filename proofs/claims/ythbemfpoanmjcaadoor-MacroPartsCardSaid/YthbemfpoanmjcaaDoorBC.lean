import Derived.Test.YthbemfpoanmjcaaDoorBB
namespace Go.Proofs.YthbemfpoanmjcaaDoor
open Go.RowKit
set_option linter.unusedVariables false

/-- Does s begin with p; does it end with it? -/
def rhp (s p : ByteArray) : Bool := decide (p.size ≤ s.size) && ((s.extract 0 p.size).toList == p.toList)

def rends (s x : ByteArray) : Bool := decide (x.size ≤ s.size) && ((s.extract (s.size - x.size) s.size).toList == x.toList)


set_option maxHeartbeats 1000000 in
theorem RBegins_any (s p : ByteArray) (w : World) : Calls Tryd.prog 58 #[.string s, .string p] w fun e w' => e = .returned (.bool (rhp s p)) ∧ w = w' := by
  by_cases h : p.size ≤ s.size
  · have HE : Hid (rhp s p = ((s.extract 0 p.size).toList == p.toList)) := by unfold Hid rhp; simp [h]
    go_enter Tryd.func58, Tryd.ntmps58
    go_wp2
    go_ret
    refine ⟨?_, rfl⟩
    rw [HE.out]; rfl
  · have HE : Hid (rhp s p = false) := by unfold Hid rhp; simp [h]
    go_enter Tryd.func58, Tryd.ntmps58
    go_wp2
    go_ret
    refine ⟨?_, rfl⟩
    rw [HE.out]; rfl

set_option maxHeartbeats 1000000 in
theorem REnds_any (s x : ByteArray) (w : World) (hs : s.size ≤ 9223372036854775807) :
    Calls Tryd.prog 25 #[.string s, .string x] w fun e w' => e = .returned (.bool (rends s x)) ∧ w = w' := by
  have hlo : x.size ≤ s.size → ((s.size : Int) - (x.size : Int) + 9223372036854775808) % 18446744073709551616 - 9223372036854775808 = ((s.size - x.size : Nat) : Int) := fun _ => by omega
  by_cases h : x.size ≤ s.size
  · have HE : Hid (rends s x = ((s.extract (s.size - x.size) s.size).toList == x.toList)) := by unfold Hid rends; simp [h]
    go_enter Tryd.func25, Tryd.ntmps25
    go_wp2
    go_ret
    refine ⟨?_, rfl⟩
    rw [HE.out]; rfl
  · have HE : Hid (rends s x = false) := by unfold Hid rends; simp [h]
    go_enter Tryd.func25, Tryd.ntmps25
    go_wp2
    go_ret
    refine ⟨?_, rfl⟩
    rw [HE.out]; rfl


theorem eq_mk {s : ByteArray} {l : List UInt8} (h : s.data.toList = l) : s = mk l := by
  apply ByteArray.ext
  rw [← Array.toList_inj, h]

/-- What stands for the % in s; and whether. -/
def stemOk (F G s : ByteArray) : Bool := decide (F.size + G.size < s.size) && (rhp s F && rends s G)


/-- Where the first % stands; -1: nowhere. -/
def pc (l : List UInt8) : Int := Lib.indexByte l 37
theorem pc_no {l : List UInt8} (h : (37 : UInt8) ∉ l) : pc l = -1 := idxB_no h
theorem pc_at (a b : List UInt8) (h : (37 : UInt8) ∉ a) : pc (a ++ 37 :: b) = a.length := idxB_at b h
theorem AtP_any (s : ByteArray) (w : World) (hs : s.size ≤ 1000000) : Calls Tryd.prog 43 #[.string s, .int .u8 37] w fun e w' => e = .returned (.int .i64 (pc s.data.toList)) ∧ w = w' :=
  (At_any s 37 w hs).mono fun e w' ⟨h1, h2⟩ => ⟨h1, h2.symm⟩
section
variable (p s F G : ByteArray) (a b : List UInt8)

theorem ext_front (hpl : p.data.toList = a ++ 37 :: b) : p.extract 0 a.length = mk a := by
  apply eq_mk
  rw [ByteArray.data_extract, Array.toList_extract]
  simp [List.extract_eq_take_drop, hpl]

theorem ext_back (hpl : p.data.toList = a ++ 37 :: b) : p.extract (a.length + 1) p.size = mk b := by
  apply eq_mk
  have : p.size = a.length + 1 + b.length := by rw [← dl, hpl]; simp; omega
  rw [ByteArray.data_extract, Array.toList_extract]
  simp [List.extract_eq_take_drop, hpl, this]


set_option maxRecDepth 100000 in
set_option maxHeartbeats 1000000 in
theorem RefFill_no (w : World) (hp1 : p.size ≤ 1000000) (h : (37 : UInt8) ∉ p.data.toList) : Calls Tryd.prog 46 #[.string p, .string s] w fun e w' => e = .returned (.string p) ∧ w = w' := by
  have HP := Lib.hid (pc_no h)
  clear h
  go_enter Tryd.func46, Tryd.ntmps46
  go_wp2_with (go_at_call 43; refine (AtP_any p _ hp1).mono ?_; rw [HP.out]; rintro e w' ⟨rfl, rfl⟩)
  go_ret
  exact ⟨rfl, rfl⟩

set_option maxRecDepth 100000 in
set_option maxHeartbeats 1000000 in
theorem RefFill_at (w : World) (hp1 : p.size ≤ 1000000) (hs1 : s.size ≤ 1000000) (hpl : p.data.toList = a ++ 37 :: b) (h : (37 : UInt8) ∉ a) (hF : mk a = F) (hG : mk b = G) : Calls Tryd.prog 46 #[.string p, .string s] w fun e w' => e = .returned (.string (F ++ s ++ G)) ∧ ∃ n, w' = w.drewN n := by
  have HP : Hid (pc p.data.toList = (a.length : Int)) := by unfold Hid; rw [hpl]; exact pc_at a b h
  have h1 := ext_front p a b hpl
  have h2 := ext_back p a b hpl
  rw [hF] at h1
  rw [hG] at h2
  have hsz : a.length + b.length + 1 = p.size := by rw [← dl, hpl]; simp; omega
  have hFs : F.size = a.length := by rw [← hF, sz_mk]
  have hGs : G.size = b.length := by rw [← hG, sz_mk]
  have hk : (a.length : Int) + 1 ≤ (p.size : Int) := by omega
  have c1 : ¬ (F.size + s.size > 9223372036854775807) := by omega
  have c2 : ¬ ((F ++ s).size + G.size > 9223372036854775807) := by rw [ByteArray.size_append]; omega
  have e1 : IntKind.i64.wrap ((a.length : Int) + 1) = (a.length : Int) + 1 := by unfold IntKind.wrap; simp [IntKind.bits, IntKind.signed]; omega
  have hk2 : (a.length : Int) ≤ (p.size : Int) := by omega
  have hk3 : a.length + 1 ≤ p.size := by omega
  have hk4 : a.length ≤ p.size := by omega
  have h0 : (0 : Int) ≤ (a.length : Int) + 1 := by omega
  have ht : ((a.length : Int) + 1).toNat = a.length + 1 := by omega
  clear hpl h hF hG hsz hFs hGs
  generalize a.length = k at *
  go_enter Tryd.func46, Tryd.ntmps46
  go_wp2_with (go_at_call 43; refine (AtP_any p _ hp1).mono ?_; rw [HP.out]; rintro e w' ⟨rfl, rfl⟩)
  go_quiet (fail)
  go_wp2_with fail
  go_ret
  exact ⟨rfl, _, rfl⟩

set_option maxRecDepth 100000 in
set_option maxHeartbeats 1000000 in
theorem RefStem_no (w : World) (hp1 : p.size ≤ 1000000) (h : (37 : UInt8) ∉ p.data.toList) : Calls Tryd.prog 45 #[.string p, .string s] w fun e w' => e = .returned (.tuple #[.string ⟨#[]⟩, .bool (p.toList == s.toList)]) ∧ w = w' := by
  have HP := Lib.hid (pc_no h)
  clear h
  go_enter Tryd.func45, Tryd.ntmps45
  go_wp2_with (go_at_call 43; refine (AtP_any p _ hp1).mono ?_; rw [HP.out]; rintro e w' ⟨rfl, rfl⟩)
  go_ret2
  exact ⟨rfl, rfl⟩

set_option maxRecDepth 100000 in
set_option maxHeartbeats 2000000 in
theorem RefStem_at (w : World) (hp1 : p.size ≤ 1000000) (hs1 : s.size ≤ 1000000) (hpl : p.data.toList = a ++ 37 :: b) (h : (37 : UInt8) ∉ a) (hF : mk a = F) (hG : mk b = G) :
    Calls Tryd.prog 45 #[.string p, .string s] w fun e w' => e = .returned (.tuple #[.string (if stemOk F G s then s.extract F.size (s.size - G.size) else ⟨#[]⟩), .bool (stemOk F G s)]) ∧ w = w' := by
  have HP : Hid (pc p.data.toList = (a.length : Int)) := by unfold Hid; rw [hpl]; exact pc_at a b h
  have e1 := ext_front p a b hpl
  have e2 := ext_back p a b hpl
  rw [hF] at e1
  rw [hG] at e2
  have hsz : a.length + b.length + 1 = p.size := by rw [← dl, hpl]; simp; omega
  have hFs : F.size = a.length := by rw [← hF, sz_mk]
  have hGs : G.size = b.length := by rw [← hG, sz_mk]
  have hk : (a.length : Int) + 1 ≤ (p.size : Int) := by omega
  have hsum : F.size + G.size + 1 = p.size := by omega
  clear hpl h hF hG hsz hFs hGs
  generalize a.length = k at *
  obtain ⟨r, hr⟩ : ∃ r : ByteArray, (if stemOk F G s then s.extract F.size (s.size - G.size) else ⟨#[]⟩) = r := ⟨_, rfl⟩
  obtain ⟨o, ho⟩ : ∃ o, stemOk F G s = o := ⟨_, rfl⟩
  rw [hr, ho]
  rw [ho] at hr
  by_cases h1 : F.size + G.size < s.size
  · have h1' : ¬ (s.size : Int) < (p.size : Int) := by omega
    cases h2 : rhp s F
    · have HO : Hid (o = false) := by unfold Hid; rw [← ho]; unfold stemOk; rw [h2]; simp
      have HR : Hid (r = ⟨#[]⟩) := by unfold Hid; rw [← hr, HO.out]; rfl
      have H2 := Lib.hid h2
      clear ho hr h2 hsum
      go_enter Tryd.func45, Tryd.ntmps45
      go_wp2_with (first
        | (go_at_call 43; refine (AtP_any p _ hp1).mono ?_; rw [HP.out]; rintro e w' ⟨rfl, rfl⟩)
        | (go_at_call 58; refine (RBegins_any s F _).mono ?_; rw [H2.out]; rintro e w' ⟨rfl, rfl⟩))
      go_ret2
      exact ⟨by rw [HO.out, HR.out]; rfl, rfl⟩
    · cases h3 : rends s G
      · have HO : Hid (o = false) := by unfold Hid; rw [← ho]; unfold stemOk; rw [h3]; simp
        have HR : Hid (r = ⟨#[]⟩) := by unfold Hid; rw [← hr, HO.out]; rfl
        have H2 := Lib.hid h2
        have H3 := Lib.hid h3
        clear ho hr h2 h3 hsum
        go_enter Tryd.func45, Tryd.ntmps45
        go_wp2_with (first
          | (go_at_call 43; refine (AtP_any p _ hp1).mono ?_; rw [HP.out]; rintro e w' ⟨rfl, rfl⟩)
          | (go_at_call 58; refine (RBegins_any s F _).mono ?_; rw [H2.out]; rintro e w' ⟨rfl, rfl⟩)
          | (go_at_call 25; refine (REnds_any s G _ (by omega)).mono ?_; rw [H3.out]; rintro e w' ⟨rfl, rfl⟩))
        go_ret2
        exact ⟨by rw [HO.out, HR.out]; rfl, rfl⟩
      · have HO : Hid (o = true) := by unfold Hid; rw [← ho]; unfold stemOk; rw [h2, h3]; simp [h1]
        have HR : Hid (r = s.extract F.size (s.size - G.size)) := by unfold Hid; rw [← hr, HO.out]; rfl
        have H2 := Lib.hid h2
        have H3 := Lib.hid h3
        obtain ⟨q, hq⟩ : ∃ q : Nat, s.size - G.size = q := ⟨_, rfl⟩
        have hw1 : IntKind.i64.wrap ((s.size : Int) - (G.size : Int)) = (q : Int) := by unfold IntKind.wrap; simp [IntKind.bits, IntKind.signed]; omega
        have hq1 : (F.size : Int) ≤ (q : Int) := by omega
        have hq2 : (q : Int) ≤ (s.size : Int) := by omega
        have hq3 : F.size ≤ q := by omega
        have hq4 : q ≤ s.size := by omega
        have HQ := Lib.hid hq
        clear ho hr h2 h3 hsum hq
        go_enter Tryd.func45, Tryd.ntmps45
        go_wp2_with (first
          | (go_at_call 43; refine (AtP_any p _ hp1).mono ?_; rw [HP.out]; rintro e w' ⟨rfl, rfl⟩)
          | (go_at_call 58; refine (RBegins_any s F _).mono ?_; rw [H2.out]; rintro e w' ⟨rfl, rfl⟩)
          | (go_at_call 25; refine (REnds_any s G _ (by omega)).mono ?_; rw [H3.out]; rintro e w' ⟨rfl, rfl⟩))
        go_ret2
        exact ⟨by rw [HO.out, HR.out, HQ.out]; rfl, rfl⟩
  · have HO : Hid (o = false) := by unfold Hid; rw [← ho]; unfold stemOk; simp [h1]
    have HR : Hid (r = ⟨#[]⟩) := by unfold Hid; rw [← hr, HO.out]; rfl
    have h1' : (s.size : Int) < (p.size : Int) := by omega
    clear ho hr hsum
    go_enter Tryd.func45, Tryd.ntmps45
    go_wp2_with (first
      | (go_at_call 43; refine (AtP_any p _ hp1).mono ?_; rw [HP.out]; rintro e w' ⟨rfl, rfl⟩))
    go_ret2
    exact ⟨by rw [HO.out, HR.out]; rfl, rfl⟩

end

end Go.Proofs.YthbemfpoanmjcaaDoor
