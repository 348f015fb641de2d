import Derived.Test.YtleflcpdaapddaaDoorB
import Derived.BigQuiet
import Derived.Deep.QuietTactic
namespace Go.Proofs.YtleflcpdaapddaaDoor
open Go.RowKit

theorem below_drew {a b : World} (h : ∃ n, b = a.drewN n) : Below a.heap.size a b := by
  obtain ⟨n, rfl⟩ := h
  exact below_drewN (Below.refl _ _) n
theorem btrans {a b c : World} (h1 : Below a.heap.size a b) (h2 : Below b.heap.size b c) : Below a.heap.size a c := h1.trans (h2.mono h1.size)

section
variable (p s F G : ByteArray) (a b : List UInt8)

set_option maxRecDepth 100000 in
set_option maxHeartbeats 1000000 in
theorem Is_any (w : World) (t : Bool) (ht : (decide (0 ≤ Lib.indexByte p.data.toList 37)) = t) :
    Calls Tryd.prog 8 #[.string p] w fun e w' => e = .returned (.bool t) ∧ w = w' := by
  have HT := Lib.hid ht
  clear ht
  go_enter Tryd.func8, Tryd.ntmps8
  go_wp2_with fail
  refine (Tryd.strings_Contains_one p 37 _).mono ?_
  rw [HT.out]
  rintro e w' ⟨rfl, rfl⟩
  go_wp2_with fail
  go_ret
  exact ⟨rfl, rfl⟩

set_option maxRecDepth 100000 in
set_option maxHeartbeats 1000000 in
theorem Fill_any (w : World) (m : Int) (hm : w.cell? ⟨0, 0, none⟩ = some (.int .i64 m)) (hp1 : p.size ≤ 100000) (hs1 : s.size ≤ 100000) (t : ByteArray) (ht : mk (Lib.replace p.data.toList [37] s.data.toList 1) = t) :
    Calls Tryd.prog 10 #[.string p, .string s] w fun e w' => e = .returned (.string t) ∧ Below w.heap.size w w' := by
  have HT : Hid (mk (Lib.replace p.data.toList (mk [37]).data.toList s.data.toList 1) = t) := by unfold Hid; rw [mk_list]; exact ht
  clear ht
  have hc := Lib.countB_le (mk [37]) (by rw [mk_size]; exact Nat.le_refl _) p.size p (Nat.le_refl _)
  have hlen : p.size + Lib.countB p (mk [37]) * s.size ≤ 140737488355328 := by
    have : Lib.countB p (mk [37]) * s.size ≤ 100000 * 100000 := Nat.mul_le_mul (by omega) hs1
    omega
  clear hc
  have HL := Lib.hid hlen
  clear hlen
  go_enter Tryd.func10, Tryd.ntmps10
  go_wp2_with fail
  refine (Tryd.strings_Replace p (mk [37]) s 1 m _ (by omega) hm (by rw [mk_size]; exact Nat.le_refl _) HL.out).mono ?_
  rw [show (⟨(Lib.replace p.data.toList (mk [37]).data.toList s.data.toList 1).toArray⟩ : ByteArray) = t from HT.out]
  rintro e w' ⟨rfl, hB⟩
  have HB := Lib.hid hB
  clear hB
  go_wp2_with fail
  go_ret
  exact ⟨rfl, HB.out⟩

theorem ext_front (hpl : p.data.toList = a ++ 37 :: b) : p.extract 0 a.length = mk a := by
  apply eq_mk
  rw [ByteArray.data_extract, Array.toList_extract]
  simp [List.extract_eq_take_drop, hpl]
theorem ext_back (hpl : p.data.toList = a ++ 37 :: b) : p.extract (a.length + 1) p.size = mk b := by
  apply eq_mk
  have : p.size = a.length + 1 + b.length := by rw [← size_len, hpl]; simp; omega
  rw [ByteArray.data_extract, Array.toList_extract]
  simp [List.extract_eq_take_drop, hpl, this]

set_option maxRecDepth 100000 in
set_option maxHeartbeats 1000000 in
theorem RefFill_no (w : World) (hp1 : p.size ≤ 100000) (h : (37 : UInt8) ∉ p.data.toList) : Calls Tryd.prog 11 #[.string p, .string s] w fun e w' => e = .returned (.string p) ∧ w = w' := by
  have HP := Lib.hid (pc_no h)
  clear h
  go_enter Tryd.func11, Tryd.ntmps11
  go_wp2_with (go_at_call 9; refine (At_any p _ hp1).mono ?_; rw [HP.out]; rintro e w' ⟨rfl, rfl⟩)
  go_ret
  exact ⟨rfl, rfl⟩
set_option maxRecDepth 100000 in
set_option maxHeartbeats 1000000 in
theorem RefFill_at (w : World) (hp1 : p.size ≤ 100000) (hs1 : s.size ≤ 100000) (hpl : p.data.toList = a ++ 37 :: b) (h : (37 : UInt8) ∉ a) (hF : mk a = F) (hG : mk b = G) : Calls Tryd.prog 11 #[.string p, .string s] w fun e w' => e = .returned (.string (F ++ s ++ G)) ∧ ∃ n, w' = w.drewN n := by
  have HP : Hid (pc p.data.toList = (a.length : Int)) := by unfold Hid; rw [hpl]; exact pc_at a b h
  have h1 := ext_front p a b hpl
  have h2 := ext_back p a b hpl
  rw [hF] at h1
  rw [hG] at h2
  have hsz : a.length + b.length + 1 = p.size := by rw [← size_len, hpl]; simp; omega
  have hFs : F.size = a.length := by rw [← hF, mk_size]
  have hGs : G.size = b.length := by rw [← hG, mk_size]
  have hk : (a.length : Int) + 1 ≤ (p.size : Int) := by omega
  have c1 : ¬ (F.size + s.size > 9223372036854775807) := by omega
  have c2 : ¬ ((F ++ s).size + G.size > 9223372036854775807) := by rw [ByteArray.size_append]; omega
  have e1 : IntKind.i64.wrap ((a.length : Int) + 1) = (a.length : Int) + 1 := by unfold IntKind.wrap; simp [IntKind.bits, IntKind.signed]; omega
  have hk2 : (a.length : Int) ≤ (p.size : Int) := by omega
  have hk3 : a.length + 1 ≤ p.size := by omega
  have hk4 : a.length ≤ p.size := by omega
  have h0 : (0 : Int) ≤ (a.length : Int) + 1 := by omega
  have ht : ((a.length : Int) + 1).toNat = a.length + 1 := by omega
  clear hpl h hF hG hsz hFs hGs
  generalize a.length = k at *
  go_enter Tryd.func11, Tryd.ntmps11
  go_wp2_with (go_at_call 9; refine (At_any p _ hp1).mono ?_; rw [HP.out]; rintro e w' ⟨rfl, rfl⟩)
  go_quiet (fail)
  go_wp2_with fail
  go_ret
  exact ⟨rfl, _, rfl⟩
set_option maxRecDepth 100000 in
set_option maxHeartbeats 1000000 in
theorem RefStem_no (w : World) (hp1 : p.size ≤ 100000) (h : (37 : UInt8) ∉ p.data.toList) : Calls Tryd.prog 7 #[.string p, .string s] w fun e w' => e = .returned (.tuple #[.string ⟨#[]⟩, .bool (p.toList == s.toList)]) ∧ w = w' := by
  have HP := Lib.hid (pc_no h)
  clear h
  go_enter Tryd.func7, Tryd.ntmps7
  go_wp2_with (go_at_call 9; refine (At_any p _ hp1).mono ?_; rw [HP.out]; rintro e w' ⟨rfl, rfl⟩)
  go_ret2
  exact ⟨rfl, rfl⟩
set_option maxRecDepth 100000 in
set_option maxHeartbeats 2000000 in
theorem RefStem_at (w : World) (hp1 : p.size ≤ 100000) (hs1 : s.size ≤ 100000) (hpl : p.data.toList = a ++ 37 :: b) (h : (37 : UInt8) ∉ a) (hF : mk a = F) (hG : mk b = G) :
    Calls Tryd.prog 7 #[.string p, .string s] w fun e w' => e = .returned (.tuple #[.string (if stemOk F G s then s.extract F.size (s.size - G.size) else ⟨#[]⟩), .bool (stemOk F G s)]) ∧ w = w' := by
  have HP : Hid (pc p.data.toList = (a.length : Int)) := by unfold Hid; rw [hpl]; exact pc_at a b h
  have e1 := ext_front p a b hpl
  have e2 := ext_back p a b hpl
  rw [hF] at e1
  rw [hG] at e2
  have hsz : a.length + b.length + 1 = p.size := by rw [← size_len, hpl]; simp; omega
  have hFs : F.size = a.length := by rw [← hF, mk_size]
  have hGs : G.size = b.length := by rw [← hG, mk_size]
  have hk : (a.length : Int) + 1 ≤ (p.size : Int) := by omega
  have hsum : F.size + G.size + 1 = p.size := by omega
  clear hpl h hF hG hsz hFs hGs
  generalize a.length = k at *
  obtain ⟨r, hr⟩ : ∃ r : ByteArray, (if stemOk F G s then s.extract F.size (s.size - G.size) else ⟨#[]⟩) = r := ⟨_, rfl⟩
  obtain ⟨o, ho⟩ : ∃ o, stemOk F G s = o := ⟨_, rfl⟩
  rw [hr, ho]
  rw [ho] at hr
  by_cases h1 : F.size + G.size < s.size
  · have h1' : ¬ (s.size : Int) < (p.size : Int) := by omega
    cases h2 : hp s F
    · have HO : Hid (o = false) := by unfold Hid; rw [← ho]; unfold stemOk; rw [h2]; simp
      have HR : Hid (r = ⟨#[]⟩) := by unfold Hid; rw [← hr, HO.out]; rfl
      have H2 := Lib.hid h2
      clear ho hr h2 hsum
      go_enter Tryd.func7, Tryd.ntmps7
      go_wp2_with (first
        | (go_at_call 9; refine (At_any p _ hp1).mono ?_; rw [HP.out]; rintro e w' ⟨rfl, rfl⟩)
        | (go_at_call 15; refine (Begins_any s F _).mono ?_; rw [H2.out]; rintro e w' ⟨rfl, rfl⟩))
      go_ret2
      exact ⟨by rw [HO.out, HR.out]; rfl, rfl⟩
    · cases h3 : ends s G
      · have HO : Hid (o = false) := by unfold Hid; rw [← ho]; unfold stemOk; rw [h3]; simp
        have HR : Hid (r = ⟨#[]⟩) := by unfold Hid; rw [← hr, HO.out]; rfl
        have H2 := Lib.hid h2
        have H3 := Lib.hid h3
        clear ho hr h2 h3 hsum
        go_enter Tryd.func7, Tryd.ntmps7
        go_wp2_with (first
          | (go_at_call 9; refine (At_any p _ hp1).mono ?_; rw [HP.out]; rintro e w' ⟨rfl, rfl⟩)
          | (go_at_call 15; refine (Begins_any s F _).mono ?_; rw [H2.out]; rintro e w' ⟨rfl, rfl⟩)
          | (go_at_call 16; refine (Ends_any s G _ (by omega)).mono ?_; rw [H3.out]; rintro e w' ⟨rfl, rfl⟩))
        go_ret2
        exact ⟨by rw [HO.out, HR.out]; rfl, rfl⟩
      · have HO : Hid (o = true) := by unfold Hid; rw [← ho]; unfold stemOk; rw [h2, h3]; simp [h1]
        have HR : Hid (r = s.extract F.size (s.size - G.size)) := by unfold Hid; rw [← hr, HO.out]; rfl
        have H2 := Lib.hid h2
        have H3 := Lib.hid h3
        obtain ⟨q, hq⟩ : ∃ q : Nat, s.size - G.size = q := ⟨_, rfl⟩
        have hw1 : IntKind.i64.wrap ((s.size : Int) - (G.size : Int)) = (q : Int) := by unfold IntKind.wrap; simp [IntKind.bits, IntKind.signed]; omega
        have hq1 : (F.size : Int) ≤ (q : Int) := by omega
        have hq2 : (q : Int) ≤ (s.size : Int) := by omega
        have hq3 : F.size ≤ q := by omega
        have hq4 : q ≤ s.size := by omega
        have HQ := Lib.hid hq
        clear ho hr h2 h3 hsum hq
        go_enter Tryd.func7, Tryd.ntmps7
        go_wp2_with (first
          | (go_at_call 9; refine (At_any p _ hp1).mono ?_; rw [HP.out]; rintro e w' ⟨rfl, rfl⟩)
          | (go_at_call 15; refine (Begins_any s F _).mono ?_; rw [H2.out]; rintro e w' ⟨rfl, rfl⟩)
          | (go_at_call 16; refine (Ends_any s G _ (by omega)).mono ?_; rw [H3.out]; rintro e w' ⟨rfl, rfl⟩))
        go_ret2
        exact ⟨by rw [HO.out, HR.out, HQ.out]; rfl, rfl⟩
  · have HO : Hid (o = false) := by unfold Hid; rw [← ho]; unfold stemOk; simp [h1]
    have HR : Hid (r = ⟨#[]⟩) := by unfold Hid; rw [← hr, HO.out]; rfl
    have h1' : (s.size : Int) < (p.size : Int) := by omega
    clear ho hr hsum
    go_enter Tryd.func7, Tryd.ntmps7
    go_wp2_with (first
      | (go_at_call 9; refine (At_any p _ hp1).mono ?_; rw [HP.out]; rintro e w' ⟨rfl, rfl⟩))
    go_ret2
    exact ⟨by rw [HO.out, HR.out]; rfl, rfl⟩
end
end Go.Proofs.YtleflcpdaapddaaDoor
