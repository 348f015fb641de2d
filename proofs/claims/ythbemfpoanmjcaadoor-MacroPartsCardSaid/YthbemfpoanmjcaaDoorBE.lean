import Derived.Test.YthbemfpoanmjcaaDoorBD
import Derived.Test.YthbemfpoanmjcaaDoorN
namespace Go.Proofs.YthbemfpoanmjcaaDoor
open Go.RowKit
set_option linter.unusedVariables false

/-! The reference's own reader of macros: its small functions. -/
def GetR (w : World) (l : Prs) (nm : Bs) (e : Ending) (w' : World) : Prop :=
  ∃ (v : ByteArray) (ok : Bool), e = .returned (.tuple #[.string v, .bool ok]) ∧ w' = w ∧ ((ok = false ∧ lastV (bsl l) nm = none) ∨ (ok = true ∧ lastV (bsl l) nm = some v.data.toList ∧ ∃ p ∈ l, p.2 = v))
set_option maxRecDepth 100000 in
set_option maxHeartbeats 4000000 in
theorem get_any (B : Nat) (w : World) (pv : Value) (l : Prs) (nm : ByteArray) (h : PV B w pv l) : Calls Tryd.prog 47 #[pv, .string nm] w (GetR w l nm.data.toList) := by
  obtain ⟨o, c, rfl⟩ := h.form
  have hll := h.len
  have HP := Lib.hid h
  have hwr : IntKind.i64.wrap ((l.length : Int) - 1) = (l.length : Int) - 1 := IntWalk.i64_in _ (by omega)
  clear h
  go_enter Tryd.func47, Tryd.ntmps47
  go_wp2_with fail
  go_loopw [6] (fun i wx => ∃ z : Int, -1 ≤ z ∧ z < l.length ∧ i = .int .i64 z ∧ wx = w ∧ Hid (∀ p ∈ (bsl l).drop (z + 1).toNat, p.1 ≠ nm.data.toList)) (fun i _ => (intOf i + 1).toNat)
  case atStart => exact ⟨(l.length : Int) - 1, by omega, by omega, rfl, rfl, fun p hp => by
    rw [List.drop_eq_nil_of_le (by simp [bsl])] at hp; cases hp⟩
  case round =>
    obtain ⟨z, hz1, hz2, rfl, rfl, HA⟩ := hrel
    by_cases hz : 0 ≤ z
    case neg =>
      obtain rfl : z = -1 := by omega
      have hd : decide ((0 : Int) ≤ -1) = false := by decide
      have HE : Hid (GetR wr l nm.data.toList (.returned (.tuple #[.string ⟨#[]⟩, .bool false])) wr) := ⟨_, _, rfl, rfl, .inl ⟨rfl, lastV_none (fun p hp => HA.out p (by simpa using hp))⟩⟩
      go_wp2_with fail
      go_ret2
      exact HE.out
    case pos =>
    obtain ⟨k, rfl⟩ : ∃ k : Nat, z = (k : Int) := ⟨z.toNat, by omega⟩
    have hk : k < l.length := by omega
    have hd : decide ((0 : Int) ≤ (k : Int)) = true := decide_eq_true (by omega)
    have hb1 : IntKind.i64.wrap ((k : Int) - 1) = (k : Int) - 1 := IntWalk.i64_in _ (by omega)
    rcases HP.out.at' with ⟨o1, c1, _, h0⟩ | ⟨b, off, cap, h1, h2, h3, h4⟩
    · rw [h0] at hk; simp at hk
    injection h1 with e1 _ e2
    subst e1
    obtain ⟨q0, q1⟩ := h4 k hk
    have ad := add2 b off k
    obtain ⟨x, hx⟩ : ∃ x, l[k] = x := ⟨_, rfl⟩
    rw [hx] at q0 q1
    have hbk : (bsl l)[k]'(by simpa [bsl] using hk) = (x.1.data.toList, x.2.data.toList) := by simp [bsl, hx]
    have hdr : (bsl l).drop k = (x.1.data.toList, x.2.data.toList) :: (bsl l).drop (k + 1) := by
      rw [List.drop_eq_getElem_cons (by simpa [bsl] using hk), hbk]
    have hse := str_eq x.1 nm
    by_cases he : x.1.data.toList = nm.data.toList
    · have g1 : (x.1.toList == nm.toList) = true := by rw [hse, he]; simp
      have HE : Hid (GetR wr l nm.data.toList (.returned (.tuple #[.string x.2, .bool true])) wr) := by
        refine ⟨_, _, rfl, rfl, .inr ⟨rfl, ?_, ⟨x, by rw [← hx]; exact List.getElem_mem hk, rfl⟩⟩⟩
        rw [lastV_some (k := k) (by simpa [bsl] using hk) (fun p hp => HA.out p (by simpa using hp)) (by rw [hbk]; exact he), hbk]
      clear hse he hdr hbk h4 HA
      go_wp2_with fail
      go_ret2
      exact HE.out
    · have g1 : (x.1.toList == nm.toList) = false := by rw [hse]; simpa using he
      have HN : Hid (∀ p ∈ (bsl l).drop ((k : Int) - 1 + 1).toNat, p.1 ≠ nm.data.toList) := fun p hp => by
        rw [show ((k : Int) - 1 + 1).toNat = k by omega, hdr] at hp
        rcases List.mem_cons.1 hp with rfl | hp
        · exact he
        · exact HA.out p (by simpa using hp)
      clear hse he hdr hbk h4 HA
      go_wp2_with fail
      go_roundw
      case measure => simp [intOf] <;> omega
      case rel => exact ⟨(k : Int) - 1, by omega, by omega, by go_num, by simp, HN.out⟩
def clo (P M : Nat) : Int := if M = 0 then -1 else (P : Int) + (M : Int) - 1
set_option maxRecDepth 100000 in
set_option maxHeartbeats 4000000 in
theorem closing_any (s : ByteArray) (o c : UInt8) (P j0 M : Nat) (hs : s.size ≤ 1000000) (hP : P ≤ j0) (hj : j0 ≤ s.size) (hoc : o ≠ c) (hM : scanR o c (s.data.toList.drop j0) (j0 - P) 1 = M) (w : World) :
    Calls Tryd.prog 35 #[.string s, .int .i64 j0, .int .u8 o.toNat, .int .u8 c.toNat] w fun e w' => e = .returned (.int .i64 (clo P M)) ∧ w' = w := by
  obtain ⟨G, hG⟩ : ∃ G, clo P M = G := ⟨_, rfl⟩
  rw [hG]
  have HG := Lib.hid hG
  have HM := Lib.hid hM
  have HOC := Lib.hid hoc
  clear hG hM hoc
  go_enter Tryd.func35, Tryd.ntmps35
  go_wp2_with fail
  go_loopw [1, 9] (fun i n wx => ∃ (k m : Nat), k ≤ s.size ∧ P ≤ k ∧ m ≤ k ∧ i = .int .i64 k ∧ n = .int .i64 m ∧ wx = w ∧ Hid (scanR o c (s.data.toList.drop k) (k - P) ((m : Int) + 1) = M)) (fun i _ _ => s.size - (intOf i).toNat)
  case atStart => exact ⟨j0, 0, hj, hP, Nat.zero_le _, rfl, rfl, rfl, HM.out⟩
  case round =>
    obtain ⟨k, m, hk, hkP, hmk, rfl, rfl, rfl, HA⟩ := hrel
    by_cases hlt : k < s.size
    · have hltd : decide ((k : Int) < (s.size : Int)) = true := decide_eq_true (by omega)
      have hltI : (k : Int) < (s.size : Int) := by omega
      have hk0 : (0 : Int) ≤ (k : Int) := by omega
      have b1 := wr_in ((k : Int) + 1) (by omega)
      have b2 := wr_in ((m : Int) + 1) (by omega)
      have b3 := wr_in ((m : Int) - 1) (by omega)
      have hd := drop_one hlt
      obtain ⟨d, hdd⟩ : ∃ d, s[k]'hlt = d := ⟨_, rfl⟩
      rw [hdd] at hd
      have hA := HA.out
      rw [hd, scanR] at hA
      have f1 := byte_eq d o
      have f2 := byte_eq d c
      have hkk : k - P + 1 = k + 1 - P := by omega
      rw [hkk] at hA
      by_cases e1 : d = o
      · have g1 : ((d.toNat : Int) == (o.toNat : Int)) = true := by rw [f1, e1]; simp
        rw [if_pos e1] at hA
        have HN : Hid (scanR o c (s.data.toList.drop (k + 1)) (k + 1 - P) (((m + 1 : Nat) : Int) + 1) = M) := by rw [Hid, ← hA]; congr 1
        clear f1 f2 e1 hd hA HA
        go_wp2_with fail
        go_roundw
        case measure => simp [intOf] <;> omega
        case rel => exact ⟨k + 1, m + 1, by omega, by omega, by omega, by go_num, by go_num, by simp, HN.out⟩
      · have g1 : ((d.toNat : Int) == (o.toNat : Int)) = false := by rw [f1]; simpa using e1
        rw [if_neg e1] at hA
        by_cases e2 : d = c
        · have g2 : ((d.toNat : Int) == (c.toNat : Int)) = true := by rw [f2, e2]; simp
          rw [if_pos e2] at hA
          by_cases e3 : m = 0
          · subst e3
            rw [if_pos (by simp)] at hA
            have HE : Hid (G = (k : Int)) := by
              rw [Hid, ← HG.out]; unfold clo
              rw [if_neg (by omega), ← hA]; omega
            clear f1 f2 e1 e2 hd hA HA
            go_wp2_with fail
            go_ret
            exact ⟨by rw [HE.out]; rfl, rfl⟩
          · rw [if_neg (by omega)] at hA
            have g3 : ((m : Int) == 0) = false := by rw [beq_eq_false_iff_ne]; omega
            have HN : Hid (scanR o c (s.data.toList.drop (k + 1)) (k + 1 - P) (((m - 1 : Nat) : Int) + 1) = M) := by rw [Hid, ← hA]; congr 1; omega
            have hm1 : (m : Int) - 1 = ((m - 1 : Nat) : Int) := by omega
            rw [hm1] at b3
            clear f1 f2 e1 e2 hd hA HA
            go_wp2_with fail
            go_roundw
            case measure => simp [intOf] <;> omega
            case rel => exact ⟨k + 1, m - 1, by omega, by omega, by omega, by go_num, by first | rfl | (rw [← hm1]; go_num) | go_num, by simp, HN.out⟩
        · have g2 : ((d.toNat : Int) == (c.toNat : Int)) = false := by rw [f2]; simpa using e2
          rw [if_neg e2] at hA
          have HN := Lib.hid hA
          clear f1 f2 e1 e2 hd hA HA
          go_wp2_with fail
          go_roundw
          case measure => simp [intOf] <;> omega
          case rel => exact ⟨k + 1, m, by omega, by omega, by omega, by go_num, rfl, by simp, HN.out⟩
    · have hltd : decide ((k : Int) < (s.size : Int)) = false := decide_eq_false (by omega)
      have HE : Hid (G = -1) := by
        have hA := HA.out
        rw [List.drop_of_length_le (by rw [dl]; omega)] at hA
        have h0 : M = 0 := hA.symm
        rw [Hid, ← HG.out, h0]; rfl
      go_wp2_with fail
      go_ret
      exact ⟨by rw [HE.out]; rfl, rfl⟩
end Go.Proofs.YthbemfpoanmjcaaDoor
