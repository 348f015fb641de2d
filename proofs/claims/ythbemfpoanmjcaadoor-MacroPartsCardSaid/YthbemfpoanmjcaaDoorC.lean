import Derived.Test.YthbemfpoanmjcaaDoorB
import Derived.Test.YthbemfpoanmjcaaDoorA
import Derived.Test.YthbemfpoanmjcaaDoorZ
namespace Go.Proofs.YthbemfpoanmjcaaDoor
open Go.RowKit
set_option linter.unusedVariables false

def bsl (l : Prs) : List Pr := l.map fun p => (p.1.data.toList, p.2.data.toList)
theorem add2 (b off k : Nat) : (⟨b, off, none⟩ : Addr).add (k * 2) = ⟨b, off + k * 2, none⟩ := addn _ _ _
theorem lastV_none {l : List Pr} {n : Bs} (h : ∀ p ∈ l, p.1 ≠ n) : lastV l n = none := by
  unfold lastV
  rw [List.find?_eq_none.2 (fun p hp => by simpa using h p (List.mem_reverse.1 hp))]; rfl
theorem lastV_some {l : List Pr} {n : Bs} {k : Nat} (hk : k < l.length) (h : ∀ p ∈ l.drop (k + 1), p.1 ≠ n) (he : l[k].1 = n) : lastV l n = some l[k].2 := by
  unfold lastV
  have e : l = l.take k ++ l[k] :: l.drop (k + 1) := by rw [← List.drop_eq_getElem_cons hk, List.take_append_drop]
  conv => lhs; rw [e]
  rw [List.reverse_append, List.reverse_cons, List.append_assoc, List.find?_append, List.find?_eq_none.2 (fun p hp => by simpa using h p (List.mem_reverse.1 hp))]
  simp [he]
def LastR (B : Nat) (w : World) (l : Prs) (nm : Bs) (e : Ending) (w' : World) : Prop :=
  w' = w ∧ ((lastV (bsl l) nm = none ∧ e = .returned (.pointer none)) ∨ ∃ (v : ByteArray) (b o : Nat), lastV (bsl l) nm = some v.data.toList ∧ (∃ p ∈ l, p.2 = v) ∧ e = .returned (.pointer (some ⟨b, o, none⟩)) ∧ b < B ∧ w.cell? ⟨b, o + 1, none⟩ = some (.string v))
set_option maxRecDepth 100000 in
set_option maxHeartbeats 4000000 in
theorem last_any (B : Nat) (w : World) (pv : Value) (l : Prs) (nm : ByteArray) (h : PV B w pv l) : Calls Tryd.prog 50 #[pv, .string nm] w (LastR B w l nm.data.toList) := by
  obtain ⟨o, c, rfl⟩ := h.form
  have hll := h.len
  have HP := Lib.hid h
  have hwr : IntKind.i64.wrap ((l.length : Int) - 1) = (l.length : Int) - 1 := IntWalk.i64_in _ (by omega)
  clear h
  go_enter Tryd.func50, Tryd.ntmps50
  go_wp2_with fail
  go_loopw [5] (fun i wx => ∃ z : Int, -1 ≤ z ∧ z < l.length ∧ i = .int .i64 z ∧ wx = w ∧ Hid (∀ p ∈ (bsl l).drop (z + 1).toNat, p.1 ≠ nm.data.toList)) (fun i _ => (intOf i + 1).toNat)
  case atStart => exact ⟨(l.length : Int) - 1, by omega, by omega, rfl, rfl, fun p hp => by
    rw [List.drop_eq_nil_of_le (by simp [bsl])] at hp; cases hp⟩
  case round =>
    obtain ⟨z, hz1, hz2, rfl, rfl, HA⟩ := hrel
    by_cases hz : 0 ≤ z
    case neg =>
      obtain rfl : z = -1 := by omega
      have hd : decide ((0 : Int) ≤ -1) = false := by decide
      have HE : Hid (LastR B wr l nm.data.toList (.returned (.pointer none)) wr) := ⟨rfl, .inl ⟨lastV_none (fun p hp => HA.out p (by simpa using hp)), rfl⟩⟩
      go_wp2_with fail
      go_ret
      exact HE.out
    case pos =>
    obtain ⟨k, rfl⟩ : ∃ k : Nat, z = (k : Int) := ⟨z.toNat, by omega⟩
    have hk : k < l.length := by omega
    have hd : decide ((0 : Int) ≤ (k : Int)) = true := decide_eq_true (by omega)
    have hb1 : IntKind.i64.wrap ((k : Int) - 1) = (k : Int) - 1 := IntWalk.i64_in _ (by omega)
    rcases HP.out.at' with ⟨o1, c1, _, h0⟩ | ⟨b, off, cap, h1, h2, h3, h4⟩
    · rw [h0] at hk; simp at hk
    injection h1 with e1 _ e2
    subst e1
    obtain ⟨q0, q1⟩ := h4 k hk
    have ad := add2 b off k
    obtain ⟨x, hx⟩ : ∃ x, l[k] = x := ⟨_, rfl⟩
    rw [hx] at q0 q1
    have hbk : (bsl l)[k]'(by simpa [bsl] using hk) = (x.1.data.toList, x.2.data.toList) := by simp [bsl, hx]
    have hdr : (bsl l).drop k = (x.1.data.toList, x.2.data.toList) :: (bsl l).drop (k + 1) := by
      rw [List.drop_eq_getElem_cons (by simpa [bsl] using hk), hbk]
    have hse := str_eq x.1 nm
    by_cases he : x.1.data.toList = nm.data.toList
    · have g1 : (x.1.toList == nm.toList) = true := by rw [hse, he]; simp
      have HE : Hid (LastR B wr l nm.data.toList (.returned (.pointer (some ⟨b, off + k * 2, none⟩))) wr) := by
        refine ⟨rfl, .inr ⟨x.2, b, off + k * 2, ?_, ⟨x, by rw [← hx]; exact List.getElem_mem hk, rfl⟩, rfl, h3, q1⟩⟩
        rw [lastV_some (k := k) (by simpa [bsl] using hk) (fun p hp => HA.out p (by simpa using hp)) (by rw [hbk]; exact he), hbk]
      clear hse he hdr hbk h4 HA
      go_wp2_with fail
      go_ret
      exact HE.out
    · have g1 : (x.1.toList == nm.toList) = false := by rw [hse]; simpa using he
      have HN : Hid (∀ p ∈ (bsl l).drop ((k : Int) - 1 + 1).toNat, p.1 ≠ nm.data.toList) := fun p hp => by
        rw [show ((k : Int) - 1 + 1).toNat = k by omega, hdr] at hp
        rcases List.mem_cons.1 hp with rfl | hp
        · exact he
        · exact HA.out p (by simpa using hp)
      clear hse he hdr hbk h4 HA
      go_wp2_with fail
      go_roundw
      case measure => simp [intOf] <;> omega
      case rel => exact ⟨(k : Int) - 1, by omega, by omega, by go_num, by simp, HN.out⟩
theorem num_any (n : Int) (w : World) : Calls Tryd.prog 16 #[.int .i64 n] w fun e w' => e = .returned (.int .i64 n) ∧ w' = w := by
  go_enter Tryd.func16, Tryd.ntmps16
  go_wp2_with fail
  go_ret
  exact ⟨rfl, rfl⟩
/-! How long a reference is. -/
theorem wr_in (z : Int) (h : -1000000000 ≤ z ∧ z ≤ 1000000000) : IntKind.i64.wrap z = z := IntWalk.i64_in _ (by omega)
set_option maxRecDepth 100000 in
set_option maxHeartbeats 4000000 in
theorem scan_any (s : ByteArray) (o c : UInt8) (w : World) (hs : 2 ≤ s.size) (hs2 : s.size ≤ 1000000) (h1 : s.data.toList[1]? = some o) (hoc : (o = 40 ∧ c = 41) ∨ (o = 123 ∧ c = 125)) :
    Calls Tryd.prog 32 #[.string s] w fun e w' => e = .returned (.int .i64 (refN s.data.toList)) ∧ w' = w := by
  have hg : s[1]'(by omega) = o := by
    have := Lib.data_getElem? s 1 (by omega)
    rw [h1] at this; injection this with this; exact this.symm
  have hrn : refN s.data.toList = scanR o c (s.data.toList.drop 1) 1 0 := by
    unfold refN; rw [h1]
    rcases hoc with ⟨rfl, rfl⟩ | ⟨rfl, rfl⟩ <;> rfl
  obtain ⟨G, hG⟩ : ∃ G, refN s.data.toList = G := ⟨_, rfl⟩
  rw [hG]
  rw [hG] at hrn
  have HG := Lib.hid hrn
  have hsI : (s.size : Int) ≤ 1000000 := by omega
  have h1I : (1 : Int) < (s.size : Int) := by omega
  clear hrn hG h1
  rcases hoc with ⟨ho, hc⟩ | ⟨ho, hc⟩
  · subst ho
    subst hc
    go_enter Tryd.func32, Tryd.ntmps32
    go_wp2_with fail
    go_loopw [4, 5] (fun x i wx => ∃ (k : Nat) (z : Int), k ≤ s.size ∧ 1 ≤ k ∧ -(k : Int) ≤ z ∧ z ≤ k ∧ x = .int .i64 z ∧ i = .int .i64 k ∧ wx = w ∧ Hid (G = scanR 40 41 (s.data.toList.drop k) k z)) (fun _ i _ => s.size - (intOf i).toNat)
    case atStart => exact ⟨1, 0, by omega, by omega, by omega, by omega, rfl, rfl, rfl, HG.out⟩
    case round =>
      obtain ⟨k, z, hk, hk1, hz1, hz2, rfl, rfl, rfl, HA⟩ := hrel
      by_cases hlt : k < s.size
      · have hltd : decide ((k : Int) < (s.size : Int)) = true := decide_eq_true (by omega)
        have hltI : (k : Int) < (s.size : Int) := by omega
        have hk0 : (0 : Int) ≤ (k : Int) := by omega
        have b1 := wr_in ((k : Int) + 1) (by omega)
        have b2 := wr_in (z + 1) (by omega)
        have b3 := wr_in (z - 1) (by omega)
        have hd := drop_one hlt
        obtain ⟨d, hdd⟩ : ∃ d, s[k]'hlt = d := ⟨_, rfl⟩
        rw [hdd] at hd
        have hA := HA.out
        rw [hd, scanR] at hA
        have f1 := byte_eq d 40
        have f2 := byte_eq d 41
        rw [show ((40 : UInt8).toNat : Int) = 40 from rfl] at f1
        rw [show ((41 : UInt8).toNat : Int) = 41 from rfl] at f2
        by_cases e1 : d = 40
        · have g1 : ((d.toNat : Int) == 40) = true := by rw [f1, e1]; rfl
          rw [if_pos e1] at hA
          have HN := Lib.hid hA
          clear f1 f2 e1 hd hA
          go_wp2_with fail
          go_roundw
          case measure => simp [intOf]; omega
          case rel => exact ⟨k + 1, z + 1, by omega, by omega, by omega, by omega, by go_num, by go_num, by simp, HN.out⟩
        · have g1 : ((d.toNat : Int) == 40) = false := by rw [f1]; simpa using e1
          rw [if_neg e1] at hA
          by_cases e2 : d = 41
          · have g2 : ((d.toNat : Int) == 41) = true := by rw [f2, e2]; rfl
            rw [if_pos e2] at hA
            by_cases e3 : z - 1 = 0
            · rw [if_pos e3] at hA
              have HN := Lib.hid hA
              have hz : z = 1 := by omega
              subst hz
              clear f1 f2 e1 e2 e3 hd hA
              go_wp2_with fail
              go_ret
              exact ⟨by rw [HN.out]; rfl, rfl⟩
            · have g3 : (z - 1 == 0) = false := by simpa using e3
              rw [if_neg e3] at hA
              have HN := Lib.hid hA
              clear f1 f2 e1 e2 e3 hd hA
              go_wp2_with fail
              go_roundw
              case measure => simp [intOf]; omega
              case rel => exact ⟨k + 1, z - 1, by omega, by omega, by omega, by omega, by go_num, by go_num, by simp, HN.out⟩
          · have g2 : ((d.toNat : Int) == 41) = false := by rw [f2]; simpa using e2
            rw [if_neg e2] at hA
            have HN := Lib.hid hA
            clear f1 f2 e1 e2 hd hA
            go_wp2_with fail
            go_roundw
            case measure => simp [intOf]; omega
            case rel => exact ⟨k + 1, z, by omega, by omega, by omega, by omega, by go_num, by go_num, by simp, HN.out⟩
      · obtain rfl : k = s.size := by omega
        have hltd : decide ((s.size : Int) < (s.size : Int)) = false := decide_eq_false (by omega)
        have HE : Hid (G = 0) := by
          have := HA.out
          rw [List.drop_eq_nil_of_le (by rw [dl]; exact Nat.le_refl _)] at this
          exact this
        go_wp2_with fail
        go_ret
        exact ⟨by rw [HE.out]; rfl, rfl⟩
  · subst ho
    subst hc
    go_enter Tryd.func32, Tryd.ntmps32
    go_wp2_with fail
    go_loopw [4, 5] (fun x i wx => ∃ (k : Nat) (z : Int), k ≤ s.size ∧ 1 ≤ k ∧ -(k : Int) ≤ z ∧ z ≤ k ∧ x = .int .i64 z ∧ i = .int .i64 k ∧ wx = w ∧ Hid (G = scanR 123 125 (s.data.toList.drop k) k z)) (fun _ i _ => s.size - (intOf i).toNat)
    case atStart => exact ⟨1, 0, by omega, by omega, by omega, by omega, rfl, rfl, rfl, HG.out⟩
    case round =>
      obtain ⟨k, z, hk, hk1, hz1, hz2, rfl, rfl, rfl, HA⟩ := hrel
      by_cases hlt : k < s.size
      · have hltd : decide ((k : Int) < (s.size : Int)) = true := decide_eq_true (by omega)
        have hltI : (k : Int) < (s.size : Int) := by omega
        have hk0 : (0 : Int) ≤ (k : Int) := by omega
        have b1 := wr_in ((k : Int) + 1) (by omega)
        have b2 := wr_in (z + 1) (by omega)
        have b3 := wr_in (z - 1) (by omega)
        have hd := drop_one hlt
        obtain ⟨d, hdd⟩ : ∃ d, s[k]'hlt = d := ⟨_, rfl⟩
        rw [hdd] at hd
        have hA := HA.out
        rw [hd, scanR] at hA
        have f1 := byte_eq d 123
        have f2 := byte_eq d 125
        rw [show ((123 : UInt8).toNat : Int) = 123 from rfl] at f1
        rw [show ((125 : UInt8).toNat : Int) = 125 from rfl] at f2
        by_cases e1 : d = 123
        · have g1 : ((d.toNat : Int) == 123) = true := by rw [f1, e1]; rfl
          rw [if_pos e1] at hA
          have HN := Lib.hid hA
          clear f1 f2 e1 hd hA
          go_wp2_with fail
          go_roundw
          case measure => simp [intOf]; omega
          case rel => exact ⟨k + 1, z + 1, by omega, by omega, by omega, by omega, by go_num, by go_num, by simp, HN.out⟩
        · have g1 : ((d.toNat : Int) == 123) = false := by rw [f1]; simpa using e1
          rw [if_neg e1] at hA
          by_cases e2 : d = 125
          · have g2 : ((d.toNat : Int) == 125) = true := by rw [f2, e2]; rfl
            rw [if_pos e2] at hA
            by_cases e3 : z - 1 = 0
            · rw [if_pos e3] at hA
              have HN := Lib.hid hA
              have hz : z = 1 := by omega
              subst hz
              clear f1 f2 e1 e2 e3 hd hA
              go_wp2_with fail
              go_ret
              exact ⟨by rw [HN.out]; rfl, rfl⟩
            · have g3 : (z - 1 == 0) = false := by simpa using e3
              rw [if_neg e3] at hA
              have HN := Lib.hid hA
              clear f1 f2 e1 e2 e3 hd hA
              go_wp2_with fail
              go_roundw
              case measure => simp [intOf]; omega
              case rel => exact ⟨k + 1, z - 1, by omega, by omega, by omega, by omega, by go_num, by go_num, by simp, HN.out⟩
          · have g2 : ((d.toNat : Int) == 125) = false := by rw [f2]; simpa using e2
            rw [if_neg e2] at hA
            have HN := Lib.hid hA
            clear f1 f2 e1 e2 hd hA
            go_wp2_with fail
            go_roundw
            case measure => simp [intOf]; omega
            case rel => exact ⟨k + 1, z, by omega, by omega, by omega, by omega, by go_num, by go_num, by simp, HN.out⟩
      · obtain rfl : k = s.size := by omega
        have hltd : decide ((s.size : Int) < (s.size : Int)) = false := decide_eq_false (by omega)
        have HE : Hid (G = 0) := by
          have := HA.out
          rw [List.drop_eq_nil_of_le (by rw [dl]; exact Nat.le_refl _)] at this
          exact this
        go_wp2_with fail
        go_ret
        exact ⟨by rw [HE.out]; rfl, rfl⟩
set_option maxRecDepth 100000 in
set_option maxHeartbeats 4000000 in
theorem Reference_any (s : ByteArray) (w : World) (hs : 2 ≤ s.size) (hs2 : s.size ≤ 1000000) : Calls Tryd.prog 32 #[.string s] w fun e w' => e = .returned (.int .i64 (refN s.data.toList)) ∧ w' = w := by
  obtain ⟨o, ho⟩ : ∃ o, s[1]'(by omega) = o := ⟨_, rfl⟩
  have h1 : s.data.toList[1]? = some o := by rw [Lib.data_getElem? s 1 (by omega), ho]
  by_cases e1 : o = 40
  · exact scan_any s o 41 w hs hs2 h1 (.inl ⟨e1, rfl⟩)
  by_cases e2 : o = 123
  · exact scan_any s o 125 w hs hs2 h1 (.inr ⟨e2, rfl⟩)
  have f1 := byte_eq o 40
  have f2 := byte_eq o 123
  rw [show ((40 : UInt8).toNat : Int) = 40 from rfl] at f1
  rw [show ((123 : UInt8).toNat : Int) = 123 from rfl] at f2
  have g1 : ((o.toNat : Int) == 40) = false := by rw [f1]; simpa using e1
  have g2 : ((o.toNat : Int) == 123) = false := by rw [f2]; simpa using e2
  have hr : refN s.data.toList = 2 := by
    unfold refN; rw [h1, if_neg (by simpa using e1), if_neg (by simpa using e2)]
  have h1I : (1 : Int) < (s.size : Int) := by omega
  rw [hr]
  clear f1 f2 e1 e2 h1 hr
  go_enter Tryd.func32, Tryd.ntmps32
  go_wp2_with fail
  go_ret
  exact ⟨rfl, rfl⟩
end Go.Proofs.YthbemfpoanmjcaaDoor
