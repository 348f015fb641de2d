import Derived.Test.YtleflcpdaapddaaB
namespace Go.Proofs.Ytleflcpdaapddaa
open Go.RowKit

set_option maxRecDepth 100000 in
set_option maxHeartbeats 4000000 in
theorem Suffix_any (s : ByteArray) (A : Option Addr) (n c : Nat) (ss : Nat → ByteArray) (w : World) (hs : s.size ≤ 100000) (hn : n ≤ 100000) (hx : ∀ k, (ss k).size ≤ 9223372036854775807) (hS : Strs w A n ss) :
    Calls Try.prog 6 #[.string s, .slice A n c] w fun e w' => e = .returned (.tuple #[.string (bst s ss n), .bool (some_ (bst s ss n))]) ∧ ∃ m, w' = w.drewN m := by
  go_enter Try.func6, Try.ntmps6
  go_wp2_with fail
  go_step3
  go_wp2_with fail
  go_step3
  go_wp2_with fail
  go_loopg [6, 12] n (fun g s6 s12 wx => ∃ (k nn : Nat), k + g = n ∧ s12 = .int .i64 k ∧ s6 = .string (bst s ss k) ∧ wx = w.drewN nn)
  case atStart => exact ⟨0, 0, by omega, rfl, rfl, rfl⟩
  case round =>
    obtain ⟨k, nn, hkg, rfl, hb, rfl⟩ := hrel
    have HSX := Lib.hid hS
    cases gk with
    | zero =>
      have hkz : ¬ ((k : Int) < (n : Int)) := by omega
      have hkn : k = n := by omega
      subst hb
      subst hkn
      go_wp2_with fail
      try rw [Exit.noGoto_ret]
      go_ret2
      exact ⟨rfl, _, rfl⟩
    | succ g =>
      have hkq : (k : Int) < (n : Int) := by omega
      have hkn : k < n := by omega
      obtain ⟨ad, rfl, hc⟩ := hS (by omega)
      have hck : (w.drewN nn).cell? (ad.add k) = some (.string (ss k)) := hc k hkn
      have hsx := hx k
      have hbs := bst_le s ss k
      have HB : Hid (bst s ss (k + 1) = step s (bst s ss k) (ss k)) := rfl
      clear hc hx hS
      generalize hbe : bst s ss k = b at *
      generalize hxe : ss k = x at *
      subst hb
      clear hxe hbe
      by_cases c1 : x.size ≤ b.size
      · have HE : Hid (bst s ss (k + 1) = b) := by unfold Hid; rw [HB.out]; unfold step; rw [if_neg (fun h => by omega)]
        clear HB
        go_wp2_with fail
        go_roundg g
        case measure => omega
        case rel => exact ⟨k + 1, _, by omega, by go_num, by rw [HE.out], rfl⟩
      · by_cases c2 : s.size ≤ x.size
        · have HE : Hid (bst s ss (k + 1) = b) := by unfold Hid; rw [HB.out]; unfold step; rw [if_neg (fun h => by omega)]
          clear HB
          go_wp2_with fail
          go_roundg g
          case measure => omega
          case rel => exact ⟨k + 1, _, by omega, by go_num, by rw [HE.out], rfl⟩
        · go_wp2_with fail
          go_loopg [30] x.size (fun g2 s30 wx => ∃ (j n2 : Nat), j + g2 = x.size ∧ s30 = .int .i64 j ∧ wx = w.drewN n2 ∧ Hid (tl s x j))
          case atStart => exact ⟨0, _, by omega, rfl, rfl, fun j hj => absurd hj (by omega)⟩
          case round =>
            obtain ⟨j, n2, hj, rfl, rfl, HT⟩ := hrel
            by_cases hlt : j < x.size
            · have hltI : (j : Int) < (x.size : Int) := by omega
              obtain ⟨px, hpx⟩ : ∃ px, px + 1 = x.size := ⟨x.size - 1, by omega⟩
              obtain ⟨p, hp⟩ : ∃ p, p + j = px := ⟨px - j, by omega⟩
              obtain ⟨qx, hqx⟩ : ∃ qx, qx + 1 = s.size := ⟨s.size - 1, by omega⟩
              obtain ⟨q, hq⟩ : ∃ q, q + j = qx := ⟨qx - j, by omega⟩
              have e1 : IntKind.i64.wrap ((x.size : Int) - 1) = (px : Int) := by unfold IntKind.wrap; simp [IntKind.bits, IntKind.signed]; omega
              have e2 : IntKind.i64.wrap ((px : Int) - (j : Int)) = (p : Int) := by unfold IntKind.wrap; simp [IntKind.bits, IntKind.signed]; omega
              have e3 : IntKind.i64.wrap ((s.size : Int) - 1) = (qx : Int) := by unfold IntKind.wrap; simp [IntKind.bits, IntKind.signed]; omega
              have e4 : IntKind.i64.wrap ((qx : Int) - (j : Int)) = (q : Int) := by unfold IntKind.wrap; simp [IntKind.bits, IntKind.signed]; omega
              have b1 : (p : Int) < (x.size : Int) := by omega
              have b2 : (0 : Int) ≤ (p : Int) := by omega
              have b3 : (q : Int) < (s.size : Int) := by omega
              have b4 : (0 : Int) ≤ (q : Int) := by omega
              have hpx' : p < x.size := by omega
              have hqs' : q < s.size := by omega
              have hgx := gb_eq x p hpx'
              have hgs := gb_eq s q hqs'
              have HP := Lib.hid hp
              have HQ := Lib.hid hq
              have HPX := Lib.hid hpx
              have HQX := Lib.hid hqx
              clear hp hq hpx hqx
              go_wp2_with fail
              go_quiet (fail)
              clear e1 e2 e3 e4 hgx hgs
              by_cases he : gb x p = gb s q
              · have hv : (((gb x p).toNat : Int) != ((gb s q).toNat : Int)) = false := by rw [he]; simp
                have HEQ := Lib.hid he
                clear he
                go_wp2_with fail
                go_roundg (x.size - (j + 1))
                case measure => omega
                case rel =>
                  refine ⟨j + 1, _, by omega, by go_num, rfl, fun i hi => ?_⟩
                  by_cases hij : i < j
                  · exact HT.out i hij
                  · have h1 := HP.out
                    have h2 := HQ.out
                    have h3 := HPX.out
                    have h4 := HQX.out
                    rw [show x.size - 1 - i = p by omega, show s.size - 1 - i = q by omega]
                    exact HEQ.out
              · have hv : (((gb x p).toNat : Int) != ((gb s q).toNat : Int)) = true := by
                  simp only [bne_iff_ne, ne_eq]
                  intro e
                  exact he (UInt8.toNat.inj (by omega))
                have HNE := Lib.hid he
                clear he
                have HE : Hid (bst s ss (k + 1) = b) := by
                  unfold Hid; rw [HB.out]; unfold step
                  rw [if_neg]
                  rintro ⟨_, _, h⟩
                  have := (tl_ends (by omega)).2 h j hlt
                  have h1 := HP.out
                  have h2 := HQ.out
                  have h3 := HPX.out
                  have h4 := HQX.out
                  rw [show x.size - 1 - j = p by omega, show s.size - 1 - j = q by omega] at this
                  exact HNE.out this
                clear HB
                go_wp2_with fail
                go_roundg g
                case measure => omega
                case rel => exact ⟨k + 1, _, by omega, by go_num, by rw [HE.out], rfl⟩
            · have hje : j = x.size := by omega
              have HE : Hid (bst s ss (k + 1) = x) := by
                unfold Hid; rw [HB.out]; unfold step
                rw [if_pos]
                refine ⟨by omega, by omega, (tl_ends (by omega)).1 ?_⟩
                have := HT.out
                rwa [hje] at this
              clear HB
              have hltI : ¬ (j : Int) < (x.size : Int) := by omega
              clear hje
              go_wp2_with fail
              go_roundg g
              case measure => omega
              case rel => exact ⟨k + 1, _, by omega, by go_num, by rw [HE.out], rfl⟩
end Go.Proofs.Ytleflcpdaapddaa
