import Derived.Test.YthpmdgkhpigofaaAO
namespace Go.Proofs.Ythpmdgkhpigofaa
open Go.RowKit Go.Sort Go.Lib

set_option maxRecDepth 100000 in
set_option maxHeartbeats 4000000 in
theorem RefNames_empty (p : ByteArray) (A : Option Addr) (c : Nat) (w : World) :
    Calls Try.prog 15 #[.string p, .slice A 0 c] w fun e w' => ∃ v', e = .returned v' ∧ SlS w' v' [] ∧ Below w.heap.size w w' := by
  go_enter Try.func15, Try.ntmps15
  by_cases hp0 : 0 < p.size
  · have hp0I : (0 : Int) < (p.size : Int) := by omega
    have hg0 := gb_eq p 0 hp0
    by_cases hc0 : gb p 0 = 46
    · have hb0 : (((gb p 0).toNat : Int) == 46) = true := by rw [hc0]; rfl
      clear hc0
      generalize gb p 0 = z at *
      go_wp2_with fail
      go_loop [6, 7] (fun v a => v = .slice none 0 0 ∧ a = .int .i64 0) (fun _ _ => 0)
      case atStart => exact ⟨rfl, rfl⟩
      case round =>
        obtain ⟨rfl, rfl⟩ := hrel
        go_wp2_with fail
        go_ret
        exact ⟨_, rfl, .inl ⟨rfl, rfl⟩, Below.refl _ _⟩
    · have hb0 : (((gb p 0).toNat : Int) == 46) = false := u8b (n := 46) (by decide) hc0
      by_cases hp1 : 1 < p.size
      · have hp1I : (1 : Int) < (p.size : Int) := by omega
        have hg1 := gb_eq p 1 hp1
        by_cases hc1 : gb p 0 = 92
        · have hb1 : (((gb p 0).toNat : Int) == 92) = true := by rw [hc1]; rfl
          by_cases hc2 : gb p 1 = 46
          · have hb2 : (((gb p 1).toNat : Int) == 46) = true := by rw [hc2]; rfl
            clear hc0 hc1 hc2
            generalize gb p 0 = z at *
            generalize gb p 1 = z1 at *
            go_wp2_with fail
            go_loop [6, 7] (fun v a => v = .slice none 0 0 ∧ a = .int .i64 0) (fun _ _ => 0)
            case atStart => exact ⟨rfl, rfl⟩
            case round =>
              obtain ⟨rfl, rfl⟩ := hrel
              go_wp2_with fail
              go_ret
              exact ⟨_, rfl, .inl ⟨rfl, rfl⟩, Below.refl _ _⟩
          · have hb2 : (((gb p 1).toNat : Int) == 46) = false := u8b (n := 46) (by decide) hc2
            clear hc0 hc1 hc2
            generalize gb p 0 = z at *
            generalize gb p 1 = z1 at *
            go_wp2_with fail
            go_loop [6, 7] (fun v a => v = .slice none 0 0 ∧ a = .int .i64 0) (fun _ _ => 0)
            case atStart => exact ⟨rfl, rfl⟩
            case round =>
              obtain ⟨rfl, rfl⟩ := hrel
              go_wp2_with fail
              go_ret
              exact ⟨_, rfl, .inl ⟨rfl, rfl⟩, Below.refl _ _⟩
        · have hb1 : (((gb p 0).toNat : Int) == 92) = false := u8b (n := 92) (by decide) hc1
          clear hc0 hc1
          generalize gb p 0 = z at *
          go_wp2_with fail
          go_loop [6, 7] (fun v a => v = .slice none 0 0 ∧ a = .int .i64 0) (fun _ _ => 0)
          case atStart => exact ⟨rfl, rfl⟩
          case round =>
            obtain ⟨rfl, rfl⟩ := hrel
            go_wp2_with fail
            go_ret
            exact ⟨_, rfl, .inl ⟨rfl, rfl⟩, Below.refl _ _⟩
      · have hp1I : ¬ (1 : Int) < (p.size : Int) := by omega
        clear hc0
        generalize gb p 0 = z at *
        go_wp2_with fail
        go_loop [6, 7] (fun v a => v = .slice none 0 0 ∧ a = .int .i64 0) (fun _ _ => 0)
        case atStart => exact ⟨rfl, rfl⟩
        case round =>
          obtain ⟨rfl, rfl⟩ := hrel
          go_wp2_with fail
          go_ret
          exact ⟨_, rfl, .inl ⟨rfl, rfl⟩, Below.refl _ _⟩
  · have hp0I : ¬ (0 : Int) < (p.size : Int) := by omega
    have hp1I : ¬ (1 : Int) < (p.size : Int) := by omega
    go_wp2_with fail
    go_loop [6, 7] (fun v a => v = .slice none 0 0 ∧ a = .int .i64 0) (fun _ _ => 0)
    case atStart => exact ⟨rfl, rfl⟩
    case round =>
      obtain ⟨rfl, rfl⟩ := hrel
      go_wp2_with fail
      go_ret
      exact ⟨_, rfl, .inl ⟨rfl, rfl⟩, Below.refl _ _⟩

def StrsL (w : World) (a : Option Addr) (L : List Bs) : Prop := 0 < L.length → ∃ g off, a = some ⟨g, off, none⟩ ∧ g < w.heap.size ∧ ∀ i (h : i < L.length), w.cell? ⟨g, off + i, none⟩ = some (encStr L[i])
theorem SlS.open {w : World} {v : Value} {L : List Bs} (h : SlS w v L) : ∃ a c, v = .slice a L.length c ∧ StrsL w a L := by
  rcases h with ⟨rfl, rfl⟩ | ⟨g, off, c, rfl, _, _, h4, h5⟩
  · exact ⟨none, 0, rfl, fun h => absurd h (by simp)⟩
  · exact ⟨_, c, rfl, fun _ => ⟨g, off, rfl, h4, h5⟩⟩
theorem StrsL.below {w w' : World} {a : Option Addr} {L : List Bs} (h : StrsL w a L) (hb : Below w.heap.size w w') : StrsL w' a L := fun hn => by
  obtain ⟨g, off, h1, h2, h3⟩ := h hn
  exact ⟨g, off, h1, Nat.lt_of_lt_of_le h2 hb.size, fun i hi => by rw [hb.cell (p := ⟨g, off + i, none⟩) h2]; exact h3 i hi⟩

set_option maxRecDepth 100000 in
set_option maxHeartbeats 4000000 in
theorem Same_any (A A' : Option Addr) (L : List Bs) (c c' : Nat) (w : World) (hn : L.length ≤ 100000) (hS : StrsL w A L) (hS' : StrsL w A' L) :
    Calls Try.prog 13 #[.slice A L.length c, .slice A' L.length c'] w fun e w' => e = .returned (.bool true) ∧ ∃ m, w' = w.drewN m := by
  have HS := Lib.hid hS
  have HS' := Lib.hid hS'
  clear hS hS'
  obtain ⟨n, hln⟩ : ∃ n, L.length = n := ⟨_, rfl⟩
  rw [hln] at hn
  rw [hln]
  have HLN := Lib.hid hln
  clear hln
  go_enter Try.func13, Try.ntmps13
  go_wp2_with fail
  go_loopw [5] (fun i wr => ∃ (k m : Nat), i = .int .i64 k ∧ k ≤ n ∧ wr = w.drewN m) (fun i _ => n - (intOf i).toNat)
  case atStart => exact ⟨0, 0, rfl, by omega, rfl⟩
  case round =>
    obtain ⟨k, m, rfl, hk, rfl⟩ := hrel
    by_cases hlt : k < n
    · have hltL : k < L.length := by rw [HLN.out]; exact hlt
      obtain ⟨g, off, rfl, _, hc⟩ := HS.out (by omega)
      obtain ⟨g', off', rfl, _, hc'⟩ := HS'.out (by omega)
      have hck := hc k hltL
      have hck' := hc' k hltL
      clear hc hc'
      have hadd : (⟨g, off, none⟩ : Addr).add k = ⟨g, off + k, none⟩ := by unfold Addr.add; by_cases h : k = 0 <;> simp [h]
      have hadd' : (⟨g', off', none⟩ : Addr).add k = ⟨g', off' + k, none⟩ := by unfold Addr.add; by_cases h : k = 0 <;> simp [h]
      obtain ⟨x, hx⟩ : ∃ x : ByteArray, ⟨L[k].toArray⟩ = x := ⟨_, rfl⟩
      rw [enc_bs, hx] at hck hck'
      clear hx hltL HLN
      have b1 : (k : Int) < (n : Int) := by omega
      have b2 : (0 : Int) ≤ (k : Int) := by omega
      go_wp2_with fail
      go_quiet (fail)
      go_wp2_with fail
      exact ⟨⟨k + 1, _, rfl, by omega, rfl⟩, by simp [intOf]; omega⟩
    · go_wp2_with fail
      go_ret
      exact ⟨rfl, _, rfl⟩
end Go.Proofs.Ythpmdgkhpigofaa
