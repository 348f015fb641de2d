import Derived.Test.YtleflcpdaapddaaF
namespace Go.Proofs.Ytleflcpdaapddaa
open Go.RowKit

def grown (w wr : World) (v : Value) (k : Nat) (f : Nat → ByteArray) : Prop := wr.ownsRow w.heap.size 9 1 v k (row k f) ∧ Below w.heap.size w wr

set_option maxRecDepth 100000 in
set_option maxHeartbeats 4000000 in
theorem RefSwap_any (A : Option Addr) (n c : Nat) (ss : Nat → ByteArray) (x t : ByteArray) (w : World) (hn : n ≤ 100000) (hs : ∀ k, (ss k).size ≤ 1000000000000000) (ht : t.size ≤ 100000) (hS : Strs w A n ss) :
    Calls Try.prog 11 #[.slice A n c, .string x, .string t] w fun e w' => ∃ A' c', e = .returned (.slice A' n c') ∧ Strs w' A' n (fun k => swp (ss k) x t) ∧ Below w.heap.size w w' := by
  obtain ⟨i9, hi9, hz9, hs9, hb9⟩ := info_parts info9
  have HSX := Lib.hid hS
  go_enter Try.func11, Try.ntmps11
  go_wp2_with fail
  go_loopw [7, 8] (fun o i wr => ∃ (k : Nat), i = .int .i64 k ∧ k ≤ n ∧ Hid (grown w wr o k (fun k => swp (ss k) x t))) (fun _ i _ => n - (intOf i).toNat)
  case atStart => exact ⟨0, rfl, by omega, World.ownsRow_nil _ _ _ _, Below.refl _ _⟩
  case round =>
    obtain ⟨k, rfl, hk, HK⟩ := hrel
    by_cases hlt : k < n
    · obtain ⟨ad, rfl, hc⟩ := (hS.below HK.out.2 (Nat.le_refl _)) (by omega)
      have hck := hc k hlt
      have hsx := hs k
      have HC := Lib.hid hc
      clear hc
      have fin : ∀ (wr : World) (v' : Value) (w1 : World) (y : ByteArray) (o : Value) (ob : Obj), grown w wr o k (fun k => swp (ss k) x t) → y = swp (ss k) x t →
          w1.ownsRow w.heap.size 9 1 v' (k + 1) (row k (fun k => swp (ss k) x t) ++ [.string y]) → (wr.alloc ob).grownBy w1 o.ownBlock → grown w w1 v' (k + 1) (fun k => swp (ss k) x t) := by
        intro wr v' w1 y o ob hK hy hown hg
        subst hy
        rw [row_snoc k (fun k => swp (ss k) x t)] at hown
        exact ⟨hown, (hK.2.alloc hK.2.size ob).grown hg (by simp; have := hK.2.size; omega) (fun b hb => (hK.1.lt b hb).1)⟩
      have HFIN := Lib.hid fin
      clear fin
      cases he : ends (ss k) x
      · have HF : Hid (ss k = swp (ss k) x t) := by unfold Hid swp; rw [he]; simp
        have HE := Lib.hid he
        clear he
        go_wp2_with fail
        refine (Ends_any (ss k) x _ (by omega)).mono ?_
        rw [HE.out]
        rintro e w' ⟨rfl, rfl⟩
        go_wp2_with (at_builtin; refine wpList_append_own _ rfl _ _ 22 rfl w.heap.size 9 i9 (.string ⟨#[]⟩) 1 16 Try.underlying22 hi9 hz9 hs9 hb9 rfl (by decide) _ _ _ rfl (HK.out.1.alloc _) ⟨w'.heap.size, 0, none⟩ 1 1 [.string (ss k)] rfl rfl ?c1 ?c2 ?c3 ?c4 ?c5 ?_)
        case c1 =>
          intro j u hj
          match j, hj with
          | 0, hj => simp at hj; subst hj; simp [Addr.add]
        case c2 => intro u hu; simp at hu; subst hu; rfl
        case c3 => unfold maxLen; omega
        case c4 => omega
        case c5 => have := HK.out.2.size; simp; omega
        intro v' w1 hown' hgrow _
        have HR := Lib.hid (HFIN.out _ v' w1 _ _ _ HK.out HF.out hown' hgrow)
        clear hown' hgrow
        go_wp2_with fail
        go_roundw
        case rel => exact ⟨k + 1, by go_num, by omega, HR.out⟩
        case measure => simp [intOf]; omega
      · have hle := ends_le he
        have HF : Hid (swp (ss k) x t = (ss k).extract 0 ((ss k).size - x.size) ++ t) := by unfold Hid swp; rw [if_pos he]
        have HE := Lib.hid he
        clear he
        obtain ⟨m, hm⟩ : ∃ m, (ss k).size - x.size = m := ⟨_, rfl⟩
        have hms : m ≤ (ss k).size := by omega
        have hmi : (m : Int) ≤ ((ss k).size : Int) := by omega
        have hm0 : (0 : Int) ≤ (m : Int) := by omega
        have hlo : IntKind.i64.wrap (((ss k).size : Int) - (x.size : Int)) = (m : Int) := by rw [IntWalk.i64_in _ (by omega)]; omega
        have hrs : ((ss k).extract 0 m).size ≤ (ss k).size := by simp; omega
        obtain ⟨r, hr⟩ : ∃ r, (ss k).extract 0 m = r := ⟨_, rfl⟩
        rw [hr] at hrs
        have hsum : ¬ (r.size + t.size > 9223372036854775807) := by omega
        have HY : Hid (r ++ t = swp (ss k) x t) := by unfold Hid; rw [HF.out, hm, hr]
        clear HF hm
        go_wp2_with fail
        refine (Ends_any (ss k) x _ (by omega)).mono ?_
        rw [HE.out]
        rintro e w' ⟨rfl, rfl⟩
        go_wp2_with (at_builtin; refine wpList_append_own _ rfl _ _ 22 rfl w.heap.size 9 i9 (.string ⟨#[]⟩) 1 16 Try.underlying22 hi9 hz9 hs9 hb9 rfl (by decide) _ _ _ rfl (HK.out.1.alloc _) ⟨w'.heap.size, 0, none⟩ 1 1 [.string (r ++ t)] rfl rfl ?d1 ?d2 ?d3 ?d4 ?d5 ?_)
        case d1 =>
          intro j u hj
          match j, hj with
          | 0, hj => simp at hj; subst hj; simp [Addr.add]
        case d2 => intro u hu; simp at hu; subst hu; rfl
        case d3 => unfold maxLen; omega
        case d4 => omega
        case d5 => have := HK.out.2.size; simp; omega
        intro v' w1 hown' hgrow _
        have HR := Lib.hid (HFIN.out _ v' w1 _ _ _ HK.out HY.out hown' hgrow)
        clear hown' hgrow
        go_wp2_with fail
        go_roundw
        case rel => exact ⟨k + 1, by go_num, by omega, HR.out⟩
        case measure => simp [intOf]; omega
    · have hkn : k = n := by omega
      have hend := HK.out
      rw [hkn] at hend
      obtain ⟨A', c', he, hs'⟩ := own_strs hend.1
      have HEND := Lib.hid (And.intro hs' hend.2)
      clear hend hs'
      subst he
      go_wp2_with fail
      go_ret
      exact ⟨A', c', rfl, HEND.out.1, HEND.out.2⟩
end Go.Proofs.Ytleflcpdaapddaa
