import Derived.Test.YtpgaeldjiiaoiaaR
namespace Go.Proofs.Ytpgaeldjiiaoiaa
open Go.RowKit

theorem map_getD1 (ps : List (UInt8 × UInt8)) : (fun i => (ps.map fun p => p.1).getD i 0) = loAt ps := by
  funext i; simp only [loAt, List.getD_eq_getElem?_getD, List.getElem?_map]; cases ps[i]? <;> rfl
theorem map_getD2 (ps : List (UInt8 × UInt8)) : (fun i => (ps.map fun p => p.2).getD i 0) = hiAt ps := by
  funext i; simp only [hiAt, List.getD_eq_getElem?_getD, List.getElem?_map]; cases ps[i]? <;> rfl

theorem set_int (s : ByteArray) (a : Int) (w : World) (hs : s.size ≤ 100000) (h0 : 0 ≤ a) (hi : a ≤ s.size) :
    Calls Try.prog 28 #[.string s, .int .i64 a] w fun e w' => ∃ (nb : Bool) (A1 : Option Addr) (C1 : Nat) (A2 : Option Addr) (C2 : Nat) (ps : List (UInt8 × UInt8)) (j : Nat) (ok : Bool),
      e = .returned (.tuple #[.agg #[.int .i64 3, .int .u8 0, .bool nb, .slice A1 ps.length C1, .slice A2 ps.length C2], .int .i64 j, .bool ok]) ∧
      RI.Ok w' ⟨3, 0, nb, A1, C1, A2, C2, ps⟩ ∧ j ≤ s.size + 1 ∧ Below w.heap.size w w' ∧
      (ok = true → (rdSet s a.toNat).2 = j ∧ j ≠ 0 ∧ semR ⟨3, 0, nb, A1, C1, A2, C2, ps⟩ = itSet (rdSet s a.toNat).1) ∧ (ok = false → (rdSet s a.toNat).2 = 0) := by
  obtain ⟨n, rfl⟩ := Int.eq_ofNat_of_zero_le h0
  refine (set_core s n w _ _ _ hs (by omega) rfl rfl rfl).mono ?_
  rintro e w' ⟨lo, hi, ps, k, he, hl, hh, hlen, hk, hB, h1, h2⟩
  obtain ⟨A1, C1, rfl⟩ := own_slice hl
  obtain ⟨A2, C2, rfl⟩ := own_slice hh
  refine ⟨_, A1, C1, A2, C2, ps, k + 1, _, he, ⟨?_, ?_, Nat.le_trans hlen hs, Nat.le_refl _⟩, by omega, hB, ?_, ?_⟩
  · rw [← map_getD1]
    refine R5.own (B := w.heap.size + 2) (C := C1) ?_
    rw [List.map_map]
    exact hl
  · rw [← map_getD2]
    refine R5.own (B := w.heap.size + 2) (C := C2) ?_
    rw [List.map_map]
    exact hh
  · intro hd
    have hR := h1 (of_decide_eq_true hd)
    have e2 : (rdSet s n).2 = k + 1 := by unfold rdSet; simp only; rw [hR]
    refine ⟨e2, by omega, ?_⟩
    have e1 : (rdSet s n).1 = fun c => F ps c != nbOf s n := by unfold rdSet; simp only; rw [hR]
    have e3 : semR ⟨3, 0, nbOf s n, A1, C1, A2, C2, ps⟩ = itSet (fun c => F ps c != nbOf s n) := by simp [semR]
    simp only [Int.toNat_natCast]
    rw [e1]
    exact e3
  · intro hd
    exact h2 (of_decide_eq_false hd)

theorem RI.Ok.alloc {w : World} {x : RI} (h : x.Ok w) (o : Obj) : x.Ok (w.alloc o) := h.grown (gb_below ((Below.refl _ _).alloc (Nat.le_refl _) o)) (fun b e => by cases e)
theorem zero59 : (0 : Int) = ((0 : UInt8).toNat : Int) := rfl

set_option maxRecDepth 100000 in
set_option maxHeartbeats 8000000 in
theorem items_core (s : ByteArray) (w : World) (hs : s.size ≤ 100000) (P : List It) (HP0 : Hid (pcs s (s.size + 1) 0 true = P)) :
    Calls Try.prog 19 #[.string s] w (ItemsPost w P) := by
  obtain ⟨i0, hi0, hz0, hz1, hz2⟩ := info_parts info37
  go_enter Try.func19, Try.ntmps19
  go_wp2_with fail
  go_loopw [3, 4] (fun a c wr => ∃ (k : Nat) (xs : List RI), c = .int .i64 k ∧ Hid (ItemsRel s w wr P a k xs)) (fun _ c _ => s.size - (intOf c).toNat)
  case atStart => exact ⟨0, [], rfl, ⟨Nat.zero_le _, World.ownsRow_nil _ _ _ _, Nat.zero_le _, Below.refl _ _, fun x h => by simp at h, HP0.out⟩⟩
  case round =>
    obtain ⟨k, xs, rfl, HR⟩ := hrel
    by_cases hlt : k < s.size
    · have hbk := gb_eq s k hlt
      have hxl : xs.length ≤ 100000 := by have := HR.out.cnt; omega
      by_cases h42 : gb s k = 42
      · have HE := Lib.hid (pcs_star (cl := true) hlt h42)
        go_wp2_with (first | (at_builtin; refine wpList_append_own _ rfl _ _ 33 rfl w.heap.size 37 i0 (.agg #[.int .i64 0, .int .u8 0, .bool false, .slice none 0 0, .slice none 0 0]) 5 64 Try.underlying33 hi0 hz0 hz1 hz2 rfl (by decide) _ _ _ rfl (HR.out.own.alloc _) ⟨wr.heap.size, 0, none⟩ 1 1 ((plainR 1 0).cs) rfl rfl ?ca1 ?ca2 ?ca3 ?ca4 ?ca5 ?_))
        case ca1 =>
          intro j u hj
          match j, hj with
          | 0, hj => simp [RI.cs] at hj; subst hj; simp [Addr.add, plainR]
          | 1, hj => simp [RI.cs] at hj; subst hj; simp [Addr.add, plainR]
          | 2, hj => simp [RI.cs] at hj; subst hj; simp [Addr.add, plainR]
          | 3, hj => simp [RI.cs] at hj; subst hj; simp [Addr.add, plainR]
          | 4, hj => simp [RI.cs] at hj; subst hj; simp [Addr.add, plainR]
        case ca2 => intro u hu; simp [RI.cs] at hu; rcases hu with rfl | rfl | rfl | rfl | rfl <;> rfl
        case ca3 => unfold maxLen; omega
        case ca4 => omega
        case ca5 => have := HR.out.old.size; simp; omega
        intro v' w1 hown' hgrow _
        have HN := Lib.hid (HR.out.next (x := plainR 1 0) (Nat.lt_succ_self k) hlt ((Below.refl _ wr).alloc (Nat.le_refl _) _) (plainR_ok _ _ _ (by decide)) rfl HE.out hown' hgrow)
        clear hown' hgrow
        go_wp2_with fail
        go_roundw
        case rel => exact ⟨k + 1, _, by go_num, HN⟩
        case measure => simp [intOf]; omega
      · have h42' := sz_ne (n := 42) (by decide) h42
        by_cases h63 : gb s k = 63
        · have HE := Lib.hid (pcs_one (cl := true) hlt h63)
          clear h42 h42'
          go_wp2_with (first | (at_builtin; refine wpList_append_own _ rfl _ _ 33 rfl w.heap.size 37 i0 (.agg #[.int .i64 0, .int .u8 0, .bool false, .slice none 0 0, .slice none 0 0]) 5 64 Try.underlying33 hi0 hz0 hz1 hz2 rfl (by decide) _ _ _ rfl (HR.out.own.alloc _) ⟨wr.heap.size, 0, none⟩ 1 1 ((plainR 2 0).cs) rfl rfl ?cb1 ?cb2 ?cb3 ?cb4 ?cb5 ?_))
          case cb1 =>
            intro j u hj
            match j, hj with
            | 0, hj => simp [RI.cs] at hj; subst hj; simp [Addr.add, plainR]
            | 1, hj => simp [RI.cs] at hj; subst hj; simp [Addr.add, plainR]
            | 2, hj => simp [RI.cs] at hj; subst hj; simp [Addr.add, plainR]
            | 3, hj => simp [RI.cs] at hj; subst hj; simp [Addr.add, plainR]
            | 4, hj => simp [RI.cs] at hj; subst hj; simp [Addr.add, plainR]
          case cb2 => intro u hu; simp [RI.cs] at hu; rcases hu with rfl | rfl | rfl | rfl | rfl <;> rfl
          case cb3 => unfold maxLen; omega
          case cb4 => omega
          case cb5 => have := HR.out.old.size; simp; omega
          intro v' w1 hown' hgrow _
          have HN := Lib.hid (HR.out.next (x := plainR 2 0) (Nat.lt_succ_self k) hlt ((Below.refl _ wr).alloc (Nat.le_refl _) _) (plainR_ok _ _ _ (by decide)) rfl HE.out hown' hgrow)
          clear hown' hgrow
          go_wp2_with fail
          go_roundw
          case rel => exact ⟨k + 1, _, by go_num, HN⟩
          case measure => simp [intOf]; omega
        · have h63' := sz_ne (n := 63) (by decide) h63
          have hrb := rbn_le s k hlt
          have hk1 : (k : Int) + (nn s k : Int) = (rbn s k : Int) := by have := rbn_nn s k; omega
          have hn2 : nn s k ≤ 2 := by unfold nn; split <;> omega
          by_cases h91 : gb s k = 91
          · have H42 := Lib.hid h42
            have H63 := Lib.hid h63
            clear h42 h63 h42' h63'
            have ht : ((k : Int) + 1).toNat = k + 1 := by omega
            go_wp2_with fail
            refine (set_int s _ _ hs (by omega) (by omega)).mono ?_
            rw [ht]
            rintro e w2 ⟨nb, A1, C1, A2, C2, ps, j, ok, rfl, hok, hj, hB2, hT, hF⟩
            have HOK := Lib.hid hok
            have HB2 := Lib.hid hB2
            have HOWN := Lib.hid (HR.out.own.kept (gb_below hB2) (own_em _))
            have hsz2 := hB2.size
            have hbd := rdSet_bound s (k + 1)
            clear hok hB2
            cases ok
            · have HE := Lib.hid (pcs_open' hlt h91 (hF rfl))
              clear hT hF hbd
              go_wp2_with (first | (go_at_call 29; refine (one_int s _ _ hs (by omega) (by omega)).mono ?_; rintro e w' ⟨rfl, rfl⟩) | (at_builtin; refine wpList_append_own _ rfl _ _ 33 rfl w.heap.size 37 i0 (.agg #[.int .i64 0, .int .u8 0, .bool false, .slice none 0 0, .slice none 0 0]) 5 64 Try.underlying33 hi0 hz0 hz1 hz2 rfl (by decide) _ _ _ rfl ((HOWN.out.alloc _).alloc _) ⟨w2.heap.size + 1, 0, none⟩ 1 1 ((plainR 0 (rb s k)).cs) rfl rfl ?cc1 ?cc2 ?cc3 ?cc4 ?cc5 ?_))
              case cc1 =>
                intro j u hj
                match j, hj with
                | 0, hj => simp [RI.cs] at hj; subst hj; simp [Addr.add, plainR]
                | 1, hj => simp [RI.cs] at hj; subst hj; simp [Addr.add, plainR]
                | 2, hj => simp [RI.cs] at hj; subst hj; simp [Addr.add, plainR]
                | 3, hj => simp [RI.cs] at hj; subst hj; simp [Addr.add, plainR]
                | 4, hj => simp [RI.cs] at hj; subst hj; simp [Addr.add, plainR]
              case cc2 => intro u hu; simp [RI.cs] at hu; rcases hu with rfl | rfl | rfl | rfl | rfl <;> rfl
              case cc3 => unfold maxLen; omega
              case cc4 => omega
              case cc5 => have := HR.out.old.size; simp; omega
              intro v' w1 hown' hgrow _
              have HN := Lib.hid (HR.out.next (x := plainR 0 (rb s k)) hrb.1 hrb.2 ((HB2.out.alloc HB2.out.size _).alloc (by have := HB2.out.size; simp; omega) _) (plainR_ok _ _ _ (by decide)) rfl HE.out hown' hgrow)
              clear hown' hgrow
              go_wp2_with fail
              go_roundw
              case rel => exact ⟨_, _, rfl, HN⟩
              case measure => simp [intOf]; omega
            · obtain ⟨hj2, hj0, hsem⟩ := hT rfl
              have HE := Lib.hid (pcs_set hlt h91 (by rw [hj2]; exact hj0))
              rw [hj2] at hbd
              have hb1 := hbd.1
              have hb2 := hbd.2 hj0
              have HJ := Lib.hid hj2
              have HSEM := Lib.hid hsem
              clear hT hF hbd hj2 hsem
              go_wp2_with (first | (at_builtin; refine wpList_append_own _ rfl _ _ 33 rfl w.heap.size 37 i0 (.agg #[.int .i64 0, .int .u8 0, .bool false, .slice none 0 0, .slice none 0 0]) 5 64 Try.underlying33 hi0 hz0 hz1 hz2 rfl (by decide) _ _ _ rfl ((HOWN.out.alloc _).alloc _) ⟨w2.heap.size + 1, 0, none⟩ 1 1 ((RI.mk 3 0 nb A1 C1 A2 C2 ps).cs) rfl rfl ?cd1 ?cd2 ?cd3 ?cd4 ?cd5 ?_))
              case cd1 =>
                intro j u hj
                match j, hj with
                | 0, hj => simp [RI.cs] at hj; subst hj; simp [Addr.add]
                | 1, hj => simp [RI.cs] at hj; subst hj; simp [Addr.add]
                | 2, hj => simp [RI.cs] at hj; subst hj; simp [Addr.add]
                | 3, hj => simp [RI.cs] at hj; subst hj; simp [Addr.add]
                | 4, hj => simp [RI.cs] at hj; subst hj; simp [Addr.add]
              case cd2 => intro u hu; simp [RI.cs] at hu; rcases hu with rfl | rfl | rfl | rfl | rfl <;> rfl
              case cd3 => unfold maxLen; omega
              case cd4 => omega
              case cd5 => have := HR.out.old.size; simp; omega
              intro v' w1 hown' hgrow _
              have HN := Lib.hid (HR.out.next (x := RI.mk 3 0 nb A1 C1 A2 C2 ps) (by omega) hb1 ((HB2.out.alloc HB2.out.size _).alloc (by have := HB2.out.size; simp; omega) _) ((HOK.out.alloc _).alloc _) HSEM.out (by rw [← HJ.out]; exact HE.out) hown' hgrow)
              clear hown' hgrow
              go_wp2_with fail
              go_roundw
              case rel => exact ⟨j, _, rfl, HN⟩
              case measure => simp [intOf]; omega
          · have HE := Lib.hid (pcs_lit (cl := true) hlt h42 h63 (fun e => h91 e.1))
            have h91' := sz_ne (n := 91) (by decide) h91
            clear h42 h63 h91
            go_wp2_with (first | (go_at_call 29; refine (one_int s _ _ hs (by omega) (by omega)).mono ?_; rintro e w' ⟨rfl, rfl⟩) | (at_builtin; refine wpList_append_own _ rfl _ _ 33 rfl w.heap.size 37 i0 (.agg #[.int .i64 0, .int .u8 0, .bool false, .slice none 0 0, .slice none 0 0]) 5 64 Try.underlying33 hi0 hz0 hz1 hz2 rfl (by decide) _ _ _ rfl (HR.out.own.alloc _) ⟨wr.heap.size, 0, none⟩ 1 1 ((plainR 0 (rb s k)).cs) rfl rfl ?ce1 ?ce2 ?ce3 ?ce4 ?ce5 ?_))
            case ce1 =>
              intro j u hj
              match j, hj with
              | 0, hj => simp [RI.cs] at hj; subst hj; simp [Addr.add, plainR]
              | 1, hj => simp [RI.cs] at hj; subst hj; simp [Addr.add, plainR]
              | 2, hj => simp [RI.cs] at hj; subst hj; simp [Addr.add, plainR]
              | 3, hj => simp [RI.cs] at hj; subst hj; simp [Addr.add, plainR]
              | 4, hj => simp [RI.cs] at hj; subst hj; simp [Addr.add, plainR]
            case ce2 => intro u hu; simp [RI.cs] at hu; rcases hu with rfl | rfl | rfl | rfl | rfl <;> rfl
            case ce3 => unfold maxLen; omega
            case ce4 => omega
            case ce5 => have := HR.out.old.size; simp; omega
            intro v' w1 hown' hgrow _
            have HN := Lib.hid (HR.out.next (x := plainR 0 (rb s k)) hrb.1 hrb.2 ((Below.refl _ _).alloc (Nat.le_refl _) _) (plainR_ok _ _ _ (by decide)) rfl HE.out hown' hgrow)
            clear hown' hgrow
            go_wp2_with fail
            go_roundw
            case rel => exact ⟨_, _, rfl, HN⟩
            case measure => simp [intOf]; omega
    · have hkn : k = s.size := by have := HR.out.le; omega
      go_wp2_with fail
      go_ret
      refine ⟨_, xs, rfl, HR.out.own, HR.out.ok, ?_, by have := HR.out.cnt; omega, HR.out.old⟩
      have := HR.out.rest
      rw [← this, pcs_fuel s (s.size + 1 - k) 1 k true (by omega) (by omega), pcs, if_neg hlt, List.append_nil]
end Go.Proofs.Ytpgaeldjiiaoiaa
