import Derived.Test.YtcmjpkfinbakkaaGreatDoorGE
import Derived.Test.YtcmjpkfinbakkaaGreatDoorFU
import Derived.Test.YtcmjpkfinbakkaaGreatDoorFZ
namespace Go.Proofs.YtcmjpkfinbakkaaGreatDoor.Gb
open Go.RowKit
theorem info133 : (Tryz.prog.info? 133).map (fun i => (i.zero, i.size, i.bytes)) = some (some (.agg #[.int .i64 0, .int .u8 0, .int .u64 0, .int .u64 0, .int .u64 0, .int .u64 0]), 6, 48) := by kernel_rfl

/-- What a piece says: its kind, its byte, which bytes it takes. -/
abbrev It := Nat × UInt8 × (UInt8 → Bool)
def sem (p : Pc) : It := (p.kind, p.ch, tk p)
def itLit (c : UInt8) : It := (0, c, fun b => c.toNat == b.toNat)
def itOne : It := (1, 0, fun _ => true)
def itSet (f : Nat → Bool) : It := (2, 0, fun b => f b.toNat)
def itStar : It := (3, 0, fun _ => true)

/-- What readSet answers at i: the bytes, and the place behind (0: it is not closed). -/
def rdSet (s : ByteArray) (i : Nat) : (Nat → Bool) × Nat :=
  (fun c => (rs s (s.size + 1 - iOf (nbOf s i) i) (iOf (nbOf s i) i) true (fun _ => false)).1 c != nbOf s i, (rs s (s.size + 1 - iOf (nbOf s i) i) (iOf (nbOf s i) i) true (fun _ => false)).2)

def pcs (s : ByteArray) : Nat → Nat → Bool → List It
  | 0, _, _ => []
  | f + 1, i, cl =>
    if i < s.size then
      if gb s i = 42 then itStar :: pcs s f (i + 1) cl
      else if gb s i = 63 then itOne :: pcs s f (i + 1) cl
      else if gb s i = 91 ∧ cl = true then
        if (rdSet s (i + 1)).2 ≠ 0 then itSet (rdSet s (i + 1)).1 :: pcs s f (rdSet s (i + 1)).2 cl
        else itLit (rb s i) :: pcs s f (rbn s i) false
      else itLit (rb s i) :: pcs s f (rbn s i) cl
    else []

def flat (ps : List Pc) : List Value := ps.flatMap Pc.cs
theorem flat_snoc (ps : List Pc) (p : Pc) : flat (ps ++ [p]) = flat ps ++ p.cs := by simp [flat]

theorem gb_below {w w' : World} (h : Below w.heap.size w w') : w.grownBy w' none := ⟨h.os, h.tape, h.output, h.size, fun k hk _ => h.block k hk⟩
theorem own_em (v : Value) : v.ownBlock = none ∨ v.ownBlock ≠ none := Classical.em _

/-- What pieces leaves. -/
def PcsPost (w : World) (P : List It) (e : Ending) (w' : World) : Prop :=
  ∃ v ps, e = .returned v ∧ w'.ownsRow w.heap.size 133 6 v ps.length (flat ps) ∧ (∀ p ∈ ps, ∀ q, p.v q < 18446744073709551616) ∧ ps.map sem = P ∧ ps.length ≤ 100000 ∧ Below w.heap.size w w'

def PcsRel (s : ByteArray) (w wr : World) (P : List It) (v : Value) (k : Nat) (cl : Bool) (ps : List Pc) : Prop :=
  k ≤ s.size ∧ wr.ownsRow w.heap.size 133 6 v ps.length (flat ps) ∧ ps.length ≤ k ∧ Below w.heap.size w wr ∧ (∀ p ∈ ps, ∀ q, p.v q < 18446744073709551616) ∧ ps.map sem ++ pcs s (s.size + 1 - k) k cl = P

theorem rs_bound (s : ByteArray) : ∀ (n k : Nat) (fb : Bool) (f : Nat → Bool), (rs s n k fb f).2 ≤ s.size ∧ ((rs s n k fb f).2 ≠ 0 → k < (rs s n k fb f).2) := by
  intro n
  induction n with
  | zero => intro k fb f; exact ⟨Nat.zero_le _, fun h => absurd rfl h⟩
  | succ n ih =>
    intro k fb f
    by_cases hk : k < s.size
    · have b1 := rbn_le s k hk
      by_cases h93 : gb s k = 93 ∧ fb = false
      · rw [rs, if_pos hk, if_pos h93]; simp; omega
      · by_cases hs : rbn s k + 1 < s.size ∧ gb s (rbn s k) = 45 ∧ gb s (rbn s k + 1) ≠ 93
        · have b2 := rbn_le s (rbn s k + 1) hs.1
          rw [rs_span s k fb f n hk h93 hs]
          have := ih (rbn s (rbn s k + 1)) false (fun c => f c || (decide ((rb s k).toNat ≤ c) && decide (c ≤ (rb s (rbn s k + 1)).toNat)))
          exact ⟨this.1, fun h => by have := this.2 h; omega⟩
        · rw [rs_one s k fb f n hk h93 hs]
          have := ih (rbn s k) false (fun c => f c || (decide ((rb s k).toNat ≤ c) && decide (c ≤ (rb s k).toNat)))
          exact ⟨this.1, fun h => by have := this.2 h; omega⟩
    · rw [rs_end s k fb f n hk]; simp

theorem rdSet_bound (s : ByteArray) (i : Nat) : (rdSet s i).2 ≤ s.size ∧ ((rdSet s i).2 ≠ 0 → i < (rdSet s i).2) := by
  unfold rdSet
  have h := rs_bound s (s.size + 1 - iOf (nbOf s i) i) (iOf (nbOf s i) i) true (fun _ => false)
  refine ⟨h.1, fun h0 => ?_⟩
  have := h.2 h0
  have : i ≤ iOf (nbOf s i) i := by unfold iOf; split <;> omega
  simp only
  omega

theorem pcs_fuel (s : ByteArray) : ∀ (n m k : Nat) (cl : Bool), s.size < n + k → s.size < m + k → pcs s n k cl = pcs s m k cl := by
  intro n
  induction n with
  | zero =>
    intro m k cl h1 h2
    cases m with
    | zero => rfl
    | succ m => rw [pcs, pcs, if_neg (by omega)]
  | succ n ih =>
    intro m k cl h1 h2
    cases m with
    | zero => rw [pcs, pcs, if_neg (by omega)]
    | succ m =>
      rw [pcs, pcs]
      by_cases hk : k < s.size
      · have b1 := rbn_le s k hk
        have b2 := rdSet_bound s (k + 1)
        rw [if_pos hk, if_pos hk]
        split
        · rw [ih m (k + 1) cl (by omega) (by omega)]
        · split
          · rw [ih m (k + 1) cl (by omega) (by omega)]
          · split
            · split
              · next h => have := b2.2 h; rw [ih m _ cl (by omega) (by omega)]
              · rw [ih m _ false (by omega) (by omega)]
            · rw [ih m _ cl (by omega) (by omega)]
      · rw [if_neg hk, if_neg hk]

theorem readSet_int (s : ByteArray) (a : Int) (w : World) (hs : s.size ≤ 100000) (h0 : 0 ≤ a) (hi : a ≤ s.size) :
    Calls Tryz.prog 128 #[.string s, .int .i64 a] w fun e w' => ∃ v : Nat → Nat, (∀ j, v j < 18446744073709551616) ∧
      e = .returned (.tuple #[.agg #[.int .u64 (v 0), .int .u64 (v 1), .int .u64 (v 2), .int .u64 (v 3)], .int .i64 (rdSet s a.toNat).2]) ∧
      ((rdSet s a.toNat).2 ≠ 0 → ∀ c, c < 256 → sbit v c = (rdSet s a.toNat).1 c) ∧ Below w.heap.size w w' := by
  obtain ⟨n, rfl⟩ := Int.eq_ofNat_of_zero_le h0
  refine (readSet_core s n w _ _ _ hs (by omega) rfl rfl rfl).mono ?_
  rintro e w' ⟨v, h1, h2, h3, _, h5⟩
  exact ⟨v, h1, h2, h3, h5⟩

theorem tk_lit (c : UInt8) (v : Nat → Nat) : sem ⟨0, c, v⟩ = itLit c := rfl
theorem tk_one (v : Nat → Nat) : sem ⟨1, 0, v⟩ = itOne := rfl
theorem tk_star (v : Nat → Nat) : sem ⟨3, 0, v⟩ = itStar := rfl
theorem tk_set (v : Nat → Nat) (f : Nat → Bool) (h : ∀ c, c < 256 → sbit v c = f c) : sem ⟨2, 0, v⟩ = itSet f := by
  unfold sem itSet
  congr 2
  funext b
  exact h b.toNat b.toNat_lt

theorem PcsRel.next {s : ByteArray} {w wr w1 : World} {P : List It} {v v' : Value} {k k' : Nat} {cl cl' : Bool} {ps : List Pc} {p : Pc} {it : It} {W : World} (hk : k < s.size) (hk' : k < k') (hks : k' ≤ s.size)
    (hown : wr.ownsRow w.heap.size 133 6 v ps.length (flat ps)) (hl : ps.length ≤ k) (hv : ∀ p ∈ ps, ∀ q, p.v q < 18446744073709551616) (hP : ps.map sem ++ pcs s (s.size + 1 - k) k cl = P)
    (hp : ∀ q, p.v q < 18446744073709551616) (hsem : sem p = it) (hit : pcs s (s.size + 1 - k) k cl = it :: pcs s (s.size - k) k' cl')
    (hBW : Below w.heap.size w W) (hown' : w1.ownsRow w.heap.size 133 6 v' (ps.length + 1) (flat ps ++ p.cs)) (hg : W.grownBy w1 v.ownBlock) : PcsRel s w w1 P v' k' cl' (ps ++ [p]) := by
  refine ⟨hks, by rw [flat_snoc]; simpa using hown', by simp; omega, hBW.grown hg hBW.size (fun j hj => (hown.lt j hj).1), ?_, ?_⟩
  · intro q hq
    rcases List.mem_append.1 hq with h | h
    · exact hv q h
    · rw [List.mem_singleton.1 h]; exact hp
  · rw [← hP, hit, List.map_append, List.append_assoc, pcs_fuel s (s.size + 1 - k') (s.size - k) k' cl' (by omega) (by omega)]
    simp [hsem]

theorem pcs_star {s : ByteArray} {k : Nat} {cl : Bool} (hk : k < s.size) (h : gb s k = 42) : pcs s (s.size + 1 - k) k cl = itStar :: pcs s (s.size - k) (k + 1) cl := by
  rw [show s.size + 1 - k = (s.size - k) + 1 from by omega, pcs, if_pos hk, if_pos h]
theorem pcs_one {s : ByteArray} {k : Nat} {cl : Bool} (hk : k < s.size) (h : gb s k = 63) : pcs s (s.size + 1 - k) k cl = itOne :: pcs s (s.size - k) (k + 1) cl := by
  rw [show s.size + 1 - k = (s.size - k) + 1 from by omega, pcs, if_pos hk, if_neg (by rw [h]; decide), if_pos h]
theorem pcs_set {s : ByteArray} {k : Nat} (hk : k < s.size) (h : gb s k = 91) (h0 : (rdSet s (k + 1)).2 ≠ 0) : pcs s (s.size + 1 - k) k true = itSet (rdSet s (k + 1)).1 :: pcs s (s.size - k) (rdSet s (k + 1)).2 true := by
  rw [show s.size + 1 - k = (s.size - k) + 1 from by omega, pcs, if_pos hk, if_neg (by rw [h]; decide), if_neg (by rw [h]; decide), if_pos ⟨h, rfl⟩, if_pos h0]
theorem pcs_open {s : ByteArray} {k : Nat} (hk : k < s.size) (h : gb s k = 91) (h0 : (rdSet s (k + 1)).2 = 0) : pcs s (s.size + 1 - k) k true = itLit (rb s k) :: pcs s (s.size - k) (rbn s k) false := by
  rw [show s.size + 1 - k = (s.size - k) + 1 from by omega, pcs, if_pos hk, if_neg (by rw [h]; decide), if_neg (by rw [h]; decide), if_pos ⟨h, rfl⟩, if_neg (by simp [h0])]
theorem pcs_lit {s : ByteArray} {k : Nat} {cl : Bool} (hk : k < s.size) (h1 : gb s k ≠ 42) (h2 : gb s k ≠ 63) (h3 : ¬ (gb s k = 91 ∧ cl = true)) : pcs s (s.size + 1 - k) k cl = itLit (rb s k) :: pcs s (s.size - k) (rbn s k) cl := by
  rw [show s.size + 1 - k = (s.size - k) + 1 from by omega, pcs, if_pos hk, if_neg h1, if_neg h2, if_neg h3]

theorem zlt (n : Nat) (h : n < 18446744073709551616) : ∀ q, (fun _ : Nat => n) q < 18446744073709551616 := fun _ => h
theorem zv_lt : ∀ q, zv q < 18446744073709551616 := fun _ => Nat.zero_lt_succ _

set_option maxRecDepth 100000 in
set_option maxHeartbeats 4000000 in
theorem pieces_core (s : ByteArray) (w : World) (hs : s.size ≤ 100000) (P : List It) (HP0 : Hid (pcs s (s.size + 1) 0 true = P)) :
    Calls Tryz.prog 84 #[.string s] w (PcsPost w P) := by
  obtain ⟨i0, hi, hz0, hz1, hz2⟩ := info_parts info133
  go_enter Tryz.func84, Tryz.ntmps84
  go_wp2_with fail
  go_loopw [3, 4, 5] (fun a b c wr => ∃ (k : Nat) (cl : Bool) (ps : List Pc), c = .int .i64 k ∧ b = .bool cl ∧ PcsRel s w wr P a k cl ps) (fun _ _ c _ => s.size - (intOf c).toNat)
  case atStart => exact ⟨0, true, [], rfl, rfl, Nat.zero_le _, World.ownsRow_nil _ _ _ _, Nat.zero_le _, Below.refl _ _, fun p h => by simp at h, HP0.out⟩
  case round =>
    obtain ⟨k, cl, ps, rfl, rfl, hk, hown, hpl, hB, hv, hP⟩ := hrel
    have HV := Lib.hid hv
    have HP := Lib.hid hP
    clear hv hP HP0
    by_cases hlt : k < s.size
    · have hbk := gb_eq s k hlt
      by_cases h42 : gb s k = 42
      · have HE := Lib.hid (pcs_star (cl := cl) hlt h42)
        go_wp2_with (at_builtin; refine wpList_append_own _ rfl _ _ 128 rfl w.heap.size 133 i0 (.agg #[.int .i64 0, .int .u8 0, .int .u64 0, .int .u64 0, .int .u64 0, .int .u64 0]) 6 48 Tryz.underlying128 hi hz0 hz1 hz2 rfl (by decide) _ _ _ rfl (hown.alloc _) ⟨wr.heap.size, 0, none⟩ 1 1 [.int .i64 3, .int .u8 0, .int .u64 0, .int .u64 0, .int .u64 0, .int .u64 0] rfl rfl ?c1 ?c2 ?c3 ?c4 ?c5 ?_)
        case c1 =>
          intro j u hj
          match j, hj with
          | 0, hj => simp at hj; subst hj; simp [Addr.add]
          | 1, hj => simp at hj; subst hj; simp [Addr.add]
          | 2, hj => simp at hj; subst hj; simp [Addr.add]
          | 3, hj => simp at hj; subst hj; simp [Addr.add]
          | 4, hj => simp at hj; subst hj; simp [Addr.add]
          | 5, hj => simp at hj; subst hj; simp [Addr.add]
        case c2 => intro u hu; simp at hu; rcases hu with rfl | rfl | rfl | rfl | rfl | rfl <;> rfl
        case c3 => unfold maxLen; omega
        case c4 => omega
        case c5 => first | (have := hB.size; simp; omega) | (have := hBB.size; simp; omega)
        intro v' w1 hown' hgrow _
        have HR := Lib.hid (PcsRel.next (p := ⟨3, 0, zv⟩) hlt (Nat.lt_succ_self k) hlt hown hpl HV.out HP.out zv_lt rfl HE.out (hB.alloc hB.size _) hown' hgrow)
        clear hown' hgrow
        go_wp2_with fail
        go_roundw
        case rel => exact ⟨k + 1, cl, _, by go_num, rfl, HR.out⟩
        case measure => simp [intOf]; omega
      · have h42' := sz_ne (n := 42) (by decide) h42
        by_cases h63 : gb s k = 63
        · have HE := Lib.hid (pcs_one (cl := cl) hlt h63)
          clear h42 h42'
          go_wp2_with (at_builtin; refine wpList_append_own _ rfl _ _ 128 rfl w.heap.size 133 i0 (.agg #[.int .i64 0, .int .u8 0, .int .u64 0, .int .u64 0, .int .u64 0, .int .u64 0]) 6 48 Tryz.underlying128 hi hz0 hz1 hz2 rfl (by decide) _ _ _ rfl (hown.alloc _) ⟨wr.heap.size, 0, none⟩ 1 1 [.int .i64 1, .int .u8 0, .int .u64 0, .int .u64 0, .int .u64 0, .int .u64 0] rfl rfl ?c1 ?c2 ?c3 ?c4 ?c5 ?_)
          case c1 =>
            intro j u hj
            match j, hj with
            | 0, hj => simp at hj; subst hj; simp [Addr.add]
            | 1, hj => simp at hj; subst hj; simp [Addr.add]
            | 2, hj => simp at hj; subst hj; simp [Addr.add]
            | 3, hj => simp at hj; subst hj; simp [Addr.add]
            | 4, hj => simp at hj; subst hj; simp [Addr.add]
            | 5, hj => simp at hj; subst hj; simp [Addr.add]
          case c2 => intro u hu; simp at hu; rcases hu with rfl | rfl | rfl | rfl | rfl | rfl <;> rfl
          case c3 => unfold maxLen; omega
          case c4 => omega
          case c5 => first | (have := hB.size; simp; omega) | (have := hBB.size; simp; omega)
          intro v' w1 hown' hgrow _
          have HR := Lib.hid (PcsRel.next (p := ⟨1, 0, zv⟩) hlt (Nat.lt_succ_self k) hlt hown hpl HV.out HP.out zv_lt rfl HE.out (hB.alloc hB.size _) hown' hgrow)
          clear hown' hgrow
          go_wp2_with fail
          go_roundw
          case rel => exact ⟨k + 1, cl, _, by go_num, rfl, HR.out⟩
          case measure => simp [intOf]; omega
        · have h63' := sz_ne (n := 63) (by decide) h63
          by_cases h91 : gb s k = 91 ∧ cl = true
          · obtain ⟨h91, rfl⟩ := h91
            have H42 := Lib.hid h42
            have H63 := Lib.hid h63
            clear h42 h63 h42' h63'
            have ht : ((k : Int) + 1).toNat = k + 1 := by omega
            have hbd := rdSet_bound s (k + 1)
            by_cases h0 : (rdSet s (k + 1)).2 = 0
            · have HE := Lib.hid (pcs_open hlt h91 h0)
              have hrb := rbn_le s k hlt
              clear hbd
              go_wp2_with fail
              refine (readSet_int s _ _ hs (by omega) (by omega)).mono ?_
              rintro e w2 ⟨v, hv, rfl, hsb, hB2⟩
              have hown2 := hown.kept (gb_below hB2) (own_em _)
              have hBB := hB.trans (hB2.mono hB.size)
              clear hsb hv
              go_wp2_with (first | (go_at_call 129; refine (readByte_int s _ _ hs (by omega) (by omega)).mono ?_; rintro e w' ⟨rfl, rfl⟩) | (at_builtin; refine wpList_append_own _ rfl _ _ 128 rfl w.heap.size 133 i0 (.agg #[.int .i64 0, .int .u8 0, .int .u64 0, .int .u64 0, .int .u64 0, .int .u64 0]) 6 48 Tryz.underlying128 hi hz0 hz1 hz2 rfl (by decide) _ _ _ rfl ((hown2.alloc _).alloc _) ⟨w2.heap.size + 1, 0, none⟩ 1 1 [.int .i64 0, .int .u8 (rb s k).toNat, .int .u64 0, .int .u64 0, .int .u64 0, .int .u64 0] rfl rfl ?c1 ?c2 ?c3 ?c4 ?c5 ?_))
              case c1 =>
                intro j u hj
                match j, hj with
                | 0, hj => simp at hj; subst hj; simp [Addr.add]
                | 1, hj => simp at hj; subst hj; simp [Addr.add]
                | 2, hj => simp at hj; subst hj; simp [Addr.add]
                | 3, hj => simp at hj; subst hj; simp [Addr.add]
                | 4, hj => simp at hj; subst hj; simp [Addr.add]
                | 5, hj => simp at hj; subst hj; simp [Addr.add]
              case c2 => intro u hu; simp at hu; rcases hu with rfl | rfl | rfl | rfl | rfl | rfl <;> rfl
              case c3 => unfold maxLen; omega
              case c4 => omega
              case c5 => first | (have := hB.size; simp; omega) | (have := hBB.size; simp; omega)
              intro v' w1 hown' hgrow _
              have hBB2 := (hBB.alloc hBB.size (.cells #[.int .u64 (v 0), .int .u64 (v 1), .int .u64 (v 2), .int .u64 (v 3)] 131)).alloc (by have := hBB.size; simp; omega) (.cells #[.int .i64 0, .int .u8 (rb s k).toNat, .int .u64 0, .int .u64 0, .int .u64 0, .int .u64 0] 133)
              have HR := Lib.hid (PcsRel.next (p := ⟨0, rb s k, zv⟩) hlt (by omega) (by omega) hown hpl HV.out HP.out zv_lt rfl HE.out hBB2 hown' hgrow)
              clear hown' hgrow hBB2
              go_wp2_with fail
              go_roundw
              case rel => exact ⟨_, false, _, rfl, rfl, HR.out⟩
              case measure => simp [intOf]; omega
            · have HE := Lib.hid (pcs_set hlt h91 h0)
              have H0 := Lib.hid h0
              have hlt2 := hbd.2 h0
              have hb1 := hbd.1
              clear hbd h0
              go_wp2_with fail
              refine (readSet_int s _ _ hs (by omega) (by omega)).mono ?_
              rintro e w2 ⟨v, hv, rfl, hsb, hB2⟩
              rw [ht] at hsb
              have hown2 := hown.kept (gb_below hB2) (own_em _)
              have hBB := hB.trans (hB2.mono hB.size)
              have HSB := Lib.hid (hsb H0.out)
              have HVV := Lib.hid hv
              clear hsb hv
              go_wp2_with (at_builtin; refine wpList_append_own _ rfl _ _ 128 rfl w.heap.size 133 i0 (.agg #[.int .i64 0, .int .u8 0, .int .u64 0, .int .u64 0, .int .u64 0, .int .u64 0]) 6 48 Tryz.underlying128 hi hz0 hz1 hz2 rfl (by decide) _ _ _ rfl ((hown2.alloc _).alloc _) ⟨w2.heap.size + 1, 0, none⟩ 1 1 [.int .i64 2, .int .u8 0, .int .u64 (v 0), .int .u64 (v 1), .int .u64 (v 2), .int .u64 (v 3)] rfl rfl ?c1 ?c2 ?c3 ?c4 ?c5 ?_)
              case c1 =>
                intro j u hj
                match j, hj with
                | 0, hj => simp at hj; subst hj; simp [Addr.add]
                | 1, hj => simp at hj; subst hj; simp [Addr.add]
                | 2, hj => simp at hj; subst hj; simp [Addr.add]
                | 3, hj => simp at hj; subst hj; simp [Addr.add]
                | 4, hj => simp at hj; subst hj; simp [Addr.add]
                | 5, hj => simp at hj; subst hj; simp [Addr.add]
              case c2 => intro u hu; simp at hu; rcases hu with rfl | rfl | rfl | rfl | rfl | rfl <;> rfl
              case c3 => unfold maxLen; omega
              case c4 => omega
              case c5 => first | (have := hB.size; simp; omega) | (have := hBB.size; simp; omega)
              intro v' w1 hown' hgrow _
              have hBB2 := (hBB.alloc hBB.size (.cells #[.int .u64 (v 0), .int .u64 (v 1), .int .u64 (v 2), .int .u64 (v 3)] 131)).alloc (by have := hBB.size; simp; omega) (.cells #[.int .i64 2, .int .u8 0, .int .u64 (v 0), .int .u64 (v 1), .int .u64 (v 2), .int .u64 (v 3)] 133)
              have HR := Lib.hid (PcsRel.next (p := ⟨2, 0, v⟩) hlt (by omega) hb1 hown hpl HV.out HP.out HVV.out (tk_set v _ HSB.out) HE.out hBB2 hown' hgrow)
              clear hown' hgrow hBB2
              go_wp2_with fail
              go_roundw
              case rel => exact ⟨_, true, _, rfl, rfl, HR.out⟩
              case measure => simp [intOf]; omega
          · have hrb := rbn_le s k hlt
            have HE := Lib.hid (pcs_lit hlt h42 h63 h91)
            have hcase : (cl = false ∧ gb s k = 91) ∨ (((gb s k).toNat : Int) == 91) = false := by
              by_cases h : gb s k = 91
              · left; refine ⟨?_, h⟩
                cases cl
                · rfl
                · exact absurd ⟨h, rfl⟩ h91
              · right; exact sz_ne (n := 91) (by decide) h
            clear h42 h63 h91
            rcases hcase with ⟨rfl, h91⟩ | h91
            · go_wp2_with (first | (go_at_call 129; refine (readByte_int s _ _ hs (by omega) (by omega)).mono ?_; rintro e w' ⟨rfl, rfl⟩) | (at_builtin; refine wpList_append_own _ rfl _ _ 128 rfl w.heap.size 133 i0 (.agg #[.int .i64 0, .int .u8 0, .int .u64 0, .int .u64 0, .int .u64 0, .int .u64 0]) 6 48 Tryz.underlying128 hi hz0 hz1 hz2 rfl (by decide) _ _ _ rfl (hown.alloc _) ⟨wr.heap.size, 0, none⟩ 1 1 [.int .i64 0, .int .u8 (rb s k).toNat, .int .u64 0, .int .u64 0, .int .u64 0, .int .u64 0] rfl rfl ?c1 ?c2 ?c3 ?c4 ?c5 ?_))
              case c1 =>
                intro j u hj
                match j, hj with
                | 0, hj => simp at hj; subst hj; simp [Addr.add]
                | 1, hj => simp at hj; subst hj; simp [Addr.add]
                | 2, hj => simp at hj; subst hj; simp [Addr.add]
                | 3, hj => simp at hj; subst hj; simp [Addr.add]
                | 4, hj => simp at hj; subst hj; simp [Addr.add]
                | 5, hj => simp at hj; subst hj; simp [Addr.add]
              case c2 => intro u hu; simp at hu; rcases hu with rfl | rfl | rfl | rfl | rfl | rfl <;> rfl
              case c3 => unfold maxLen; omega
              case c4 => omega
              case c5 => first | (have := hB.size; simp; omega) | (have := hBB.size; simp; omega)
              intro v' w1 hown' hgrow _
              have HR := Lib.hid (PcsRel.next (p := ⟨0, rb s k, zv⟩) hlt (by omega) (by omega) hown hpl HV.out HP.out zv_lt rfl HE.out (hB.alloc hB.size _) hown' hgrow)
              clear hown' hgrow
              go_wp2_with fail
              go_roundw
              case rel => exact ⟨_, false, _, rfl, rfl, HR.out⟩
              case measure => simp [intOf]; omega
            · go_wp2_with (first | (go_at_call 129; refine (readByte_int s _ _ hs (by omega) (by omega)).mono ?_; rintro e w' ⟨rfl, rfl⟩) | (at_builtin; refine wpList_append_own _ rfl _ _ 128 rfl w.heap.size 133 i0 (.agg #[.int .i64 0, .int .u8 0, .int .u64 0, .int .u64 0, .int .u64 0, .int .u64 0]) 6 48 Tryz.underlying128 hi hz0 hz1 hz2 rfl (by decide) _ _ _ rfl (hown.alloc _) ⟨wr.heap.size, 0, none⟩ 1 1 [.int .i64 0, .int .u8 (rb s k).toNat, .int .u64 0, .int .u64 0, .int .u64 0, .int .u64 0] rfl rfl ?c1 ?c2 ?c3 ?c4 ?c5 ?_))
              case c1 =>
                intro j u hj
                match j, hj with
                | 0, hj => simp at hj; subst hj; simp [Addr.add]
                | 1, hj => simp at hj; subst hj; simp [Addr.add]
                | 2, hj => simp at hj; subst hj; simp [Addr.add]
                | 3, hj => simp at hj; subst hj; simp [Addr.add]
                | 4, hj => simp at hj; subst hj; simp [Addr.add]
                | 5, hj => simp at hj; subst hj; simp [Addr.add]
              case c2 => intro u hu; simp at hu; rcases hu with rfl | rfl | rfl | rfl | rfl | rfl <;> rfl
              case c3 => unfold maxLen; omega
              case c4 => omega
              case c5 => first | (have := hB.size; simp; omega) | (have := hBB.size; simp; omega)
              intro v' w1 hown' hgrow _
              have HR := Lib.hid (PcsRel.next (p := ⟨0, rb s k, zv⟩) hlt (by omega) (by omega) hown hpl HV.out HP.out zv_lt rfl HE.out (hB.alloc hB.size _) hown' hgrow)
              clear hown' hgrow
              go_wp2_with fail
              go_roundw
              case rel => exact ⟨_, cl, _, rfl, rfl, HR.out⟩
              case measure => simp [intOf]; omega
    · have HPS : Hid (ps.map sem = P) := by
        have := HP.out
        rw [show s.size + 1 - k = (s.size - k) + 1 from by omega, pcs, if_neg hlt, List.append_nil] at this
        exact this
      go_wp2_with fail
      go_ret
      exact ⟨_, ps, rfl, hown, HV.out, HPS.out, by omega, hB⟩
end Go.Proofs.YtcmjpkfinbakkaaGreatDoor.Gb

namespace Go.Proofs.YtcmjpkfinbakkaaGreatDoor.Gb
open Go.RowKit

/-- The bytes that are quoted, and a text so. -/
def spc (c : UInt8) : Bool := c == 42 || c == 63 || c == 91 || c == 92
def qt (l : List UInt8) : List UInt8 := l.flatMap fun c => if spc c then [92, c] else [c]
theorem qt_snoc (l : List UInt8) (c : UInt8) : qt (l ++ [c]) = qt l ++ (if spc c then [92, c] else [c]) := by simp [qt]
theorem bc_snoc (l : List UInt8) (c : UInt8) : Lib.byteCells l ++ [.int .u8 c.toNat] = Lib.byteCells (l ++ [c]) := by simp [Lib.byteCells]
theorem bc_len (l : List UInt8) : (Lib.byteCells l).length = l.length := by simp [Lib.byteCells]
theorem qt_le (l : List UInt8) : (qt l).length ≤ 2 * l.length := by
  unfold qt
  induction l with
  | nil => simp
  | cons c l ih =>
    rw [List.flatMap_cons, List.length_append, List.length_cons]
    generalize (l.flatMap fun c => if spc c then [92, c] else [c]).length = n at *
    split
    · rw [show ([92, c] : List UInt8).length = 2 from rfl]; omega
    · rw [show ([c] : List UInt8).length = 1 from rfl]; omega
theorem take_gb (s : ByteArray) (k : Nat) (h : k < s.size) : s.data.toList.take (k + 1) = s.data.toList.take k ++ [gb s k] := by
  unfold gb
  rw [List.take_succ_eq_append_getElem (by simpa using h), List.getD_eq_getElem?_getD, List.getElem?_eq_getElem (by simpa using h)]; rfl

set_option maxRecDepth 100000 in
set_option maxHeartbeats 4000000 in
theorem Quote_any (s : ByteArray) (w : World) (hs : s.size ≤ 100000) :
    Calls Tryz.prog 82 #[.string s] w fun e w' => e = .returned (.string ⟨(qt s.data.toList).toArray⟩) ∧ Below w.heap.size w w' := by
  obtain ⟨r, hr⟩ : ∃ r, qt s.data.toList = r := ⟨_, rfl⟩
  rw [hr]
  have HR := Lib.hid hr
  clear hr
  go_enter Tryz.func82, Tryz.ntmps82
  go_wp2_with fail
  have HN := Lib.hid (bd_new w w.heap.size (Nat.le_refl _))
  have HB := Lib.hid ((Below.refl w.heap.size w).alloc (Nat.le_refl _) (.cells #[.pointer none, .slice none 0 0] 121))
  go_loopw [7] (fun i wr => ∃ k : Nat, i = .int .i64 k ∧ k ≤ s.size ∧ Hid (Lib.IsBuilder 121 5 w.heap.size w.heap.size (Lib.byteCells (qt (s.data.toList.take k))) wr ∧ Below w.heap.size w wr)) (fun i _ => s.size - (intOf i).toNat)
  case atStart => exact ⟨0, rfl, by omega, Lib.hid ⟨by simpa [qt, Lib.byteCells] using HN.out, HB.out⟩⟩
  case round =>
    obtain ⟨k, rfl, hk, HK⟩ := hrel
    by_cases hlt : k < s.size
    · have hltI : (k : Int) < (s.size : Int) := by omega
      have hgb := gb_eq s k hlt
      have HT : Hid (qt (s.data.toList.take (k + 1)) = qt (s.data.toList.take k) ++ (if spc (gb s k) then [92, gb s k] else [gb s k])) := by unfold Hid; rw [take_gb s k hlt, qt_snoc]
      have hq := qt_le (s.data.toList.take k)
      have hlen : (s.data.toList.take k).length = k := by simp; omega
      rw [hlen] at hq
      have HQ := Lib.hid hq
      clear hq hlen
      generalize gb s k = c at *
      generalize qt (s.data.toList.take k) = l at *
      have hB := HK.out.2.size
      cases hc : spc c
      · have HC : Hid (qt (s.data.toList.take (k + 1)) = l ++ [c]) := by unfold Hid; rw [HT.out, hc]; rfl
        have hne : c.toNat ≠ 42 ∧ c.toNat ≠ 63 ∧ c.toNat ≠ 91 ∧ c.toNat ≠ 92 := by
          unfold spc at hc
          simp only [Bool.or_eq_false_iff, beq_eq_false_iff_ne] at hc
          exact ⟨fun h => hc.1.1.1 (UInt8.toNat.inj h), fun h => hc.1.1.2 (UInt8.toNat.inj h), fun h => hc.1.2 (UInt8.toNat.inj h), fun h => hc.2 (UInt8.toNat.inj h)⟩
        have c1 : ((c.toNat : Int) == 42) = false := by rw [beq_eq_false_iff_ne]; omega
        have c2 : ((c.toNat : Int) == 63) = false := by rw [beq_eq_false_iff_ne]; omega
        have c3 : ((c.toNat : Int) == 91) = false := by rw [beq_eq_false_iff_ne]; omega
        have c4 : ((c.toNat : Int) == 92) = false := by rw [beq_eq_false_iff_ne]; omega
        clear hc hne HT
        go_wp2_with fail
        refine (bd_writeByte w.heap.size w.heap.size _ c.toNat _ HK.out.1 (by rw [bc_len]; have := HQ.out; omega) hB).mono ?_
        rintro e w2 ⟨rfl, hb2, hB2, _⟩
        have HX := Lib.hid (And.intro hb2 (HK.out.2.trans hB2))
        clear hb2 hB2
        go_wp2_with fail
        exact ⟨⟨k + 1, by go_num, by omega, by rw [HC.out, ← bc_snoc]; exact HX.out⟩, by simp [intOf]; omega⟩
      · have HC : Hid (qt (s.data.toList.take (k + 1)) = l ++ [92] ++ [c]) := by unfold Hid; rw [HT.out, hc]; simp
        have hcs : c = 42 ∨ c = 63 ∨ c = 91 ∨ c = 92 := by
          unfold spc at hc
          simpa [Bool.or_eq_true, or_assoc] using hc
        clear hc HT
        rcases hcs with rfl | rfl | rfl | rfl
        all_goals
          go_wp2_with fail
          refine (bd_writeByte w.heap.size w.heap.size _ 92 _ HK.out.1 (by rw [bc_len]; have := HQ.out; omega) hB).mono ?_
          rintro e w2 ⟨rfl, hb2, hB2, _⟩
          have HX := Lib.hid (And.intro hb2 (HK.out.2.trans hB2))
          have hB3 := HX.out.2.size
          clear hb2 hB2
          go_wp2_with fail
          refine (bd_writeByte w.heap.size w.heap.size _ _ _ HX.out.1 (by rw [List.length_append, bc_len]; have := HQ.out; simp; omega) hB3).mono ?_
          rintro e w3 ⟨rfl, hb3, hB4, _⟩
          have HY := Lib.hid (And.intro hb3 (HX.out.2.trans hB4))
          clear hb3 hB4
          go_wp2_with fail
          exact ⟨⟨k + 1, by go_num, by omega, by rw [HC.out, ← bc_snoc, ← bc_snoc]; exact HY.out⟩, by simp [intOf]; omega⟩
    · have hge : ¬ (k : Int) < (s.size : Int) := by omega
      have HL : Hid (qt (s.data.toList.take k) = r) := by unfold Hid; rw [← HR.out, List.take_of_length_le (by simp; omega)]
      have hB := HK.out.2.size
      rw [HL.out] at HK
      go_wp2_with fail
      refine (Tryz.Builder_String_any w.heap.size w.heap.size r _ HK.out.1 hB).mono ?_
      rintro e w2 ⟨rfl, hB2⟩
      have HX := Lib.hid (HK.out.2.trans hB2)
      clear hB2
      go_wp2_with fail
      go_ret
      exact ⟨rfl, HX.out⟩
end Go.Proofs.YtcmjpkfinbakkaaGreatDoor.Gb

namespace Go.Proofs.YtcmjpkfinbakkaaGreatDoor.Gb
open Go.RowKit

/-- The items match the bytes of s from o up to e. -/
def Mx (s : ByteArray) : List It → Nat → Nat → Prop
  | [], o, e => o = e
  | it :: its, o, e => if it.1 = 3 then ∃ k, o ≤ k ∧ k ≤ e ∧ Mx s its k e else o < e ∧ it.2.2 (gb s o) = true ∧ Mx s its (o + 1) e

theorem Mx.le {s : ByteArray} : ∀ {its : List It} {o e : Nat}, Mx s its o e → o ≤ e
  | [], o, e, h => by unfold Mx at h; omega
  | it :: its, o, e, h => by
    unfold Mx at h
    split at h
    · obtain ⟨k, h1, h2, _⟩ := h; omega
    · omega

theorem Mx_append (s : ByteArray) : ∀ (a b : List It) (o e : Nat), Mx s (a ++ b) o e ↔ ∃ k, Mx s a o k ∧ Mx s b k e
  | [], b, o, e => by simp [Mx]
  | it :: a, b, o, e => by
    simp only [List.cons_append, Mx]
    split
    · constructor
      · rintro ⟨k, h1, h2, h3⟩
        obtain ⟨k', h4, h5⟩ := (Mx_append s a b k e).1 h3
        exact ⟨k', ⟨k, h1, h4.le, h4⟩, h5⟩
      · rintro ⟨k', ⟨k, h1, h2, h4⟩, h5⟩
        exact ⟨k, h1, Nat.le_trans h2 h5.le, (Mx_append s a b k e).2 ⟨k', h4, h5⟩⟩
    · constructor
      · rintro ⟨h1, h2, h3⟩
        obtain ⟨k', h4, h5⟩ := (Mx_append s a b (o + 1) e).1 h3
        exact ⟨k', ⟨by have := h4.le; omega, h2, h4⟩, h5⟩
      · rintro ⟨k', ⟨h1, h2, h4⟩, h5⟩
        exact ⟨by have := h5.le; omega, h2, (Mx_append s a b (o + 1) e).2 ⟨k', h4, h5⟩⟩

/-- The runs match, one behind the other, with whatever between them. -/
def MR (s : ByteArray) : List (List Pc) → Nat → Nat → Prop
  | [], _, _ => False
  | [r], o, e => fitsB s o r = true ∧ o + r.length = e
  | r :: r2 :: rs, o, e => fitsB s o r = true ∧ ∃ k, o + r.length ≤ k ∧ k ≤ e ∧ MR s (r2 :: rs) k e

theorem MR_cons {s : ByteArray} {r : List Pc} {rs : List (List Pc)} (h : rs ≠ []) (o e : Nat) : MR s (r :: rs) o e ↔ fitsB s o r = true ∧ ∃ k, o + r.length ≤ k ∧ k ≤ e ∧ MR s rs k e := by
  cases rs with
  | nil => exact absurd rfl h
  | cons r2 rs => rfl

theorem Mx_runs (s : ByteArray) : ∀ (ps : List Pc) (o e : Nat), Mx s (ps.map sem) o e ↔ MR s (runs ps) o e
  | [], o, e => by simp [Mx, runs, MR, fitsB]
  | p :: ps, o, e => by
    have ih := Mx_runs s ps
    simp only [List.map_cons, Mx]
    rw [show (sem p).1 = p.kind from rfl, show (sem p).2.2 (gb s o) = tk p (gb s o) from rfl]
    by_cases h3 : p.kind = 3
    · rw [if_pos h3, runs, if_pos h3, MR_cons (runs_ne ps)]
      simp only [fitsB, List.length_nil, Nat.add_zero, true_and]
      constructor
      · rintro ⟨k, h1, h2, h⟩; exact ⟨k, h1, h2, (ih k e).1 h⟩
      · rintro ⟨k, h1, h2, h⟩; exact ⟨k, h1, h2, (ih k e).2 h⟩
    · rw [if_neg h3, runs, if_neg h3, ih (o + 1) e]
      split
      · next hr => exact absurd hr (runs_ne ps)
      · next r rs hr =>
        rw [hr]
        cases rs with
        | nil =>
          simp only [MR, fitsB, List.length_cons, Bool.and_eq_true]
          constructor
          · rintro ⟨h1, h2, h4, h5⟩; exact ⟨⟨h2, h4⟩, by omega⟩
          · rintro ⟨⟨h2, h4⟩, h5⟩; exact ⟨by omega, h2, h4, by omega⟩
        | cons r2 rs =>
          simp only [MR, fitsB, List.length_cons, Bool.and_eq_true]
          constructor
          · rintro ⟨h1, h2, h4, k, h5, h6, h7⟩; exact ⟨⟨h2, h4⟩, k, by omega, h6, h7⟩
          · rintro ⟨⟨h2, h4⟩, k, h5, h6, h7⟩; exact ⟨by omega, h2, h4, k, by omega, h6, h7⟩

/-- The middle runs match somewhere from o on, before e. -/
def MM (s : ByteArray) (e : Nat) : List (List Pc) → Nat → Prop
  | [], o => o ≤ e
  | r :: rs, o => ∃ k, o ≤ k ∧ k + r.length ≤ e ∧ fitsB s k r = true ∧ MM s e rs (k + r.length)

theorem MM.mono {s : ByteArray} {e : Nat} : ∀ {rs : List (List Pc)} {o o' : Nat}, MM s e rs o → o' ≤ o → MM s e rs o'
  | [], o, o', h, hl => by unfold MM at h ⊢; omega
  | r :: rs, o, o', h, hl => by
    obtain ⟨k, h1, h2, h3, h4⟩ := h
    exact ⟨k, by omega, h2, h3, h4⟩

theorem MM.le {s : ByteArray} {e : Nat} : ∀ {rs : List (List Pc)} {o : Nat}, MM s e rs o → o ≤ e
  | [], o, h => h
  | r :: rs, o, h => by obtain ⟨k, h1, h2, h3, h4⟩ := h; omega

theorem MR_mid (s : ByteArray) (t : List Pc) (n : Nat) : ∀ (mid : List (List Pc)) (o : Nat), (∃ k, o ≤ k ∧ k ≤ n ∧ MR s (mid ++ [t]) k n) ↔ t.length ≤ n ∧ fitsB s (n - t.length) t = true ∧ MM s (n - t.length) mid o
  | [], o => by
    simp only [List.nil_append, MR, MM]
    constructor
    · rintro ⟨k, h1, h2, h3, h4⟩
      have : k = n - t.length := by omega
      subst this
      exact ⟨by omega, h3, by omega⟩
    · rintro ⟨h1, h2, h3⟩
      exact ⟨n - t.length, h3, by omega, h2, by omega⟩
  | r :: mid, o => by
    have ih := MR_mid s t n mid
    simp only [List.cons_append, MM]
    constructor
    · rintro ⟨k, h1, h2, h⟩
      rw [MR_cons (by simp)] at h
      obtain ⟨h3, k2, h4, h5, h6⟩ := h
      obtain ⟨h7, h8, h9⟩ := (ih (k + r.length)).1 ⟨k2, h4, h5, h6⟩
      exact ⟨h7, h8, k, h1, h9.le, h3, h9⟩
    · rintro ⟨h7, h8, k, h1, h2, h3, h9⟩
      obtain ⟨k2, h4, h5, h6⟩ := (ih (k + r.length)).2 ⟨h7, h8, h9⟩
      exact ⟨k, h1, by omega, (MR_cons (by simp) _ _).2 ⟨h3, k2, h4, h5, h6⟩⟩

theorem findRun_some (s : ByteArray) (e : Nat) (r : List Pc) : ∀ (n o : Nat), e < n + o → (∀ o', findRun s e r n o = some o' → ∃ k, o ≤ k ∧ o' = k + r.length ∧ o' ≤ e ∧ fitsB s k r = true ∧ ∀ j, o ≤ j → j + r.length ≤ e → fitsB s j r = true → k ≤ j) ∧
    (findRun s e r n o = none → ∀ j, o ≤ j → j + r.length ≤ e → fitsB s j r = false)
  | 0, o, h => ⟨fun o' h' => by simp [findRun] at h', fun _ j h1 h2 => by omega⟩
  | n + 1, o, h => by
    have ih := findRun_some s e r n (o + 1) (by omega)
    rw [findRun]
    by_cases hc : o + r.length ≤ e
    · rw [if_pos hc]
      by_cases hf : fitsB s o r = true
      · rw [if_pos hf]
        refine ⟨fun o' h' => ?_, fun h' => by simp at h'⟩
        have : o + r.length = o' := by simpa using h'
        exact ⟨o, Nat.le_refl _, this.symm, by omega, hf, fun j h1 _ _ => h1⟩
      · rw [if_neg hf]
        refine ⟨fun o' h' => ?_, fun h' j h1 h2 => ?_⟩
        · obtain ⟨k, h1, h2, h3, h4, h5⟩ := ih.1 o' h'
          refine ⟨k, by omega, h2, h3, h4, fun j hj hj2 hj3 => ?_⟩
          by_cases e' : j = o
          · subst e'; exact absurd hj3 hf
          · exact h5 j (by omega) hj2 hj3
        · by_cases e' : j = o
          · subst e'; simpa using hf
          · exact ih.2 h' j (by omega) h2
    · rw [if_neg hc]
      exact ⟨fun o' h' => by simp at h', fun _ j h1 h2 => by omega⟩

theorem mids_iff (s : ByteArray) (e : Nat) : ∀ (rs : List (List Pc)) (o : Nat), o ≤ e → (mids s e rs o = true ↔ MM s e rs o)
  | [], o, h => by simp [mids, MM, h]
  | r :: rs, o, h => by
    have hf := findRun_some s e r (e + 1 - o) o (by omega)
    rw [mids]
    cases hr : findRun s e r (e + 1 - o) o with
    | none =>
      simp only [MM]
      constructor
      · intro h'; simp at h'
      · rintro ⟨k, h1, h2, h3, _⟩
        have := hf.2 hr k h1 h2
        rw [h3] at this; simp at this
    | some o' =>
      obtain ⟨k, h1, h2, h3, h4, h5⟩ := hf.1 o' hr
      simp only [MM]
      rw [mids_iff s e rs o' h3]
      constructor
      · intro h'; exact ⟨k, h1, by omega, h4, by rw [← h2]; exact h'⟩
      · rintro ⟨j, j1, j2, j3, j4⟩
        exact j4.mono (by have := h5 j j1 j2 j3; omega)

theorem gm_iff (s : ByteArray) (ps : List Pc) : gm s ps = true ↔ Mx s (ps.map sem) 0 s.size := by
  rw [Mx_runs]
  unfold gm hd tl
  have hne := runs_ne ps
  generalize runs ps = rs at *
  match rs, hne with
  | [r], _ =>
    simp only [List.length_singleton, if_true, MR, List.getD_cons_zero, Bool.and_eq_true, decide_eq_true_eq]
    constructor
    · rintro ⟨h1, h2⟩; exact ⟨h2, by omega⟩
    · rintro ⟨h1, h2⟩; exact ⟨by omega, h1⟩
  | r :: r2 :: rest, _ =>
    obtain ⟨mid, t, hmt⟩ : ∃ mid t, r2 :: rest = mid ++ [t] := ⟨(r2 :: rest).dropLast, (r2 :: rest).getLast (by simp), (List.dropLast_concat_getLast (by simp)).symm⟩
    have hl : rest.length = mid.length := by have := congrArg List.length hmt; simp at this; exact this
    rw [if_neg (by simp)]
    have e1 : (r :: r2 :: rest).getD ((r :: r2 :: rest).length - 1) [] = t := by
      rw [hmt]
      simp
    have e2 : ((r :: r2 :: rest).drop 1).take ((r :: r2 :: rest).length - 2) = mid := by
      rw [List.drop_one, List.tail_cons, hmt]
      simp only [List.length_cons]
      rw [show (mid ++ [t]).length + 1 - 2 = mid.length from by simp]
      simp
    rw [e1, e2, List.getD_cons_zero, hmt, MR_cons (by simp)]
    by_cases hfit : r.length + t.length ≤ s.size
    · rw [if_pos hfit]
      simp only [Bool.and_eq_true]
      rw [mids_iff s _ mid _ (by omega), Nat.zero_add, MR_mid s t s.size mid r.length]
      constructor
      · rintro ⟨⟨h1, h2⟩, h3⟩; exact ⟨h1, by omega, h2, h3⟩
      · rintro ⟨h1, _, h2, h3⟩; exact ⟨⟨h1, h2⟩, h3⟩
    · rw [if_neg hfit, Nat.zero_add, MR_mid s t s.size mid r.length]
      constructor
      · intro h; simp at h
      · rintro ⟨h1, h2, h3, h4⟩; have := h4.le; omega

theorem sl_of_row {w : World} {base : Nat} {v : Value} {ps : List Pc} (h : w.ownsRow base 133 6 v ps.length (flat ps)) (hlt : ∀ p ∈ ps, ∀ q, p.v q < 18446744073709551616) : Sl w v ps := by
  rcases h.2 with ⟨rfl, h0⟩ | ⟨g, cap, cur, rfl, hg, hcur, hn, hm, hcs, htk⟩
  · exact ⟨none, 0, by rw [h0], by omega, by unfold maxLen; omega, .inl (List.length_eq_zero_iff.1 h0)⟩
  · refine ⟨_, cap, rfl, hn, hm, .inr ⟨g, 0, rfl, fun j hj => ?_⟩⟩
    have hc : ∀ i u, (flat ps)[i]? = some u → w.cell? ⟨g, i, none⟩ = some u := by
      intro i u hu
      have := World.ownsRow.cells h (g := g) rfl i u hu
      simpa [Addr.add_lit] using this
    have hfl : ∀ i, i < 6 → (flat ps)[j * 6 + i]? = ps[j].cs[i]? := by
      intro i hi
      have e : flat ps = flat (ps.take j) ++ (ps[j].cs ++ flat (ps.drop (j + 1))) := by
        have h2 : ps = ps.take j ++ ps[j] :: ps.drop (j + 1) := by rw [← List.drop_eq_getElem_cons hj, List.take_append_drop]
        rw [show flat ps = flat (ps.take j ++ ps[j] :: ps.drop (j + 1)) from congrArg flat h2]
        simp only [flat, List.flatMap_append, List.flatMap_cons]
      have hl : (flat (ps.take j)).length = j * 6 := by
        have : ∀ (l : List Pc), (flat l).length = l.length * 6 := by
          intro l
          induction l with
          | nil => rfl
          | cons p l ih => simp only [flat, List.flatMap_cons, List.length_append, List.length_cons] at ih ⊢; rw [ih]; simp [Pc.cs]; omega
        rw [this]; simp; omega
      rw [e, List.getElem?_append_right (by omega), hl, Nat.add_sub_cancel_left, List.getElem?_append_left (by simp [Pc.cs]; omega)]
    refine ⟨?_, ?_, ?_, hlt _ (List.getElem_mem hj)⟩
    · have := hc (j * 6 + 0) _ (hfl 0 (by omega)); simpa using this
    · have := hc (j * 6 + 1) _ (hfl 1 (by omega)); simpa using this
    · intro q hq
      match q, hq with
      | 0, _ => have := hc (j * 6 + 2) _ (hfl 2 (by omega)); simpa using this
      | 1, _ => have := hc (j * 6 + 3) _ (hfl 3 (by omega)); simpa using this
      | 2, _ => have := hc (j * 6 + 4) _ (hfl 4 (by omega)); simpa using this
      | 3, _ => have := hc (j * 6 + 5) _ (hfl 5 (by omega)); simpa using this

/-- What Match answers. -/
def Matches (p s : ByteArray) : Prop := Mx s (pcs p (p.size + 1) 0 true) 0 s.size

end Go.Proofs.YtcmjpkfinbakkaaGreatDoor.Gb
