import Derived.Test.YtpgaeldjiiaoiaaF
namespace Go.Proofs.Ytpgaeldjiiaoiaa
open Go.RowKit
theorem info60 : (Try.prog.info? 60).map (fun i => (i.zero, i.size, i.bytes)) = some (some (.agg #[.int .i64 0, .int .u8 0, .int .u64 0, .int .u64 0, .int .u64 0, .int .u64 0]), 6, 48) := by kernel_rfl

/-- What a piece says: its kind, its byte, which bytes it takes. -/
abbrev It := Nat × UInt8 × (UInt8 → Bool)
def sem (p : Pc) : It := (p.kind, p.ch, tk p)
def itLit (c : UInt8) : It := (0, c, fun b => c.toNat == b.toNat)
def itOne : It := (1, 0, fun _ => true)
def itSet (f : Nat → Bool) : It := (2, 0, fun b => f b.toNat)
def itStar : It := (3, 0, fun _ => true)

/-- What readSet answers at i: the bytes, and the place behind (0: it is not closed). -/
def rdSet (s : ByteArray) (i : Nat) : (Nat → Bool) × Nat :=
  (fun c => (rs s (s.size + 1 - iOf (nbOf s i) i) (iOf (nbOf s i) i) true (fun _ => false)).1 c != nbOf s i, (rs s (s.size + 1 - iOf (nbOf s i) i) (iOf (nbOf s i) i) true (fun _ => false)).2)

def pcs (s : ByteArray) : Nat → Nat → Bool → List It
  | 0, _, _ => []
  | f + 1, i, cl =>
    if i < s.size then
      if gb s i = 42 then itStar :: pcs s f (i + 1) cl
      else if gb s i = 63 then itOne :: pcs s f (i + 1) cl
      else if gb s i = 91 ∧ cl = true then
        if (rdSet s (i + 1)).2 ≠ 0 then itSet (rdSet s (i + 1)).1 :: pcs s f (rdSet s (i + 1)).2 cl
        else itLit (rb s i) :: pcs s f (rbn s i) false
      else itLit (rb s i) :: pcs s f (rbn s i) cl
    else []

def flat (ps : List Pc) : List Value := ps.flatMap Pc.cs
theorem flat_snoc (ps : List Pc) (p : Pc) : flat (ps ++ [p]) = flat ps ++ p.cs := by simp [flat]

theorem gb_below {w w' : World} (h : Below w.heap.size w w') : w.grownBy w' none := ⟨h.os, h.tape, h.output, h.size, fun k hk _ => h.block k hk⟩
theorem own_em (v : Value) : v.ownBlock = none ∨ v.ownBlock ≠ none := Classical.em _

/-- What pieces leaves. -/
def PcsPost (w : World) (P : List It) (e : Ending) (w' : World) : Prop :=
  ∃ v ps, e = .returned v ∧ w'.ownsRow w.heap.size 60 6 v ps.length (flat ps) ∧ (∀ p ∈ ps, ∀ q, p.v q < 18446744073709551616) ∧ ps.map sem = P ∧ ps.length ≤ 100000 ∧ Below w.heap.size w w'

def PcsRel (s : ByteArray) (w wr : World) (P : List It) (v : Value) (k : Nat) (cl : Bool) (ps : List Pc) : Prop :=
  k ≤ s.size ∧ wr.ownsRow w.heap.size 60 6 v ps.length (flat ps) ∧ ps.length ≤ k ∧ Below w.heap.size w wr ∧ (∀ p ∈ ps, ∀ q, p.v q < 18446744073709551616) ∧ ps.map sem ++ pcs s (s.size + 1 - k) k cl = P

theorem rs_bound (s : ByteArray) : ∀ (n k : Nat) (fb : Bool) (f : Nat → Bool), (rs s n k fb f).2 ≤ s.size ∧ ((rs s n k fb f).2 ≠ 0 → k < (rs s n k fb f).2) := by
  intro n
  induction n with
  | zero => intro k fb f; exact ⟨Nat.zero_le _, fun h => absurd rfl h⟩
  | succ n ih =>
    intro k fb f
    by_cases hk : k < s.size
    · have b1 := rbn_le s k hk
      by_cases h93 : gb s k = 93 ∧ fb = false
      · rw [rs, if_pos hk, if_pos h93]; simp; omega
      · by_cases hs : rbn s k + 1 < s.size ∧ gb s (rbn s k) = 45 ∧ gb s (rbn s k + 1) ≠ 93
        · have b2 := rbn_le s (rbn s k + 1) hs.1
          rw [rs_span s k fb f n hk h93 hs]
          have := ih (rbn s (rbn s k + 1)) false (fun c => f c || (decide ((rb s k).toNat ≤ c) && decide (c ≤ (rb s (rbn s k + 1)).toNat)))
          exact ⟨this.1, fun h => by have := this.2 h; omega⟩
        · rw [rs_one s k fb f n hk h93 hs]
          have := ih (rbn s k) false (fun c => f c || (decide ((rb s k).toNat ≤ c) && decide (c ≤ (rb s k).toNat)))
          exact ⟨this.1, fun h => by have := this.2 h; omega⟩
    · rw [rs_end s k fb f n hk]; simp

theorem rdSet_bound (s : ByteArray) (i : Nat) : (rdSet s i).2 ≤ s.size ∧ ((rdSet s i).2 ≠ 0 → i < (rdSet s i).2) := by
  unfold rdSet
  have h := rs_bound s (s.size + 1 - iOf (nbOf s i) i) (iOf (nbOf s i) i) true (fun _ => false)
  refine ⟨h.1, fun h0 => ?_⟩
  have := h.2 h0
  have : i ≤ iOf (nbOf s i) i := by unfold iOf; split <;> omega
  simp only
  omega

theorem pcs_fuel (s : ByteArray) : ∀ (n m k : Nat) (cl : Bool), s.size < n + k → s.size < m + k → pcs s n k cl = pcs s m k cl := by
  intro n
  induction n with
  | zero =>
    intro m k cl h1 h2
    cases m with
    | zero => rfl
    | succ m => rw [pcs, pcs, if_neg (by omega)]
  | succ n ih =>
    intro m k cl h1 h2
    cases m with
    | zero => rw [pcs, pcs, if_neg (by omega)]
    | succ m =>
      rw [pcs, pcs]
      by_cases hk : k < s.size
      · have b1 := rbn_le s k hk
        have b2 := rdSet_bound s (k + 1)
        rw [if_pos hk, if_pos hk]
        split
        · rw [ih m (k + 1) cl (by omega) (by omega)]
        · split
          · rw [ih m (k + 1) cl (by omega) (by omega)]
          · split
            · split
              · next h => have := b2.2 h; rw [ih m _ cl (by omega) (by omega)]
              · rw [ih m _ false (by omega) (by omega)]
            · rw [ih m _ cl (by omega) (by omega)]
      · rw [if_neg hk, if_neg hk]

theorem readSet_int (s : ByteArray) (a : Int) (w : World) (hs : s.size ≤ 100000) (h0 : 0 ≤ a) (hi : a ≤ s.size) :
    Calls Try.prog 34 #[.string s, .int .i64 a] w fun e w' => ∃ v : Nat → Nat, (∀ j, v j < 18446744073709551616) ∧
      e = .returned (.tuple #[.agg #[.int .u64 (v 0), .int .u64 (v 1), .int .u64 (v 2), .int .u64 (v 3)], .int .i64 (rdSet s a.toNat).2]) ∧
      ((rdSet s a.toNat).2 ≠ 0 → ∀ c, c < 256 → sbit v c = (rdSet s a.toNat).1 c) ∧ Below w.heap.size w w' := by
  obtain ⟨n, rfl⟩ := Int.eq_ofNat_of_zero_le h0
  refine (readSet_core s n w _ _ _ hs (by omega) rfl rfl rfl).mono ?_
  rintro e w' ⟨v, h1, h2, h3, _, h5⟩
  exact ⟨v, h1, h2, h3, h5⟩

theorem tk_lit (c : UInt8) (v : Nat → Nat) : sem ⟨0, c, v⟩ = itLit c := rfl
theorem tk_one (v : Nat → Nat) : sem ⟨1, 0, v⟩ = itOne := rfl
theorem tk_star (v : Nat → Nat) : sem ⟨3, 0, v⟩ = itStar := rfl
theorem tk_set (v : Nat → Nat) (f : Nat → Bool) (h : ∀ c, c < 256 → sbit v c = f c) : sem ⟨2, 0, v⟩ = itSet f := by
  unfold sem itSet
  congr 2
  funext b
  exact h b.toNat b.toNat_lt

theorem PcsRel.next {s : ByteArray} {w wr w1 : World} {P : List It} {v v' : Value} {k k' : Nat} {cl cl' : Bool} {ps : List Pc} {p : Pc} {it : It} {W : World} (hk : k < s.size) (hk' : k < k') (hks : k' ≤ s.size)
    (hown : wr.ownsRow w.heap.size 60 6 v ps.length (flat ps)) (hl : ps.length ≤ k) (hv : ∀ p ∈ ps, ∀ q, p.v q < 18446744073709551616) (hP : ps.map sem ++ pcs s (s.size + 1 - k) k cl = P)
    (hp : ∀ q, p.v q < 18446744073709551616) (hsem : sem p = it) (hit : pcs s (s.size + 1 - k) k cl = it :: pcs s (s.size - k) k' cl')
    (hBW : Below w.heap.size w W) (hown' : w1.ownsRow w.heap.size 60 6 v' (ps.length + 1) (flat ps ++ p.cs)) (hg : W.grownBy w1 v.ownBlock) : PcsRel s w w1 P v' k' cl' (ps ++ [p]) := by
  refine ⟨hks, by rw [flat_snoc]; simpa using hown', by simp; omega, hBW.grown hg hBW.size (fun j hj => (hown.lt j hj).1), ?_, ?_⟩
  · intro q hq
    rcases List.mem_append.1 hq with h | h
    · exact hv q h
    · rw [List.mem_singleton.1 h]; exact hp
  · rw [← hP, hit, List.map_append, List.append_assoc, pcs_fuel s (s.size + 1 - k') (s.size - k) k' cl' (by omega) (by omega)]
    simp [hsem]

theorem pcs_star {s : ByteArray} {k : Nat} {cl : Bool} (hk : k < s.size) (h : gb s k = 42) : pcs s (s.size + 1 - k) k cl = itStar :: pcs s (s.size - k) (k + 1) cl := by
  rw [show s.size + 1 - k = (s.size - k) + 1 from by omega, pcs, if_pos hk, if_pos h]
theorem pcs_one {s : ByteArray} {k : Nat} {cl : Bool} (hk : k < s.size) (h : gb s k = 63) : pcs s (s.size + 1 - k) k cl = itOne :: pcs s (s.size - k) (k + 1) cl := by
  rw [show s.size + 1 - k = (s.size - k) + 1 from by omega, pcs, if_pos hk, if_neg (by rw [h]; decide), if_pos h]
theorem pcs_set {s : ByteArray} {k : Nat} (hk : k < s.size) (h : gb s k = 91) (h0 : (rdSet s (k + 1)).2 ≠ 0) : pcs s (s.size + 1 - k) k true = itSet (rdSet s (k + 1)).1 :: pcs s (s.size - k) (rdSet s (k + 1)).2 true := by
  rw [show s.size + 1 - k = (s.size - k) + 1 from by omega, pcs, if_pos hk, if_neg (by rw [h]; decide), if_neg (by rw [h]; decide), if_pos ⟨h, rfl⟩, if_pos h0]
theorem pcs_open {s : ByteArray} {k : Nat} (hk : k < s.size) (h : gb s k = 91) (h0 : (rdSet s (k + 1)).2 = 0) : pcs s (s.size + 1 - k) k true = itLit (rb s k) :: pcs s (s.size - k) (rbn s k) false := by
  rw [show s.size + 1 - k = (s.size - k) + 1 from by omega, pcs, if_pos hk, if_neg (by rw [h]; decide), if_neg (by rw [h]; decide), if_pos ⟨h, rfl⟩, if_neg (by simp [h0])]
theorem pcs_lit {s : ByteArray} {k : Nat} {cl : Bool} (hk : k < s.size) (h1 : gb s k ≠ 42) (h2 : gb s k ≠ 63) (h3 : ¬ (gb s k = 91 ∧ cl = true)) : pcs s (s.size + 1 - k) k cl = itLit (rb s k) :: pcs s (s.size - k) (rbn s k) cl := by
  rw [show s.size + 1 - k = (s.size - k) + 1 from by omega, pcs, if_pos hk, if_neg h1, if_neg h2, if_neg h3]

theorem zlt (n : Nat) (h : n < 18446744073709551616) : ∀ q, (fun _ : Nat => n) q < 18446744073709551616 := fun _ => h
theorem zv_lt : ∀ q, zv q < 18446744073709551616 := fun _ => Nat.zero_lt_succ _

set_option maxRecDepth 100000 in
set_option maxHeartbeats 4000000 in
theorem pieces_core (s : ByteArray) (w : World) (hs : s.size ≤ 100000) (P : List It) (HP0 : Hid (pcs s (s.size + 1) 0 true = P)) :
    Calls Try.prog 22 #[.string s] w (PcsPost w P) := by
  obtain ⟨i0, hi, hz0, hz1, hz2⟩ := info_parts info60
  go_enter Try.func22, Try.ntmps22
  go_wp2_with fail
  go_loopw [3, 4, 5] (fun a b c wr => ∃ (k : Nat) (cl : Bool) (ps : List Pc), c = .int .i64 k ∧ b = .bool cl ∧ PcsRel s w wr P a k cl ps) (fun _ _ c _ => s.size - (intOf c).toNat)
  case atStart => exact ⟨0, true, [], rfl, rfl, Nat.zero_le _, World.ownsRow_nil _ _ _ _, Nat.zero_le _, Below.refl _ _, fun p h => by simp at h, HP0.out⟩
  case round =>
    obtain ⟨k, cl, ps, rfl, rfl, hk, hown, hpl, hB, hv, hP⟩ := hrel
    have HV := Lib.hid hv
    have HP := Lib.hid hP
    clear hv hP HP0
    by_cases hlt : k < s.size
    · have hbk := gb_eq s k hlt
      by_cases h42 : gb s k = 42
      · have HE := Lib.hid (pcs_star (cl := cl) hlt h42)
        go_wp2_with (at_builtin; refine wpList_append_own _ rfl _ _ 39 rfl w.heap.size 60 i0 (.agg #[.int .i64 0, .int .u8 0, .int .u64 0, .int .u64 0, .int .u64 0, .int .u64 0]) 6 48 Try.underlying39 hi hz0 hz1 hz2 rfl (by decide) _ _ _ rfl (hown.alloc _) ⟨wr.heap.size, 0, none⟩ 1 1 [.int .i64 3, .int .u8 0, .int .u64 0, .int .u64 0, .int .u64 0, .int .u64 0] rfl rfl ?c1 ?c2 ?c3 ?c4 ?c5 ?_)
        case c1 =>
          intro j u hj
          match j, hj with
          | 0, hj => simp at hj; subst hj; simp [Addr.add]
          | 1, hj => simp at hj; subst hj; simp [Addr.add]
          | 2, hj => simp at hj; subst hj; simp [Addr.add]
          | 3, hj => simp at hj; subst hj; simp [Addr.add]
          | 4, hj => simp at hj; subst hj; simp [Addr.add]
          | 5, hj => simp at hj; subst hj; simp [Addr.add]
        case c2 => intro u hu; simp at hu; rcases hu with rfl | rfl | rfl | rfl | rfl | rfl <;> rfl
        case c3 => unfold maxLen; omega
        case c4 => omega
        case c5 => first | (have := hB.size; simp; omega) | (have := hBB.size; simp; omega)
        intro v' w1 hown' hgrow _
        have HR := Lib.hid (PcsRel.next (p := ⟨3, 0, zv⟩) hlt (Nat.lt_succ_self k) hlt hown hpl HV.out HP.out zv_lt rfl HE.out (hB.alloc hB.size _) hown' hgrow)
        clear hown' hgrow
        go_wp2_with fail
        go_roundw
        case rel => exact ⟨k + 1, cl, _, by go_num, rfl, HR.out⟩
        case measure => simp [intOf]; omega
      · have h42' := sz_ne (n := 42) (by decide) h42
        by_cases h63 : gb s k = 63
        · have HE := Lib.hid (pcs_one (cl := cl) hlt h63)
          clear h42 h42'
          go_wp2_with (at_builtin; refine wpList_append_own _ rfl _ _ 39 rfl w.heap.size 60 i0 (.agg #[.int .i64 0, .int .u8 0, .int .u64 0, .int .u64 0, .int .u64 0, .int .u64 0]) 6 48 Try.underlying39 hi hz0 hz1 hz2 rfl (by decide) _ _ _ rfl (hown.alloc _) ⟨wr.heap.size, 0, none⟩ 1 1 [.int .i64 1, .int .u8 0, .int .u64 0, .int .u64 0, .int .u64 0, .int .u64 0] rfl rfl ?c1 ?c2 ?c3 ?c4 ?c5 ?_)
          case c1 =>
            intro j u hj
            match j, hj with
            | 0, hj => simp at hj; subst hj; simp [Addr.add]
            | 1, hj => simp at hj; subst hj; simp [Addr.add]
            | 2, hj => simp at hj; subst hj; simp [Addr.add]
            | 3, hj => simp at hj; subst hj; simp [Addr.add]
            | 4, hj => simp at hj; subst hj; simp [Addr.add]
            | 5, hj => simp at hj; subst hj; simp [Addr.add]
          case c2 => intro u hu; simp at hu; rcases hu with rfl | rfl | rfl | rfl | rfl | rfl <;> rfl
          case c3 => unfold maxLen; omega
          case c4 => omega
          case c5 => first | (have := hB.size; simp; omega) | (have := hBB.size; simp; omega)
          intro v' w1 hown' hgrow _
          have HR := Lib.hid (PcsRel.next (p := ⟨1, 0, zv⟩) hlt (Nat.lt_succ_self k) hlt hown hpl HV.out HP.out zv_lt rfl HE.out (hB.alloc hB.size _) hown' hgrow)
          clear hown' hgrow
          go_wp2_with fail
          go_roundw
          case rel => exact ⟨k + 1, cl, _, by go_num, rfl, HR.out⟩
          case measure => simp [intOf]; omega
        · have h63' := sz_ne (n := 63) (by decide) h63
          by_cases h91 : gb s k = 91 ∧ cl = true
          · obtain ⟨h91, rfl⟩ := h91
            have H42 := Lib.hid h42
            have H63 := Lib.hid h63
            clear h42 h63 h42' h63'
            have ht : ((k : Int) + 1).toNat = k + 1 := by omega
            have hbd := rdSet_bound s (k + 1)
            by_cases h0 : (rdSet s (k + 1)).2 = 0
            · have HE := Lib.hid (pcs_open hlt h91 h0)
              have hrb := rbn_le s k hlt
              clear hbd
              go_wp2_with fail
              refine (readSet_int s _ _ hs (by omega) (by omega)).mono ?_
              rintro e w2 ⟨v, hv, rfl, hsb, hB2⟩
              have hown2 := hown.kept (gb_below hB2) (own_em _)
              have hBB := hB.trans (hB2.mono hB.size)
              clear hsb hv
              go_wp2_with (first | (go_at_call 35; refine (readByte_int s _ _ hs (by omega) (by omega)).mono ?_; rintro e w' ⟨rfl, rfl⟩) | (at_builtin; refine wpList_append_own _ rfl _ _ 39 rfl w.heap.size 60 i0 (.agg #[.int .i64 0, .int .u8 0, .int .u64 0, .int .u64 0, .int .u64 0, .int .u64 0]) 6 48 Try.underlying39 hi hz0 hz1 hz2 rfl (by decide) _ _ _ rfl ((hown2.alloc _).alloc _) ⟨w2.heap.size + 1, 0, none⟩ 1 1 [.int .i64 0, .int .u8 (rb s k).toNat, .int .u64 0, .int .u64 0, .int .u64 0, .int .u64 0] rfl rfl ?c1 ?c2 ?c3 ?c4 ?c5 ?_))
              case c1 =>
                intro j u hj
                match j, hj with
                | 0, hj => simp at hj; subst hj; simp [Addr.add]
                | 1, hj => simp at hj; subst hj; simp [Addr.add]
                | 2, hj => simp at hj; subst hj; simp [Addr.add]
                | 3, hj => simp at hj; subst hj; simp [Addr.add]
                | 4, hj => simp at hj; subst hj; simp [Addr.add]
                | 5, hj => simp at hj; subst hj; simp [Addr.add]
              case c2 => intro u hu; simp at hu; rcases hu with rfl | rfl | rfl | rfl | rfl | rfl <;> rfl
              case c3 => unfold maxLen; omega
              case c4 => omega
              case c5 => first | (have := hB.size; simp; omega) | (have := hBB.size; simp; omega)
              intro v' w1 hown' hgrow _
              have hBB2 := (hBB.alloc hBB.size (.cells #[.int .u64 (v 0), .int .u64 (v 1), .int .u64 (v 2), .int .u64 (v 3)] 58)).alloc (by have := hBB.size; simp; omega) (.cells #[.int .i64 0, .int .u8 (rb s k).toNat, .int .u64 0, .int .u64 0, .int .u64 0, .int .u64 0] 60)
              have HR := Lib.hid (PcsRel.next (p := ⟨0, rb s k, zv⟩) hlt (by omega) (by omega) hown hpl HV.out HP.out zv_lt rfl HE.out hBB2 hown' hgrow)
              clear hown' hgrow hBB2
              go_wp2_with fail
              go_roundw
              case rel => exact ⟨_, false, _, rfl, rfl, HR.out⟩
              case measure => simp [intOf]; omega
            · have HE := Lib.hid (pcs_set hlt h91 h0)
              have H0 := Lib.hid h0
              have hlt2 := hbd.2 h0
              have hb1 := hbd.1
              clear hbd h0
              go_wp2_with fail
              refine (readSet_int s _ _ hs (by omega) (by omega)).mono ?_
              rintro e w2 ⟨v, hv, rfl, hsb, hB2⟩
              rw [ht] at hsb
              have hown2 := hown.kept (gb_below hB2) (own_em _)
              have hBB := hB.trans (hB2.mono hB.size)
              have HSB := Lib.hid (hsb H0.out)
              have HVV := Lib.hid hv
              clear hsb hv
              go_wp2_with (at_builtin; refine wpList_append_own _ rfl _ _ 39 rfl w.heap.size 60 i0 (.agg #[.int .i64 0, .int .u8 0, .int .u64 0, .int .u64 0, .int .u64 0, .int .u64 0]) 6 48 Try.underlying39 hi hz0 hz1 hz2 rfl (by decide) _ _ _ rfl ((hown2.alloc _).alloc _) ⟨w2.heap.size + 1, 0, none⟩ 1 1 [.int .i64 2, .int .u8 0, .int .u64 (v 0), .int .u64 (v 1), .int .u64 (v 2), .int .u64 (v 3)] rfl rfl ?c1 ?c2 ?c3 ?c4 ?c5 ?_)
              case c1 =>
                intro j u hj
                match j, hj with
                | 0, hj => simp at hj; subst hj; simp [Addr.add]
                | 1, hj => simp at hj; subst hj; simp [Addr.add]
                | 2, hj => simp at hj; subst hj; simp [Addr.add]
                | 3, hj => simp at hj; subst hj; simp [Addr.add]
                | 4, hj => simp at hj; subst hj; simp [Addr.add]
                | 5, hj => simp at hj; subst hj; simp [Addr.add]
              case c2 => intro u hu; simp at hu; rcases hu with rfl | rfl | rfl | rfl | rfl | rfl <;> rfl
              case c3 => unfold maxLen; omega
              case c4 => omega
              case c5 => first | (have := hB.size; simp; omega) | (have := hBB.size; simp; omega)
              intro v' w1 hown' hgrow _
              have hBB2 := (hBB.alloc hBB.size (.cells #[.int .u64 (v 0), .int .u64 (v 1), .int .u64 (v 2), .int .u64 (v 3)] 58)).alloc (by have := hBB.size; simp; omega) (.cells #[.int .i64 2, .int .u8 0, .int .u64 (v 0), .int .u64 (v 1), .int .u64 (v 2), .int .u64 (v 3)] 60)
              have HR := Lib.hid (PcsRel.next (p := ⟨2, 0, v⟩) hlt (by omega) hb1 hown hpl HV.out HP.out HVV.out (tk_set v _ HSB.out) HE.out hBB2 hown' hgrow)
              clear hown' hgrow hBB2
              go_wp2_with fail
              go_roundw
              case rel => exact ⟨_, true, _, rfl, rfl, HR.out⟩
              case measure => simp [intOf]; omega
          · have hrb := rbn_le s k hlt
            have HE := Lib.hid (pcs_lit hlt h42 h63 h91)
            have hcase : (cl = false ∧ gb s k = 91) ∨ (((gb s k).toNat : Int) == 91) = false := by
              by_cases h : gb s k = 91
              · left; refine ⟨?_, h⟩
                cases cl
                · rfl
                · exact absurd ⟨h, rfl⟩ h91
              · right; exact sz_ne (n := 91) (by decide) h
            clear h42 h63 h91
            rcases hcase with ⟨rfl, h91⟩ | h91
            · go_wp2_with (first | (go_at_call 35; refine (readByte_int s _ _ hs (by omega) (by omega)).mono ?_; rintro e w' ⟨rfl, rfl⟩) | (at_builtin; refine wpList_append_own _ rfl _ _ 39 rfl w.heap.size 60 i0 (.agg #[.int .i64 0, .int .u8 0, .int .u64 0, .int .u64 0, .int .u64 0, .int .u64 0]) 6 48 Try.underlying39 hi hz0 hz1 hz2 rfl (by decide) _ _ _ rfl (hown.alloc _) ⟨wr.heap.size, 0, none⟩ 1 1 [.int .i64 0, .int .u8 (rb s k).toNat, .int .u64 0, .int .u64 0, .int .u64 0, .int .u64 0] rfl rfl ?c1 ?c2 ?c3 ?c4 ?c5 ?_))
              case c1 =>
                intro j u hj
                match j, hj with
                | 0, hj => simp at hj; subst hj; simp [Addr.add]
                | 1, hj => simp at hj; subst hj; simp [Addr.add]
                | 2, hj => simp at hj; subst hj; simp [Addr.add]
                | 3, hj => simp at hj; subst hj; simp [Addr.add]
                | 4, hj => simp at hj; subst hj; simp [Addr.add]
                | 5, hj => simp at hj; subst hj; simp [Addr.add]
              case c2 => intro u hu; simp at hu; rcases hu with rfl | rfl | rfl | rfl | rfl | rfl <;> rfl
              case c3 => unfold maxLen; omega
              case c4 => omega
              case c5 => first | (have := hB.size; simp; omega) | (have := hBB.size; simp; omega)
              intro v' w1 hown' hgrow _
              have HR := Lib.hid (PcsRel.next (p := ⟨0, rb s k, zv⟩) hlt (by omega) (by omega) hown hpl HV.out HP.out zv_lt rfl HE.out (hB.alloc hB.size _) hown' hgrow)
              clear hown' hgrow
              go_wp2_with fail
              go_roundw
              case rel => exact ⟨_, false, _, rfl, rfl, HR.out⟩
              case measure => simp [intOf]; omega
            · go_wp2_with (first | (go_at_call 35; refine (readByte_int s _ _ hs (by omega) (by omega)).mono ?_; rintro e w' ⟨rfl, rfl⟩) | (at_builtin; refine wpList_append_own _ rfl _ _ 39 rfl w.heap.size 60 i0 (.agg #[.int .i64 0, .int .u8 0, .int .u64 0, .int .u64 0, .int .u64 0, .int .u64 0]) 6 48 Try.underlying39 hi hz0 hz1 hz2 rfl (by decide) _ _ _ rfl (hown.alloc _) ⟨wr.heap.size, 0, none⟩ 1 1 [.int .i64 0, .int .u8 (rb s k).toNat, .int .u64 0, .int .u64 0, .int .u64 0, .int .u64 0] rfl rfl ?c1 ?c2 ?c3 ?c4 ?c5 ?_))
              case c1 =>
                intro j u hj
                match j, hj with
                | 0, hj => simp at hj; subst hj; simp [Addr.add]
                | 1, hj => simp at hj; subst hj; simp [Addr.add]
                | 2, hj => simp at hj; subst hj; simp [Addr.add]
                | 3, hj => simp at hj; subst hj; simp [Addr.add]
                | 4, hj => simp at hj; subst hj; simp [Addr.add]
                | 5, hj => simp at hj; subst hj; simp [Addr.add]
              case c2 => intro u hu; simp at hu; rcases hu with rfl | rfl | rfl | rfl | rfl | rfl <;> rfl
              case c3 => unfold maxLen; omega
              case c4 => omega
              case c5 => first | (have := hB.size; simp; omega) | (have := hBB.size; simp; omega)
              intro v' w1 hown' hgrow _
              have HR := Lib.hid (PcsRel.next (p := ⟨0, rb s k, zv⟩) hlt (by omega) (by omega) hown hpl HV.out HP.out zv_lt rfl HE.out (hB.alloc hB.size _) hown' hgrow)
              clear hown' hgrow
              go_wp2_with fail
              go_roundw
              case rel => exact ⟨_, cl, _, rfl, rfl, HR.out⟩
              case measure => simp [intOf]; omega
    · have HPS : Hid (ps.map sem = P) := by
        have := HP.out
        rw [show s.size + 1 - k = (s.size - k) + 1 from by omega, pcs, if_neg hlt, List.append_nil] at this
        exact this
      go_wp2_with fail
      go_ret
      exact ⟨_, ps, rfl, hown, HV.out, HPS.out, by omega, hB⟩
end Go.Proofs.Ytpgaeldjiiaoiaa
