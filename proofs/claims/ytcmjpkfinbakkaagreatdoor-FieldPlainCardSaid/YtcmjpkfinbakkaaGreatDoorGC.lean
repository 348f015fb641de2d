import Derived.Test.YtcmjpkfinbakkaaGreatDoorFU
namespace Go.Proofs.YtcmjpkfinbakkaaGreatDoor.Gb
open Go.RowKit

structure Pc where
  kind : Nat
  ch : UInt8
  v : Nat → Nat

def Pc.cs (p : Pc) : List Value := [.int .i64 p.kind, .int .u8 p.ch.toNat, .int .u64 (p.v 0), .int .u64 (p.v 1), .int .u64 (p.v 2), .int .u64 (p.v 3)]

structure PcAt (w : World) (g off : Nat) (p : Pc) : Prop where
  c0 : w.cell? ⟨g, off, none⟩ = some (.int .i64 p.kind)
  c1 : w.cell? ⟨g, off + 1, none⟩ = some (.int .u8 p.ch.toNat)
  c2 : ∀ q, q < 4 → w.cell? ⟨g, off + 2 + q, none⟩ = some (.int .u64 (p.v q))
  lt : ∀ q, p.v q < 18446744073709551616

def tk (p : Pc) (c : UInt8) : Bool := if p.kind = 0 then p.ch.toNat == c.toNat else if p.kind = 2 then sbit p.v c.toNat else true

set_option maxHeartbeats 400000 in
theorem takes_any (g off : Nat) (p : Pc) (c : UInt8) (w : World) (h : PcAt w g off p) :
    Calls Tryz.prog 234 #[.pointer (some ⟨g, off, none⟩), .int .u8 c.toNat] w fun e w' => e = .returned (.bool (tk p c)) ∧ w = w' := by
  obtain ⟨c0, c1, c2, lt⟩ := h
  have C2 := Lib.hid c2
  have LT := Lib.hid lt
  clear c2 lt
  by_cases h0 : p.kind = 0
  · have h0' : ((p.kind : Int) == 0) = true := by simp [h0]
    have HT : Hid (tk p c = (p.ch.toNat == c.toNat)) := by unfold Hid tk; rw [if_pos h0]
    clear h0
    go_enter Tryz.func234, Tryz.ntmps234
    go_wp2
    go_ret
    refine ⟨?_, rfl⟩
    rw [HT.out]
    exact congrArg (fun x => Ending.returned (.bool x)) (show ((p.ch.toNat : Int) == (c.toNat : Int)) = (p.ch.toNat == c.toNat) from by rw [Bool.eq_iff_iff]; simp; omega)
  · have h0' : ((p.kind : Int) == 0) = false := by simp [h0]
    by_cases h2 : p.kind = 2
    · have h2' : ((p.kind : Int) == 2) = true := by simp [h2]
      have HT : Hid (tk p c = sbit p.v c.toNat) := by unfold Hid tk; rw [if_neg h0, if_pos h2]
      clear h0 h2
      go_enter Tryz.func234, Tryz.ntmps234
      go_wp2_with (go_at_call 267; refine (has_any _ p.v _ _ _ (by exact c.toNat_lt) LT.out C2.out).mono ?_; rintro e w' ⟨rfl, rfl⟩)
      go_ret
      refine ⟨?_, rfl⟩
      rw [HT.out]; rfl
    · have h2' : ((p.kind : Int) == 2) = false := by rw [beq_eq_false_iff_ne]; omega
      have HT : Hid (tk p c = true) := by unfold Hid tk; rw [if_neg h0, if_neg h2]
      clear h0 h2
      go_enter Tryz.func234, Tryz.ntmps234
      go_wp2
      go_ret
      refine ⟨?_, rfl⟩
      rw [HT.out]; rfl

/-- What a set that begins at i holds, and where it ends; 0: nowhere. -/
def rs (s : ByteArray) : Nat → Nat → Bool → (Nat → Bool) → (Nat → Bool) × Nat
  | 0, _, _, _ => (fun _ => false, 0)
  | n + 1, i, first, f =>
    if i < s.size then
      if gb s i = 93 ∧ first = false then (f, i + 1)
      else if rbn s i + 1 < s.size ∧ gb s (rbn s i) = 45 ∧ gb s (rbn s i + 1) ≠ 93 then
        rs s n (rbn s (rbn s i + 1)) false (fun c => f c || (decide ((rb s i).toNat ≤ c) && decide (c ≤ (rb s (rbn s i + 1)).toNat)))
      else rs s n (rbn s i) false (fun c => f c || (decide ((rb s i).toNat ≤ c) && decide (c ≤ (rb s i).toNat)))
    else (fun _ => false, 0)

theorem readByte_int (s : ByteArray) (a : Int) (w : World) (hs : s.size ≤ 100000) (h0 : 0 ≤ a) (hi : a < s.size) :
    Calls Tryz.prog 129 #[.string s, .int .i64 a] w fun e w' => e = .returned (.tuple #[.int .u8 (rb s a.toNat).toNat, .int .i64 (rbn s a.toNat)]) ∧ w = w' := by
  obtain ⟨n, rfl⟩ := Int.eq_ofNat_of_zero_le h0
  exact readByte_any s n w hs (by omega)

theorem rbn_le (s : ByteArray) (i : Nat) (h : i < s.size) : i < rbn s i ∧ rbn s i ≤ s.size := by
  unfold rbn; split <;> omega

/-- What readSet leaves: the words of f (or of its contrary), and the place behind. -/
def RsPost (w : World) (nb : Bool) (r : (Nat → Bool) × Nat) (e : Ending) (w' : World) : Prop :=
  ∃ v : Nat → Nat, (∀ j, v j < 18446744073709551616) ∧ e = .returned (.tuple #[.agg #[.int .u64 (v 0), .int .u64 (v 1), .int .u64 (v 2), .int .u64 (v 3)], .int .i64 r.2]) ∧
    (r.2 ≠ 0 → ∀ c, c < 256 → sbit v c = (r.1 c != nb)) ∧ (r.2 = 0 → v = fun _ => 0) ∧ Below w.heap.size w w'

def zv : Nat → Nat := fun _ => 0
theorem sbit_zv (c : Nat) : sbit zv c = false := by simp [sbit, zv]

/-- The relation of readSet's loop. -/
def RsRel (s : ByteArray) (R : (Nat → Bool) × Nat) (w wr : World) (k : Nat) (fb : Bool) (v : Nat → Nat) (f : Nat → Bool) : Prop :=
  k ≤ s.size ∧ SetAt wr (w.heap.size + 1) v ∧ SetAt wr w.heap.size zv ∧ Below w.heap.size w wr ∧ (∀ c, sbit v c = f c) ∧
  rs s (s.size + 1 - k) k fb f = R

theorem rs_end (s : ByteArray) (k : Nat) (fb : Bool) (f : Nat → Bool) (n : Nat) (h : ¬ k < s.size) : rs s (n + 1) k fb f = (fun _ => false, 0) := by
  rw [rs, if_neg h]

/-- The four words written over a set, one behind the other. -/
theorem SetAt.over {w : World} {b : Nat} {z v : Nat → Nat} (h : SetAt w b z) (hv : ∀ j, v j < 18446744073709551616) :
    SetAt ((((w.setCell ⟨b, 0, none⟩ (.int .u64 (v 0))).setCell ⟨b, 1, none⟩ (.int .u64 (v 1))).setCell ⟨b, 2, none⟩ (.int .u64 (v 2))).setCell ⟨b, 3, none⟩ (.int .u64 (v 3))) b
      (upd (upd (upd (upd z 0 (v 0)) 1 (v 1)) 2 (v 2)) 3 (v 3)) :=
  (((h.set (q := 0) (by decide) (hv 0)).set (q := 1) (by decide) (hv 1)).set (q := 2) (by decide) (hv 2)).set (q := 3) (by decide) (hv 3)

theorem Below.over {B : Nat} {a w : World} {b : Nat} {v : Nat → Nat} (h : Below B a w) (hb : B ≤ b) :
    Below B a ((((w.setCell ⟨b, 0, none⟩ (.int .u64 (v 0))).setCell ⟨b, 1, none⟩ (.int .u64 (v 1))).setCell ⟨b, 2, none⟩ (.int .u64 (v 2))).setCell ⟨b, 3, none⟩ (.int .u64 (v 3))) :=
  (((h.setCell (p := ⟨b, 0, none⟩) hb _).setCell (p := ⟨b, 1, none⟩) hb _).setCell (p := ⟨b, 2, none⟩) hb _).setCell (p := ⟨b, 3, none⟩) hb _

def nbOf (s : ByteArray) (i : Nat) : Bool := decide (i < s.size ∧ gb s i = 33)
def iOf (nb : Bool) (i : Nat) : Nat := if nb = true then i + 1 else i

theorem rs_close (s : ByteArray) (k : Nat) (f : Nat → Bool) (n : Nat) (h : k < s.size) (h93 : gb s k = 93) : rs s (n + 1) k false f = (f, k + 1) := by
  rw [rs, if_pos h, if_pos ⟨h93, rfl⟩]

theorem rs_span (s : ByteArray) (k : Nat) (fb : Bool) (f : Nat → Bool) (n : Nat) (h : k < s.size) (h93 : ¬ (gb s k = 93 ∧ fb = false))
    (h1 : rbn s k + 1 < s.size ∧ gb s (rbn s k) = 45 ∧ gb s (rbn s k + 1) ≠ 93) :
    rs s (n + 1) k fb f = rs s n (rbn s (rbn s k + 1)) false (fun c => f c || (decide ((rb s k).toNat ≤ c) && decide (c ≤ (rb s (rbn s k + 1)).toNat))) := by
  rw [rs, if_pos h, if_neg h93, if_pos h1]

theorem rs_one (s : ByteArray) (k : Nat) (fb : Bool) (f : Nat → Bool) (n : Nat) (h : k < s.size) (h93 : ¬ (gb s k = 93 ∧ fb = false))
    (h1 : ¬ (rbn s k + 1 < s.size ∧ gb s (rbn s k) = 45 ∧ gb s (rbn s k + 1) ≠ 93)) :
    rs s (n + 1) k fb f = rs s n (rbn s k) false (fun c => f c || (decide ((rb s k).toNat ≤ c) && decide (c ≤ (rb s k).toNat))) := by
  rw [rs, if_pos h, if_neg h93, if_neg h1]

/-- More fuel than bytes: the same. -/
theorem rs_fuel (s : ByteArray) : ∀ (n m k : Nat) (fb : Bool) (f : Nat → Bool), s.size < n + k → s.size < m + k → rs s n k fb f = rs s m k fb f := by
  intro n
  induction n with
  | zero =>
    intro m k fb f h1 h2
    cases m with
    | zero => rfl
    | succ m => rw [rs_end s k fb f m (by omega)]; rfl
  | succ n ih =>
    intro m k fb f h1 h2
    cases m with
    | zero => rw [rs_end s k fb f n (by omega)]; rfl
    | succ m =>
      by_cases hk : k < s.size
      · have b1 := rbn_le s k hk
        by_cases h93 : gb s k = 93 ∧ fb = false
        · rw [rs, rs, if_pos hk, if_pos hk, if_pos h93, if_pos h93]
        · by_cases hs : rbn s k + 1 < s.size ∧ gb s (rbn s k) = 45 ∧ gb s (rbn s k + 1) ≠ 93
          · have b2 := rbn_le s (rbn s k + 1) hs.1
            rw [rs_span s k fb f n hk h93 hs, rs_span s k fb f m hk h93 hs]
            exact ih _ _ _ _ (by omega) (by omega)
          · rw [rs_one s k fb f n hk h93 hs, rs_one s k fb f m hk h93 hs]
            exact ih _ _ _ _ (by omega) (by omega)
      · rw [rs_end s k fb f n hk, rs_end s k fb f m hk]

theorem sz_ne {c : UInt8} {n : Nat} (hn : n < 256) (h : c ≠ UInt8.ofNat n) : ((c.toNat : Int) == n) = false := by
  rw [beq_eq_false_iff_ne]; intro e; exact h ((u8_eq hn).1 e)

theorem RsPost.unclosed {w W : World} (nb : Bool) {R : (Nat → Bool) × Nat} (hR : R = (fun _ => false, 0)) (hB : Below w.heap.size w W) :
    RsPost w nb R (.returned (.tuple #[.agg #[.int .u64 (zv 0), .int .u64 (zv 1), .int .u64 (zv 2), .int .u64 (zv 3)], .int .i64 0])) W := by
  subst hR
  exact ⟨zv, fun _ => Nat.zero_lt_succ _, rfl, fun h => absurd rfl h, fun _ => rfl, hB⟩

theorem RsPost.closed {w W : World} {nb : Bool} {R : (Nat → Bool) × Nat} {f : Nat → Bool} {k : Nat} {v : Nat → Nat} (hR : R = (f, k + 1)) (hv : ∀ j, v j < 18446744073709551616)
    (hf : ∀ c, c < 256 → sbit v c = (f c != nb)) (hB : Below w.heap.size w W) :
    RsPost w nb R (.returned (.tuple #[.agg #[.int .u64 (v 0), .int .u64 (v 1), .int .u64 (v 2), .int .u64 (v 3)], .int .i64 ((k + 1 : Nat) : Int)])) W := by
  subst hR
  exact ⟨v, hv, rfl, fun _ => hf, fun h => by simp at h, hB⟩

theorem SetAt.grown {w w' : World} {b b' : Nat} {v : Nat → Nat} (h : SetAt w b v) (hg : w.grownBy w' (some b')) (hne : b ≠ b') : SetAt w' b v := by
  refine ⟨?_, h.2⟩
  have hlt : b < w.heap.size := by
    have := h.1
    exact (Array.getElem?_eq_some_iff.1 this).1
  rw [hg.block b hlt (by simp [hne])]; exact h.1

set_option maxHeartbeats 2000000 in
theorem readSet_core (s : ByteArray) (i : Nat) (w : World) (nb : Bool) (i0 : Nat) (R : (Nat → Bool) × Nat) (hs : s.size ≤ 100000) (hi : i ≤ s.size)
    (HN : Hid (nb = nbOf s i)) (HI : Hid (i0 = iOf nb i)) (HR0 : Hid (rs s (s.size + 1 - i0) i0 true (fun _ => false) = R)) :
    Calls Tryz.prog 128 #[.string s, .int .i64 i] w (RsPost w nb R) := by
  go_enter Tryz.func128, Tryz.ntmps128
  go_upto_region 2 with (fail)
  go_cut [7] (fun n wx => n = .bool nb ∧ wx = ((w.alloc
      (.cells #[.int .u64 0, .int .u64 0, .int .u64 0, .int .u64 0] 131)).alloc (.cells #[.int .u64 0, .int .u64 0, .int .u64 0, .int .u64 0] 131)))
  case first =>
    by_cases hnot : i < s.size
    · have hb0 := gb_eq s i hnot
      go_wp2_with fail
      go_meet
      refine ⟨congrArg Value.bool ?_, rfl⟩
      rw [HN.out]; unfold nbOf
      rw [Bool.eq_iff_iff]; simp [hnot]
      exact u8_eq (n := 33) (by decide)
    · go_wp2_with fail
      go_meet
      refine ⟨congrArg Value.bool ?_, rfl⟩
      rw [HN.out]; unfold nbOf
      simp [hnot]
  case rest => 
    obtain ⟨rfl, rfl⟩ := hcut
    have hio : nb = true → i < s.size := by intro h; rw [HN.out] at h; unfold nbOf at h; simp at h; exact h.1
    go_upto_if 22 with (fail)
    go_cut [1] (fun n wx => n = .int .i64 i0 ∧ wx = ((w.alloc
      (.cells #[.int .u64 0, .int .u64 0, .int .u64 0, .int .u64 0] 131)).alloc (.cells #[.int .u64 0, .int .u64 0, .int .u64 0, .int .u64 0] 131)))
    case first => 
      cases nb
      · go_wp2_with fail
        go_meet
        exact ⟨by rw [HI.out]; rfl, rfl⟩
      · go_wp2_with fail
        go_meet
        exact ⟨by rw [HI.out]; rfl, rfl⟩
    case rest => 
      obtain ⟨rfl, rfl⟩ := hcut
      have hio2 : i0 ≤ s.size := by
        rw [HI.out]
        unfold iOf; split
        · next h => have := hio h; omega
        · exact hi
      clear hio hi HN HI
      go_wp2_with fail
      go_loopw [1, 8] (fun a b wr => ∃ (k : Nat) (fb : Bool) (v : Nat → Nat) (f : Nat → Bool), a = .int .i64 k ∧ b = .bool fb ∧ RsRel s R w wr k fb v f) (fun a _ _ => s.size - (intOf a).toNat)
      case atStart =>
        have e1 : ∀ (o : Obj), (w.alloc o).heap.size = w.heap.size + 1 := fun o => by simp
        refine ⟨i0, true, zv, fun _ => false, rfl, rfl, hio2, ⟨?_, fun _ => Nat.zero_lt_succ _⟩, ⟨?_, fun _ => Nat.zero_lt_succ _⟩, ?_, fun c => sbit_zv c, HR0.out⟩
        · rw [← e1 (.cells #[.int .u64 0, .int .u64 0, .int .u64 0, .int .u64 0] 131)]
          exact heap_alloc_new _ _
        · rw [heap_alloc_old (h := by simp)]
          exact heap_alloc_new _ _
        · exact ((Below.refl _ _).alloc (Nat.le_refl _) _).alloc (by simp) _
      case round =>
        obtain ⟨k, fb, v, f, rfl, rfl, hk, hv, hz, hB, hf, hR⟩ := hrel
        have HR := Lib.hid hR
        have HF := Lib.hid hf
        clear hR hf HR0 hio2
        have hsz : w.heap.size + 1 < wr.heap.size := (Array.getElem?_eq_some_iff.1 hv.1).1
        by_cases hlt : k < s.size
        · have hbk := gb_eq s k hlt
          have hfu : s.size + 1 - k = (s.size - k) + 1 := by omega
          have HFU := Lib.hid hfu
          clear hfu
          by_cases hend : gb s k = 93 ∧ fb = false
          · obtain ⟨h93, rfl⟩ := hend
            have HE : Hid (R = (f, k + 1)) := by
              have := HR.out
              rw [HFU.out, rs_close s k f _ hlt h93] at this
              exact this.symm
            cases nb
            · have c0 := hv.cell (q := 0) (by decide)
              have c1 := hv.cell (q := 1) (by decide)
              have c2 := hv.cell (q := 2) (by decide)
              have c3 := hv.cell (q := 3) (by decide)
              have z0 := hz.cell (q := 0) (by decide)
              have z1 := hz.cell (q := 1) (by decide)
              have z2 := hz.cell (q := 2) (by decide)
              have z3 := hz.cell (q := 3) (by decide)
              have y0 := hz.free 0
              have y1 := hz.free 1
              have y2 := hz.free 2
              have y3 := hz.free 3
              go_wp2_with fail
              have hW := hz.over hv.2
              have hBW := Below.over (v := v) hB (Nat.le_refl _)
              generalize (((wr.setCell ⟨w.heap.size, 0, none⟩ (.int .u64 (v 0))).setCell ⟨w.heap.size, 1, none⟩ (.int .u64 (v 1))).setCell ⟨w.heap.size, 2, none⟩ (.int .u64 (v 2))).setCell ⟨w.heap.size, 3, none⟩ (.int .u64 (v 3)) = W at *
              have d0 : W.cell? ⟨w.heap.size, 0, none⟩ = some (.int .u64 (v 0)) := hW.cell (q := 0) (by decide)
              have d1 : W.cell? ⟨w.heap.size, 1, none⟩ = some (.int .u64 (v 1)) := hW.cell (q := 1) (by decide)
              have d2 : W.cell? ⟨w.heap.size, 2, none⟩ = some (.int .u64 (v 2)) := hW.cell (q := 2) (by decide)
              have d3 : W.cell? ⟨w.heap.size, 3, none⟩ = some (.int .u64 (v 3)) := hW.cell (q := 3) (by decide)
              refine bodyPost_ret (v := .tuple #[.agg #[.int .u64 (v 0), .int .u64 (v 1), .int .u64 (v 2), .int .u64 (v 3)], .int .i64 ((k + 1 : Nat) : Int)]) ?_ rfl ?_
              · simp [results, Tryz.results32, go_sem, d0, d1, d2, d3]
              · exact RsPost.closed HE.out hv.2 (fun c _ => by rw [HF.out]; simp) hBW
            · go_wp2_with fail
              refine (invert_any _ v _ hv).mono ?_
              rintro e w' ⟨rfl, hg, v', hv', hb'⟩
              have hz' := hz.grown hg (by omega)
              have hB' : Below w.heap.size w w' := hB.grown hg (by omega) (fun k h => by cases h; omega)
              have HB' := Lib.hid hb'
              clear hb'
              have c0 := hv'.cell (q := 0) (by decide)
              have c1 := hv'.cell (q := 1) (by decide)
              have c2 := hv'.cell (q := 2) (by decide)
              have c3 := hv'.cell (q := 3) (by decide)
              have z0 := hz'.cell (q := 0) (by decide)
              have z1 := hz'.cell (q := 1) (by decide)
              have z2 := hz'.cell (q := 2) (by decide)
              have z3 := hz'.cell (q := 3) (by decide)
              have y0 := hz'.free 0
              have y1 := hz'.free 1
              have y2 := hz'.free 2
              have y3 := hz'.free 3
              go_wp2_with fail
              have hW := hz'.over hv'.2
              have hBW := Below.over (v := v') hB' (Nat.le_refl _)
              generalize (((w'.setCell ⟨w.heap.size, 0, none⟩ (.int .u64 (v' 0))).setCell ⟨w.heap.size, 1, none⟩ (.int .u64 (v' 1))).setCell ⟨w.heap.size, 2, none⟩ (.int .u64 (v' 2))).setCell ⟨w.heap.size, 3, none⟩ (.int .u64 (v' 3)) = W at *
              have d0 : W.cell? ⟨w.heap.size, 0, none⟩ = some (.int .u64 (v' 0)) := hW.cell (q := 0) (by decide)
              have d1 : W.cell? ⟨w.heap.size, 1, none⟩ = some (.int .u64 (v' 1)) := hW.cell (q := 1) (by decide)
              have d2 : W.cell? ⟨w.heap.size, 2, none⟩ = some (.int .u64 (v' 2)) := hW.cell (q := 2) (by decide)
              have d3 : W.cell? ⟨w.heap.size, 3, none⟩ = some (.int .u64 (v' 3)) := hW.cell (q := 3) (by decide)
              refine bodyPost_ret (v := .tuple #[.agg #[.int .u64 (v' 0), .int .u64 (v' 1), .int .u64 (v' 2), .int .u64 (v' 3)], .int .i64 ((k + 1 : Nat) : Int)]) ?_ rfl ?_
              · simp [results, Tryz.results32, go_sem, d0, d1, d2, d3]
              · exact RsPost.closed HE.out hv'.2 (fun c hc => by rw [HB'.out c hc, HF.out]; simp) hBW
          · have b1 := rbn_le s k hlt
            have HEND := Lib.hid hend
            have hcase : (gb s k = 93 ∧ fb = true) ∨ (((gb s k).toNat : Int) == 93) = false := by
              by_cases h : gb s k = 93
              · left; refine ⟨h, ?_⟩
                cases fb
                · exact absurd ⟨h, rfl⟩ hend
                · rfl
              · right; exact sz_ne (n := 93) (by decide) h
            clear hend
            have ht : ((↑(rbn s k) : Int) + 1).toNat = rbn s k + 1 := by omega
            by_cases hsp : rbn s k + 1 < s.size ∧ gb s (rbn s k) = 45 ∧ gb s (rbn s k + 1) ≠ 93
            · have HSP := Lib.hid hsp
              obtain ⟨hs1, h45, h93n⟩ := hsp
              have b2 := rbn_le s (rbn s k + 1) hs1
              have e1 := gb_eq s (rbn s k) (by omega)
              have e2 := gb_eq s (rbn s k + 1) hs1
              have h93' : (((gb s (rbn s k + 1)).toNat : Int) != 93) = true := by
                have := sz_ne (n := 93) (by decide) h93n
                simp only [bne]; exact congrArg not this
              clear h93n
              rcases hcase with ⟨h93, rfl⟩ | h93
              · go_wp2_with (go_at_call 129; refine (readByte_int s _ _ hs (by omega) (by omega)).mono ?_; rintro e w' ⟨rfl, rfl⟩)
                refine (add_any _ v _ _ _ (UInt8.toNat_lt _) (UInt8.toNat_lt _) hv).mono ?_
                rintro e w' ⟨rfl, hg, v', hv', hb'⟩
                have hz' := hz.grown hg (by omega)
                have hB' : Below w.heap.size w w' := hB.grown hg (by omega) (fun k h => by cases h; omega)
                have HB' := Lib.hid hb'
                clear hb'
                go_wp2_with fail
                go_roundw
                case rel =>
                  refine ⟨_, false, v', _, rfl, rfl, by omega, hv', hz', hB', HB'.out, ?_⟩
                  have := HR.out
                  rw [HFU.out, rs_span s k _ f _ hlt HEND.out HSP.out] at this
                  rw [← this]
                  refine (rs_fuel s _ (s.size - k) _ _ _ (by omega) (by omega)).trans ?_
                  congr 1
                  funext c
                  rw [HF.out c]
                case measure => simp [intOf]; omega
              · go_wp2_with (go_at_call 129; refine (readByte_int s _ _ hs (by omega) (by omega)).mono ?_; rintro e w' ⟨rfl, rfl⟩)
                refine (add_any _ v _ _ _ (UInt8.toNat_lt _) (UInt8.toNat_lt _) hv).mono ?_
                rintro e w' ⟨rfl, hg, v', hv', hb'⟩
                have hz' := hz.grown hg (by omega)
                have hB' : Below w.heap.size w w' := hB.grown hg (by omega) (fun k h => by cases h; omega)
                have HB' := Lib.hid hb'
                clear hb'
                go_wp2_with fail
                go_roundw
                case rel =>
                  refine ⟨_, false, v', _, rfl, rfl, by omega, hv', hz', hB', HB'.out, ?_⟩
                  have := HR.out
                  rw [HFU.out, rs_span s k _ f _ hlt HEND.out HSP.out] at this
                  rw [← this]
                  refine (rs_fuel s _ (s.size - k) _ _ _ (by omega) (by omega)).trans ?_
                  congr 1
                  funext c
                  rw [HF.out c]
                case measure => simp [intOf]; omega
            · have HSP := Lib.hid hsp
              by_cases hs1 : rbn s k + 1 < s.size
              · have e1 := gb_eq s (rbn s k) (by omega)
                have e2 := gb_eq s (rbn s k + 1) hs1
                by_cases h45 : gb s (rbn s k) = 45
                · have h93x : gb s (rbn s k + 1) = 93 := by
                    by_cases h : gb s (rbn s k + 1) = 93
                    · exact h
                    · exact absurd ⟨hs1, h45, h⟩ hsp
                  clear hsp
                  rcases hcase with ⟨h93, rfl⟩ | h93
                  · go_wp2_with (go_at_call 129; refine (readByte_int s _ _ hs (by omega) (by omega)).mono ?_; rintro e w' ⟨rfl, rfl⟩)
                    refine (add_any _ v _ _ _ (UInt8.toNat_lt _) (UInt8.toNat_lt _) hv).mono ?_
                    rintro e w' ⟨rfl, hg, v', hv', hb'⟩
                    have hz' := hz.grown hg (by omega)
                    have hB' : Below w.heap.size w w' := hB.grown hg (by omega) (fun k h => by cases h; omega)
                    have HB' := Lib.hid hb'
                    clear hb'
                    go_wp2_with fail
                    go_roundw
                    case rel =>
                      refine ⟨_, false, v', _, rfl, rfl, by omega, hv', hz', hB', HB'.out, ?_⟩
                      have := HR.out
                      rw [HFU.out, rs_one s k _ f _ hlt HEND.out HSP.out] at this
                      rw [← this]
                      refine (rs_fuel s _ (s.size - k) _ _ _ (by omega) (by omega)).trans ?_
                      congr 1
                      funext c
                      rw [HF.out c]
                    case measure => simp [intOf]; omega
                  · go_wp2_with (go_at_call 129; refine (readByte_int s _ _ hs (by omega) (by omega)).mono ?_; rintro e w' ⟨rfl, rfl⟩)
                    refine (add_any _ v _ _ _ (UInt8.toNat_lt _) (UInt8.toNat_lt _) hv).mono ?_
                    rintro e w' ⟨rfl, hg, v', hv', hb'⟩
                    have hz' := hz.grown hg (by omega)
                    have hB' : Below w.heap.size w w' := hB.grown hg (by omega) (fun k h => by cases h; omega)
                    have HB' := Lib.hid hb'
                    clear hb'
                    go_wp2_with fail
                    go_roundw
                    case rel =>
                      refine ⟨_, false, v', _, rfl, rfl, by omega, hv', hz', hB', HB'.out, ?_⟩
                      have := HR.out
                      rw [HFU.out, rs_one s k _ f _ hlt HEND.out HSP.out] at this
                      rw [← this]
                      refine (rs_fuel s _ (s.size - k) _ _ _ (by omega) (by omega)).trans ?_
                      congr 1
                      funext c
                      rw [HF.out c]
                    case measure => simp [intOf]; omega
                · have h45' := sz_ne (n := 45) (by decide) h45
                  clear hsp h45
                  rcases hcase with ⟨h93, rfl⟩ | h93
                  · go_wp2_with (go_at_call 129; refine (readByte_int s _ _ hs (by omega) (by omega)).mono ?_; rintro e w' ⟨rfl, rfl⟩)
                    refine (add_any _ v _ _ _ (UInt8.toNat_lt _) (UInt8.toNat_lt _) hv).mono ?_
                    rintro e w' ⟨rfl, hg, v', hv', hb'⟩
                    have hz' := hz.grown hg (by omega)
                    have hB' : Below w.heap.size w w' := hB.grown hg (by omega) (fun k h => by cases h; omega)
                    have HB' := Lib.hid hb'
                    clear hb'
                    go_wp2_with fail
                    go_roundw
                    case rel =>
                      refine ⟨_, false, v', _, rfl, rfl, by omega, hv', hz', hB', HB'.out, ?_⟩
                      have := HR.out
                      rw [HFU.out, rs_one s k _ f _ hlt HEND.out HSP.out] at this
                      rw [← this]
                      refine (rs_fuel s _ (s.size - k) _ _ _ (by omega) (by omega)).trans ?_
                      congr 1
                      funext c
                      rw [HF.out c]
                    case measure => simp [intOf]; omega
                  · go_wp2_with (go_at_call 129; refine (readByte_int s _ _ hs (by omega) (by omega)).mono ?_; rintro e w' ⟨rfl, rfl⟩)
                    refine (add_any _ v _ _ _ (UInt8.toNat_lt _) (UInt8.toNat_lt _) hv).mono ?_
                    rintro e w' ⟨rfl, hg, v', hv', hb'⟩
                    have hz' := hz.grown hg (by omega)
                    have hB' : Below w.heap.size w w' := hB.grown hg (by omega) (fun k h => by cases h; omega)
                    have HB' := Lib.hid hb'
                    clear hb'
                    go_wp2_with fail
                    go_roundw
                    case rel =>
                      refine ⟨_, false, v', _, rfl, rfl, by omega, hv', hz', hB', HB'.out, ?_⟩
                      have := HR.out
                      rw [HFU.out, rs_one s k _ f _ hlt HEND.out HSP.out] at this
                      rw [← this]
                      refine (rs_fuel s _ (s.size - k) _ _ _ (by omega) (by omega)).trans ?_
                      congr 1
                      funext c
                      rw [HF.out c]
                    case measure => simp [intOf]; omega
              · clear hsp
                rcases hcase with ⟨h93, rfl⟩ | h93
                · go_wp2_with (go_at_call 129; refine (readByte_int s _ _ hs (by omega) (by omega)).mono ?_; rintro e w' ⟨rfl, rfl⟩)
                  refine (add_any _ v _ _ _ (UInt8.toNat_lt _) (UInt8.toNat_lt _) hv).mono ?_
                  rintro e w' ⟨rfl, hg, v', hv', hb'⟩
                  have hz' := hz.grown hg (by omega)
                  have hB' : Below w.heap.size w w' := hB.grown hg (by omega) (fun k h => by cases h; omega)
                  have HB' := Lib.hid hb'
                  clear hb'
                  go_wp2_with fail
                  go_roundw
                  case rel =>
                    refine ⟨_, false, v', _, rfl, rfl, by omega, hv', hz', hB', HB'.out, ?_⟩
                    have := HR.out
                    rw [HFU.out, rs_one s k _ f _ hlt HEND.out HSP.out] at this
                    rw [← this]
                    refine (rs_fuel s _ (s.size - k) _ _ _ (by omega) (by omega)).trans ?_
                    congr 1
                    funext c
                    rw [HF.out c]
                  case measure => simp [intOf]; omega
                · go_wp2_with (go_at_call 129; refine (readByte_int s _ _ hs (by omega) (by omega)).mono ?_; rintro e w' ⟨rfl, rfl⟩)
                  refine (add_any _ v _ _ _ (UInt8.toNat_lt _) (UInt8.toNat_lt _) hv).mono ?_
                  rintro e w' ⟨rfl, hg, v', hv', hb'⟩
                  have hz' := hz.grown hg (by omega)
                  have hB' : Below w.heap.size w w' := hB.grown hg (by omega) (fun k h => by cases h; omega)
                  have HB' := Lib.hid hb'
                  clear hb'
                  go_wp2_with fail
                  go_roundw
                  case rel =>
                    refine ⟨_, false, v', _, rfl, rfl, by omega, hv', hz', hB', HB'.out, ?_⟩
                    have := HR.out
                    rw [HFU.out, rs_one s k _ f _ hlt HEND.out HSP.out] at this
                    rw [← this]
                    refine (rs_fuel s _ (s.size - k) _ _ _ (by omega) (by omega)).trans ?_
                    congr 1
                    funext c
                    rw [HF.out c]
                  case measure => simp [intOf]; omega
        · have z0 := hz.cell (q := 0) (by decide)
          have z1 := hz.cell (q := 1) (by decide)
          have z2 := hz.cell (q := 2) (by decide)
          have z3 := hz.cell (q := 3) (by decide)
          have y0 := hz.free 0
          have y1 := hz.free 1
          have y2 := hz.free 2
          have y3 := hz.free 3
          have HE : Hid (R = (fun _ => false, 0)) := by
            have := HR.out
            rw [show s.size + 1 - k = (s.size - k) + 1 from by omega, rs_end s k fb f _ hlt] at this
            exact this.symm
          go_wp2_with fail
          have hW := hz.over (v := zv) hz.2
          have hBW := Below.over (v := zv) hB (Nat.le_refl _)
          change bodyPost _ _ _ _ _ ((((wr.setCell ⟨w.heap.size, 0, none⟩ (.int .u64 (zv 0))).setCell ⟨w.heap.size, 1, none⟩ (.int .u64 (zv 1))).setCell ⟨w.heap.size, 2, none⟩ (.int .u64 (zv 2))).setCell ⟨w.heap.size, 3, none⟩ (.int .u64 (zv 3)))
          generalize (((wr.setCell ⟨w.heap.size, 0, none⟩ (.int .u64 (zv 0))).setCell ⟨w.heap.size, 1, none⟩ (.int .u64 (zv 1))).setCell ⟨w.heap.size, 2, none⟩ (.int .u64 (zv 2))).setCell ⟨w.heap.size, 3, none⟩ (.int .u64 (zv 3)) = W at *
          have d0 : W.cell? ⟨w.heap.size, 0, none⟩ = some (.int .u64 (zv 0)) := hW.cell (q := 0) (by decide)
          have d1 : W.cell? ⟨w.heap.size, 1, none⟩ = some (.int .u64 (zv 1)) := hW.cell (q := 1) (by decide)
          have d2 : W.cell? ⟨w.heap.size, 2, none⟩ = some (.int .u64 (zv 2)) := hW.cell (q := 2) (by decide)
          have d3 : W.cell? ⟨w.heap.size, 3, none⟩ = some (.int .u64 (zv 3)) := hW.cell (q := 3) (by decide)
          refine bodyPost_ret (v := .tuple #[.agg #[.int .u64 (zv 0), .int .u64 (zv 1), .int .u64 (zv 2), .int .u64 (zv 3)], .int .i64 0]) ?_ rfl ?_
          · simp [results, Tryz.results32, go_sem, d0, d1, d2, d3]
          · exact RsPost.unclosed nb HE.out hBW
end Go.Proofs.YtcmjpkfinbakkaaGreatDoor.Gb

namespace Go.Proofs.YtcmjpkfinbakkaaGreatDoor.Gb
open Go.RowKit

/-- The pieces ps lie in w where the slice value v says. -/
def Sl (w : World) (v : Value) (ps : List Pc) : Prop :=
  ∃ a cap, v = .slice a ps.length cap ∧ ps.length ≤ cap ∧ cap ≤ maxLen ∧
    (ps = [] ∨ ∃ g off, a = some ⟨g, off, none⟩ ∧ ∀ j (h : j < ps.length), PcAt w g (off + j * 6) ps[j])

theorem PcAt.drewN {w : World} {g off : Nat} {p : Pc} (h : PcAt w g off p) (n : Nat) : PcAt (w.drewN n) g off p := ⟨h.c0, h.c1, h.c2, h.lt⟩

/-- s, from its byte o on, begins with what the pieces match. -/
def fitsB (s : ByteArray) : Nat → List Pc → Bool
  | _, [] => true
  | o, p :: ps => tk p (gb s o) && fitsB s (o + 1) ps

theorem fitsB_step (s : ByteArray) : ∀ (ps : List Pc) (o k : Nat) (h : k < ps.length), fitsB s (o + k) (ps.drop k) = (tk ps[k] (gb s (o + k)) && fitsB s (o + (k + 1)) (ps.drop (k + 1))) := by
  intro ps o k h
  rw [List.drop_eq_getElem_cons h, fitsB]; rfl

set_option maxHeartbeats 400000 in
theorem fits_any (v : Value) (ps : List Pc) (s : ByteArray) (w : World) (hs : s.size ≤ 100000) (hle : ps.length ≤ s.size) (h : Sl w v ps) :
    Calls Tryz.prog 191 #[v, .string s] w fun e w' => e = .returned (.bool (fitsB s 0 ps)) ∧ ∃ n, w' = w.drewN n := by
  obtain ⟨a, cap, rfl, hcap, hcm, hcells⟩ := h
  obtain ⟨F, hF⟩ : ∃ F, F = fitsB s 0 ps := ⟨_, rfl⟩
  rw [← hF]
  have HF := Lib.hid hF
  clear hF
  go_enter Tryz.func191, Tryz.ntmps191
  go_wp2
  go_loopw [8] (fun i wr => ∃ k : Nat, i = .int .i64 k ∧ k ≤ ps.length ∧ (∃ n, wr = w.drewN n) ∧ F = fitsB s (0 + k) (ps.drop k)) (fun i _ => ps.length - (intOf i).toNat)
  case atStart => exact ⟨0, rfl, by omega, ⟨0, rfl⟩, HF.out⟩
  case round =>
    obtain ⟨k, rfl, hk, ⟨n, rfl⟩, hFk⟩ := hrel
    have HFK := Lib.hid hFk
    clear hFk
    by_cases hlt : k < ps.length
    · have hks : k < s.size := by omega
      have hbk := gb_eq s k hks
      have hki : (k : Int) < (s.size : Int) := by omega
      have hk0 : (0 : Int) ≤ (k : Int) := by omega
      rcases hcells with hnil | ⟨g, off, rfl, hp⟩
      · rw [hnil] at hlt; simp at hlt
      · have hpk := hp k hlt
        have HP := Lib.hid hp
        clear hp
        go_wp2_with fail
        go_quiet ((go_at_call 234; exact (takes_any g _ ps[k] (gb s k) _ (hpk.drewN _)).mono (fun _ _ ⟨a, b⟩ => ⟨a, _, b.symm⟩)))
        cases htk : tk ps[k] (gb s k) with
        | false =>
          have HTK := Lib.hid htk
          clear htk
          go_wp2
          go_ret
          refine ⟨?_, _, World.drewN_drewN _ _ _⟩
          rw [HFK.out, fitsB_step s ps 0 k hlt, Nat.zero_add, HTK.out]; rfl
        | true =>
          have HTK := Lib.hid htk
          clear htk
          go_wp2
          go_roundw
          case rel =>
            refine ⟨k + 1, by go_num, by omega, ⟨_, rfl⟩, ?_⟩
            rw [HFK.out, fitsB_step s ps 0 k hlt, Nat.zero_add, HTK.out, Bool.true_and, Nat.zero_add]
          case measure => simp [intOf]; omega
    · go_wp2
      go_ret
      refine ⟨?_, _, rfl⟩
      rw [HFK.out, List.drop_eq_nil_of_le (by omega)]; rfl
end Go.Proofs.YtcmjpkfinbakkaaGreatDoor.Gb
