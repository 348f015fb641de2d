import Derived.Test.YtpgaeldjiiaoiaaI
import Derived.Maps.AppendAt
import Derived.Deep.AppendLies
namespace Go.Proofs.Ytpgaeldjiiaoiaa
open Go.RowKit
theorem info5 : (Try.prog.info? 5).map (fun i => (i.zero, i.size, i.bytes)) = some (some (.int .u8 0), 1, 1) := by kernel_rfl
theorem info37 : (Try.prog.info? 37).map (fun i => (i.zero, i.size, i.bytes)) = some (some (.agg #[.int .i64 0, .int .u8 0, .bool false, .slice none 0 0, .slice none 0 0]), 5, 64) := by kernel_rfl

/-- How many bytes the byte at i takes. -/
def nn (s : ByteArray) (i : Nat) : Nat := if gb s i = 92 ∧ i + 1 < s.size then 2 else 1
theorem rbn_nn (s : ByteArray) (i : Nat) : rbn s i = i + nn s i := by unfold rbn nn; split <;> rfl

set_option maxHeartbeats 400000 in
theorem one_any (s : ByteArray) (i : Nat) (w : World) (hs : s.size ≤ 100000) (hi : i < s.size) :
    Calls Try.prog 29 #[.string s, .int .i64 i] w fun e w' => e = .returned (.tuple #[.int .u8 (rb s i).toNat, .int .i64 (nn s i)]) ∧ w = w' := by
  have hb0 := gb_eq s i hi
  by_cases h1 : gb s i = 92
  · by_cases h2 : i + 1 < s.size
    · have hb1 := gb_eq s (i+1) h2
      have HR1 : Hid (rb s i = gb s (i+1)) := by unfold Hid rb; rw [if_pos ⟨h1, h2⟩]
      have HR2 : Hid (nn s i = 2) := by unfold Hid nn; rw [if_pos ⟨h1, h2⟩]
      go_enter Try.func29, Try.ntmps29
      go_wp2
      go_ret2
      exact ⟨ret2_ints (by rw [HR1.out]) (by rw [HR2.out]; rfl), rfl⟩
    · have HR1 : Hid (rb s i = gb s i) := by unfold Hid rb; rw [if_neg (fun h => h2 h.2)]
      have HR2 : Hid (nn s i = 1) := by unfold Hid nn; rw [if_neg (fun h => h2 h.2)]
      go_enter Try.func29, Try.ntmps29
      go_wp2
      go_ret2
      exact ⟨ret2_ints (by rw [HR1.out, h1]; rfl) (by rw [HR2.out]; rfl), rfl⟩
  · have HR1 : Hid (rb s i = gb s i) := by unfold Hid rb; rw [if_neg (fun h => h1 h.1)]
    have HR2 : Hid (nn s i = 1) := by unfold Hid nn; rw [if_neg (fun h => h1 h.1)]
    have h1' : (((gb s i).toNat : Int) == 92) = false := sz_ne (n := 92) (by decide) h1
    clear h1
    go_enter Try.func29, Try.ntmps29
    go_wp2
    go_ret2
    exact ⟨ret2_ints (by rw [HR1.out]) (by rw [HR2.out]; rfl), rfl⟩

theorem one_int (s : ByteArray) (a : Int) (w : World) (hs : s.size ≤ 100000) (h0 : 0 ≤ a) (hi : a < s.size) :
    Calls Try.prog 29 #[.string s, .int .i64 a] w fun e w' => e = .returned (.tuple #[.int .u8 (rb s a.toNat).toNat, .int .i64 (nn s a.toNat)]) ∧ w = w' := by
  obtain ⟨n, rfl⟩ := Int.eq_ofNat_of_zero_le h0
  exact one_any s n w hs (by omega)

def bv (c : UInt8) : Value := .int .u8 c.toNat

/-- An item of kind k lies in block b. -/
def ItemIs (w : World) (b : Nat) (k : Nat) (c : UInt8) (nb : Bool) (lo hi : Value) : Prop :=
  w.heap[b]? = some (.cells #[.int .i64 k, .int .u8 c.toNat, .bool nb, lo, hi] 37 (0, 0))

theorem ItemIs.cell {w : World} {b k : Nat} {c : UInt8} {nb : Bool} {lo hi : Value} (h : ItemIs w b k c nb lo hi) :
    w.cell? ⟨b, 0, none⟩ = some (.int .i64 k) ∧ w.cell? ⟨b, 1, none⟩ = some (.int .u8 c.toNat) ∧ w.cell? ⟨b, 2, none⟩ = some (.bool nb) ∧ w.cell? ⟨b, 3, none⟩ = some lo ∧ w.cell? ⟨b, 4, none⟩ = some hi := by
  unfold ItemIs at h
  simp [World.cell?, h]
theorem ItemIs.free {w : World} {b k : Nat} {c : UInt8} {nb : Bool} {lo hi : Value} (h : ItemIs w b k c nb lo hi) (i : Nat) : w.frozen? ⟨b, i, none⟩ = false := by
  unfold ItemIs at h
  simp [World.frozen?, h]
theorem ItemIs.lt {w : World} {b k : Nat} {c : UInt8} {nb : Bool} {lo hi : Value} (h : ItemIs w b k c nb lo hi) : b < w.heap.size := (Array.getElem?_eq_some_iff.1 h).1
theorem ItemIs.grown {w w' : World} {row : Option Nat} {b k : Nat} {c : UInt8} {nb : Bool} {lo hi : Value} (h : ItemIs w b k c nb lo hi) (hg : w.grownBy w' row) (hne : some b ≠ row) : ItemIs w' b k c nb lo hi := by
  unfold ItemIs; rw [hg.block b h.lt hne]; exact h
theorem ItemIs.other {w : World} {b b' k i : Nat} {c : UInt8} {nb : Bool} {lo hi : Value} (h : ItemIs w b k c nb lo hi) (hne : b ≠ b') (v : Value) : ItemIs (w.setCell ⟨b', i, none⟩ v) b k c nb lo hi := by
  unfold ItemIs; rw [heap_setCell_other _ _ _ _ hne]; exact h
theorem ItemIs.set3 {w : World} {b k : Nat} {c : UInt8} {nb : Bool} {lo hi : Value} (h : ItemIs w b k c nb lo hi) (v : Value) : ItemIs (w.setCell ⟨b, 3, none⟩ v) b k c nb v hi := by
  unfold ItemIs; rw [heap_setCell_same _ _ _ _ _ _ h]; simp
theorem ItemIs.set4 {w : World} {b k : Nat} {c : UInt8} {nb : Bool} {lo hi : Value} (h : ItemIs w b k c nb lo hi) (v : Value) : ItemIs (w.setCell ⟨b, 4, none⟩ v) b k c nb lo v := by
  unfold ItemIs; rw [heap_setCell_same _ _ _ _ _ _ h]; simp
theorem ItemIs.set2 {w : World} {b k : Nat} {c : UInt8} {nb : Bool} {lo hi : Value} (h : ItemIs w b k c nb lo hi) (v : Bool) : ItemIs (w.setCell ⟨b, 2, none⟩ (.bool v)) b k c v lo hi := by
  unfold ItemIs; rw [heap_setCell_same _ _ _ _ _ _ h]; simp

theorem ItemIs.over {w : World} {b k : Nat} {c : UInt8} {nb : Bool} {lo hi : Value} (h : ItemIs w b k c nb lo hi) (k' : Nat) (nb' : Bool) (lo' hi' : Value) :
    ItemIs (((((w.setCell ⟨b, 0, none⟩ (.int .i64 k')).setCell ⟨b, 1, none⟩ (.int .u8 0)).setCell ⟨b, 2, none⟩ (.bool nb')).setCell ⟨b, 3, none⟩ lo').setCell ⟨b, 4, none⟩ hi') b k' 0 nb' lo' hi' := by
  unfold ItemIs at h ⊢
  have h1 := heap_setCell_same w b 0 _ _ (.int .i64 k') h
  have h2 := heap_setCell_same _ b 1 _ _ (.int .u8 0) h1
  have h3 := heap_setCell_same _ b 2 _ _ (.bool nb') h2
  have h4 := heap_setCell_same _ b 3 _ _ lo' h3
  have h5 := heap_setCell_same _ b 4 _ _ hi' h4
  rw [h5]
  simp
/-- What the loop of 'set' keeps in memory: the result's cells, the item's, and its two rows. -/
structure SetMem (w wr : World) (nb : Bool) (lo hi : Value) (ps : List (UInt8 × UInt8)) : Prop where
  res : ItemIs wr w.heap.size 0 0 false nilV nilV
  itm : ItemIs wr (w.heap.size + 1) 3 0 nb lo hi
  los : wr.ownsRow (w.heap.size + 2) 5 1 lo ps.length (ps.map fun p => bv p.1)
  his : wr.ownsRow (w.heap.size + 2) 5 1 hi ps.length (ps.map fun p => bv p.2)
  dis : lo.ownBlock = none ∨ lo.ownBlock ≠ hi.ownBlock
  old : Below w.heap.size w wr

/-- Behind the first of the two appends. -/
structure SetMid (w wr : World) (nb : Bool) (lo hi : Value) (ps : List (UInt8 × UInt8)) (a : UInt8) : Prop where
  res : ItemIs wr w.heap.size 0 0 false nilV nilV
  itm : ItemIs wr (w.heap.size + 1) 3 0 nb lo hi
  los : wr.ownsRow (w.heap.size + 2) 5 1 lo (ps.length + 1) (ps.map (fun p => bv p.1) ++ [bv a])
  his : wr.ownsRow (w.heap.size + 2) 5 1 hi ps.length (ps.map fun p => bv p.2)
  dis : lo.ownBlock = none ∨ lo.ownBlock ≠ hi.ownBlock
  old : Below w.heap.size w wr

theorem ne_own {w : World} {base e size n : Nat} {v : Value} {xs : List Value} (h : w.ownsRow base e size v n xs) {b : Nat} (hb : b < base) : some b ≠ v.ownBlock := by
  intro e'
  have := (h.lt b e'.symm).1
  omega

theorem SetMem.lo {w wr w1 : World} {nb : Bool} {lo hi v1 : Value} {ps : List (UInt8 × UInt8)} (m : SetMem w wr nb lo hi ps) {a : UInt8} (o : Obj)
    (h1 : w1.ownsRow (w.heap.size + 2) 5 1 v1 (ps.length + 1) (ps.map (fun p => bv p.1) ++ [bv a])) (hg : (wr.alloc o).grownBy w1 lo.ownBlock)
    (hb : v1.ownBlock = lo.ownBlock ∨ v1.ownBlock = some (wr.alloc o).heap.size) : SetMid w (w1.setCell ⟨w.heap.size + 1, 3, none⟩ v1) nb v1 hi ps a := by
  have ga : wr.grownBy (wr.alloc o) none := World.grownBy_alloc wr o none
  have hlt := m.itm.lt
  have r1 := (m.res.grown ga (by simp)).grown hg (ne_own m.los (by omega))
  have i1 := (m.itm.grown ga (by simp)).grown hg (ne_own m.los (by omega))
  have hd : hi.ownBlock = none ∨ hi.ownBlock ≠ lo.ownBlock := by
    rcases m.dis with h | h
    · rw [h]; exact own_em hi
    · exact .inr (Ne.symm h)
  have hh := (m.his.alloc o).kept hg hd
  refine ⟨r1.other (by omega) _, i1.set3 v1, ownsRow_setCell_below h1 (by show w.heap.size + 1 < w.heap.size + 2; omega) _, ownsRow_setCell_below hh (by show w.heap.size + 1 < w.heap.size + 2; omega) _, ?_, ?_⟩
  · rcases hb with h | h
    · rw [h]; exact m.dis
    · right
      rw [h]
      intro e
      have := (m.his.lt _ e.symm).2
      simp at this
      omega
  · exact ((m.old.alloc m.old.size o).grown hg (by simp; have := m.old.size; omega) (fun k hk => by have := (m.los.lt k hk).1; omega)).setCell (by show w.heap.size ≤ w.heap.size + 1; omega) _

theorem SetMid.hi {w wr w1 : World} {nb : Bool} {lo hi v2 : Value} {ps : List (UInt8 × UInt8)} {a : UInt8} (m : SetMid w wr nb lo hi ps a) {b : UInt8} (o : Obj)
    (h1 : w1.ownsRow (w.heap.size + 2) 5 1 v2 (ps.length + 1) (ps.map (fun p => bv p.2) ++ [bv b])) (hg : (wr.alloc o).grownBy w1 hi.ownBlock)
    (hb : v2.ownBlock = hi.ownBlock ∨ v2.ownBlock = some (wr.alloc o).heap.size) : SetMem w (w1.setCell ⟨w.heap.size + 1, 4, none⟩ v2) nb lo v2 (ps ++ [(a, b)]) := by
  have ga : wr.grownBy (wr.alloc o) none := World.grownBy_alloc wr o none
  have hlt := m.itm.lt
  have r1 := (m.res.grown ga (by simp)).grown hg (ne_own m.his (by omega))
  have i1 := (m.itm.grown ga (by simp)).grown hg (ne_own m.his (by omega))
  have hh := (m.los.alloc o).kept hg m.dis
  refine ⟨r1.other (by omega) _, i1.set4 v2, ?_, ?_, ?_, ?_⟩
  · have := ownsRow_setCell_below hh (a := ⟨w.heap.size + 1, 4, none⟩) (by show w.heap.size + 1 < w.heap.size + 2; omega) v2
    simpa using this
  · have := ownsRow_setCell_below h1 (a := ⟨w.heap.size + 1, 4, none⟩) (by show w.heap.size + 1 < w.heap.size + 2; omega) v2
    simpa using this
  · rcases hb with h | h
    · rw [h]; exact m.dis
    · by_cases hn : lo.ownBlock = none
      · exact .inl hn
      · right
        rw [h]
        intro e
        have := (m.los.lt _ e).2
        simp at this
        omega
  · exact ((m.old.alloc m.old.size o).grown hg (by simp; have := m.old.size; omega) (fun k hk => by have := (m.his.lt k hk).1; omega)).setCell (by show w.heap.size ≤ w.heap.size + 1; omega) _

/-- The bytes that some of the pairs span. -/
def F (ps : List (UInt8 × UInt8)) (c : Nat) : Bool := ps.any fun p => decide (p.1.toNat ≤ c) && decide (c ≤ p.2.toNat)
theorem F_snoc (ps : List (UInt8 × UInt8)) (a b : UInt8) (c : Nat) : F (ps ++ [(a, b)]) c = (F ps c || (decide (a.toNat ≤ c) && decide (c ≤ b.toNat))) := by simp [F]

/-- What set leaves. -/
def SetPost (s : ByteArray) (w : World) (nb : Bool) (R : (Nat → Bool) × Nat) (e : Ending) (w' : World) : Prop :=
  ∃ lo hi ps k, e = .returned (.tuple #[.agg #[.int .i64 (3 : Nat), .int .u8 ((0 : UInt8).toNat : Nat), .bool nb, lo, hi], .int .i64 ((k + 1 : Nat) : Int), .bool (decide (k < s.size))]) ∧
    w'.ownsRow (w.heap.size + 2) 5 1 lo ps.length (ps.map fun p => bv p.1) ∧ w'.ownsRow (w.heap.size + 2) 5 1 hi ps.length (ps.map fun p => bv p.2) ∧ ps.length ≤ s.size ∧ k ≤ s.size ∧ Below w.heap.size w w' ∧
    (k < s.size → R = (F ps, k + 1)) ∧ (¬ k < s.size → R.2 = 0)

theorem own_slice {w : World} {B e sz : Nat} {v : Value} {n : Nat} {xs : List Value} (h : w.ownsRow B e sz v n xs) : ∃ A c, v = .slice A n c := by
  by_cases hn : 0 < n
  · obtain ⟨g, cap, rfl, _, _⟩ := h.form hn
    exact ⟨_, cap, rfl⟩
  · obtain rfl : n = 0 := by omega
    rcases h.2 with ⟨h1, _⟩ | ⟨g, cap, cur, h1, _⟩
    · exact ⟨none, 0, h1⟩
    · exact ⟨_, cap, h1⟩
def End93 (s : ByteArray) (k : Nat) (fb : Bool) : Prop := ¬ (gb s k = 93 ∧ fb = false)
theorem new_cell (w : World) (v : Value) (t : TypeId) : (w.alloc (.cells #[v] t)).cell? ⟨w.heap.size, 0, none⟩ = some v := by simp
theorem SetMem.start (w : World) : SetMem w ((w.alloc (.cells #[.int .i64 0, .int .u8 0, .bool false, .slice none 0 0, .slice none 0 0] 37)).alloc
    (.cells #[.int .i64 3, .int .u8 0, .bool false, .slice none 0 0, .slice none 0 0] 37)) false nilV nilV [] := by
  have e1 : ∀ (o : Obj), (w.alloc o).heap.size = w.heap.size + 1 := fun o => by simp
  refine ⟨?_, ?_, World.ownsRow_nil _ _ _ _, World.ownsRow_nil _ _ _ _, .inl rfl, ((Below.refl _ _).alloc (Nat.le_refl _) _).alloc (by simp) _⟩
  · unfold ItemIs
    rw [heap_alloc_old (h := by simp)]
    exact heap_alloc_new _ _
  · unfold ItemIs
    rw [← e1 (.cells #[.int .i64 0, .int .u8 0, .bool false, .slice none 0 0, .slice none 0 0] 37)]
    exact heap_alloc_new _ _
theorem SetMem.neg {w wr : World} {ps : List (UInt8 × UInt8)} {lo hi : Value} (m : SetMem w wr false lo hi ps) : SetMem w (wr.setCell ⟨w.heap.size + 1, 2, none⟩ (.bool true)) true lo hi ps :=
  ⟨m.res.other (by omega) _, m.itm.set2 true, ownsRow_setCell_below m.los (by show w.heap.size + 1 < w.heap.size + 2; omega) _, ownsRow_setCell_below m.his (by show w.heap.size + 1 < w.heap.size + 2; omega) _, m.dis, m.old.setCell (by show w.heap.size ≤ w.heap.size + 1; omega) _⟩

set_option maxRecDepth 100000 in
set_option maxHeartbeats 8000000 in
theorem set_core (s : ByteArray) (i : Nat) (w : World) (nb : Bool) (i0 : Nat) (R : (Nat → Bool) × Nat) (hs : s.size ≤ 100000) (hi : i ≤ s.size)
    (HN : Hid (nb = nbOf s i)) (HI : Hid (i0 = iOf nb i)) (HR0 : Hid (rs s (s.size + 1 - i0) i0 true (fun _ => false) = R)) :
    Calls Try.prog 28 #[.string s, .int .i64 i] w (SetPost s w nb R) := by
  obtain ⟨i5, hi5, hz5, hs5, hb5⟩ := info_parts info5
  go_enter Try.func28, Try.ntmps28
  go_upto_region 2 with (fail)
  go_cut [23] (fun n wx => n = .bool nb ∧ Hid (SetMem w wx false nilV nilV []))
  case first =>
    have HM0 := Lib.hid (SetMem.start w)
    by_cases hnot : i < s.size
    · have hb0 := gb_eq s i hnot
      go_wp2_with fail
      go_meet
      refine ⟨congrArg Value.bool ?_, HM0.out⟩
      rw [HN.out]; unfold nbOf
      rw [Bool.eq_iff_iff]; simp [hnot]
      exact u8_eq (n := 33) (by decide)
    · go_wp2_with fail
      go_meet
      refine ⟨congrArg Value.bool ?_, HM0.out⟩
      rw [HN.out]; unfold nbOf
      simp [hnot]
  case rest =>
    obtain ⟨rfl, HM0⟩ := hcut
    have hio : nb = true → i < s.size := by intro h; rw [HN.out] at h; unfold nbOf at h; simp at h; exact h.1
    go_upto_if 23 with (fail)
    go_cut [1] (fun n wx => n = .int .i64 i0 ∧ Hid (SetMem w wx nb nilV nilV []))
    case first =>
      cases nb
      · go_wp2_with fail
        go_meet
        exact ⟨by rw [HI.out]; rfl, HM0.out⟩
      · have f2 := HM0.out.itm.free 2
        obtain ⟨_, _, e2, _, _⟩ := HM0.out.itm.cell
        go_wp2_with fail
        go_meet
        exact ⟨by rw [HI.out]; rfl, HM0.out.neg⟩
    case rest =>
      obtain ⟨rfl, HM1⟩ := hcut
      have hio2 : i0 ≤ s.size := by
        rw [HI.out]
        unfold iOf; split
        · next h => have := hio h; omega
        · exact hi
      clear hio hi HN HI HM0
      go_wp2_with fail
      go_loopw [1, 8] (fun a b wr => ∃ (k : Nat) (fb : Bool) (lo hi : Value) (ps : List (UInt8 × UInt8)), a = .int .i64 k ∧ b = .bool fb ∧ k ≤ s.size ∧ ps.length ≤ k ∧ SetMem w wr nb lo hi ps ∧ rs s (s.size + 1 - k) k fb (F ps) = R) (fun a _ _ => s.size - (intOf a).toNat)
      case atStart => exact ⟨i0, true, nilV, nilV, [], rfl, rfl, hio2, Nat.zero_le _, HM1.out, HR0.out⟩
      case round =>
        obtain ⟨k, fb, lo, hi, ps, rfl, rfl, hk, hps, hm, hR⟩ := hrel
        have HR := Lib.hid hR
        have HM := Lib.hid hm
        clear hR hm HR0 hio2 HM1
        by_cases hlt : k < s.size
        · have hbk := gb_eq s k hlt
          have hfu : s.size + 1 - k = (s.size - k) + 1 := by omega
          have HFU := Lib.hid hfu
          clear hfu
          by_cases hend : gb s k = 93 ∧ fb = false
          · obtain ⟨h93, rfl⟩ := hend
            have HE : Hid (R = (F ps, k + 1)) := by
              have := HR.out
              rw [HFU.out, rs_close s k (F ps) _ hlt h93] at this
              exact this.symm
            obtain ⟨z0, z1, z2, z3, z4⟩ := HM.out.res.cell
            obtain ⟨c0, c1, c2, c3, c4⟩ := HM.out.itm.cell
            have y := HM.out.res.free
            have y0 := y 0
            have y1 := y 1
            have y2 := y 2
            have y3 := y 3
            have y4 := y 4
            clear y
            obtain ⟨A1, C1, rfl⟩ := own_slice HM.out.los
            obtain ⟨A2, C2, rfl⟩ := own_slice HM.out.his
            go_wp2_with fail
            have hW := HM.out.res.over 3 nb (.slice A1 ps.length C1) (.slice A2 ps.length C2)
            have hBW : Below w.heap.size w (((((wr.setCell ⟨w.heap.size, 0, none⟩ (.int .i64 3)).setCell ⟨w.heap.size, 1, none⟩ (.int .u8 0)).setCell ⟨w.heap.size, 2, none⟩ (.bool nb)).setCell ⟨w.heap.size, 3, none⟩ (.slice A1 ps.length C1)).setCell ⟨w.heap.size, 4, none⟩ (.slice A2 ps.length C2)) :=
              ((((HM.out.old.setCell (Nat.le_refl _) _).setCell (Nat.le_refl _) _).setCell (Nat.le_refl _) _).setCell (Nat.le_refl _) _).setCell (Nat.le_refl _) _
            have hl : World.ownsRow (((((wr.setCell ⟨w.heap.size, 0, none⟩ (.int .i64 3)).setCell ⟨w.heap.size, 1, none⟩ (.int .u8 0)).setCell ⟨w.heap.size, 2, none⟩ (.bool nb)).setCell ⟨w.heap.size, 3, none⟩ (.slice A1 ps.length C1)).setCell ⟨w.heap.size, 4, none⟩ (.slice A2 ps.length C2)) (w.heap.size + 2) 5 1 (.slice A1 ps.length C1) ps.length (ps.map fun p => bv p.1) := by
              refine ownsRow_setCell_below (ownsRow_setCell_below (ownsRow_setCell_below (ownsRow_setCell_below (ownsRow_setCell_below HM.out.los ?_ _) ?_ _) ?_ _) ?_ _) ?_ _ <;> (show w.heap.size < w.heap.size + 2; omega)
            have hh : World.ownsRow (((((wr.setCell ⟨w.heap.size, 0, none⟩ (.int .i64 3)).setCell ⟨w.heap.size, 1, none⟩ (.int .u8 0)).setCell ⟨w.heap.size, 2, none⟩ (.bool nb)).setCell ⟨w.heap.size, 3, none⟩ (.slice A1 ps.length C1)).setCell ⟨w.heap.size, 4, none⟩ (.slice A2 ps.length C2)) (w.heap.size + 2) 5 1 (.slice A2 ps.length C2) ps.length (ps.map fun p => bv p.2) := by
              refine ownsRow_setCell_below (ownsRow_setCell_below (ownsRow_setCell_below (ownsRow_setCell_below (ownsRow_setCell_below HM.out.his ?_ _) ?_ _) ?_ _) ?_ _) ?_ _ <;> (show w.heap.size < w.heap.size + 2; omega)
            generalize ((((wr.setCell ⟨w.heap.size, 0, none⟩ (.int .i64 3)).setCell ⟨w.heap.size, 1, none⟩ (.int .u8 0)).setCell ⟨w.heap.size, 2, none⟩ (.bool nb)).setCell ⟨w.heap.size, 3, none⟩ (.slice A1 ps.length C1)).setCell ⟨w.heap.size, 4, none⟩ (.slice A2 ps.length C2) = W at *
            obtain ⟨d0, d1, d2, d3, d4⟩ := hW.cell
            refine bodyPost_ret (v := .tuple #[.agg #[.int .i64 (3 : Nat), .int .u8 ((0 : UInt8).toNat : Nat), .bool nb, .slice A1 ps.length C1, .slice A2 ps.length C2], .int .i64 ((k + 1 : Nat) : Int), .bool (decide (k < s.size))]) ?_ rfl ?_
            · simp [results, Try.results35, go_sem, d0, d1, d2, d3, d4, hlt]
            · exact ⟨_, _, ps, k, rfl, hl, hh, by omega, by omega, hBW, fun _ => HE.out, fun h => absurd hlt h⟩
          · have b1 := rbn_le s k hlt
            have HEND : End93 s k fb := hend
            have hcase : fb = true ∨ (fb = false ∧ (((gb s k).toNat : Int) == 93) = false) := by
              cases fb
              · right; exact ⟨rfl, sz_ne (n := 93) (by decide) (fun h => hend ⟨h, rfl⟩)⟩
              · left; rfl
            clear hend
            have ht : ((↑(rbn s k) : Int) + 1).toNat = rbn s k + 1 := by omega
            have hk1 : (k : Int) + (nn s k : Int) = (rbn s k : Int) := by have := rbn_nn s k; omega
            have hn2 : nn s k ≤ 2 := by unfold nn; split <;> omega
            obtain ⟨c0, c1, c2, c3, c4⟩ := HM.out.itm.cell
            have y3 := HM.out.itm.free 3
            have y4 := HM.out.itm.free 4
            by_cases hsp : rbn s k + 1 < s.size ∧ gb s (rbn s k) = 45 ∧ gb s (rbn s k + 1) ≠ 93
            · have HSP := Lib.hid hsp
              obtain ⟨hs1, h45, h93n⟩ := hsp
              have b2 := rbn_le s (rbn s k + 1) hs1
              have e1 := gb_eq s (rbn s k) (by omega)
              have e2 := gb_eq s (rbn s k + 1) hs1
              have h93' : (((gb s (rbn s k + 1)).toNat : Int) != 93) = true := by
                have := sz_ne (n := 93) (by decide) h93n
                simp only [bne]; exact congrArg not this
              have hk2 : (rbn s k : Int) + 1 + (nn s (rbn s k + 1) : Int) = (rbn s (rbn s k + 1) : Int) := by have := rbn_nn s (rbn s k + 1); omega
              have hn3 : nn s (rbn s k + 1) ≤ 2 := by unfold nn; split <;> omega
              clear h93n
              rcases hcase with rfl | ⟨rfl, h93⟩
              · go_wp2_with (first | (go_at_call 29; refine (one_int s _ _ hs (by omega) (by omega)).mono ?_; rintro e w' ⟨rfl, rfl⟩) | (at_builtin; refine wpList_append_own_at _ rfl _ _ 35 rfl (w.heap.size + 2) 5 i5 (.int .u8 0) 1 1 Try.underlying35 hi5 hz5 hs5 hb5 rfl (by decide) _ _ _ rfl (HM.out.los.alloc _) ⟨wr.heap.size, 0, none⟩ 1 1 [bv (rb s k)] rfl rfl ?cpa1 ?cpa2 ?cpa3 ?cpa4 ?cpa5 ?_))
                case cpa1 =>
                  intro j u hj
                  match j, hj with
                  | 0, hj => simp at hj; subst hj; simp [Addr.add, bv]
                case cpa2 => first | rfl | (intro u hu; simp at hu; subst hu; rfl)
                case cpa3 => unfold maxLen; omega
                case cpa4 => omega
                case cpa5 => have := HM.out.old.size; have := HM.out.itm.lt; simp; omega
                intro v1 w2 hown1 hg1 _ hb1
                obtain ⟨A1, C1, rfl⟩ := own_slice hown1
                have HD := Lib.hid (HM.out.lo _ hown1 hg1 (by simpa using hb1))
                have t3 := (HM.out.itm.grown (World.grownBy_alloc wr _ none) (by simp)).grown hg1 (ne_own HM.out.los (by omega))
                have f3 := t3.free 3
                obtain ⟨_, _, _, e3, e4⟩ := t3.cell
                have g4 := HD.out.itm.free 4
                obtain ⟨_, _, _, _, e4'⟩ := HD.out.itm.cell
                clear t3 hown1 hg1 hb1 e4
                have hsz2 : (w2.setCell ⟨w.heap.size + 1, 3, none⟩ (.slice A1 (ps.length + 1) C1)).heap.size = w2.heap.size := by simp
                go_wp2_with (first | (go_at_call 29; refine (one_int s _ _ hs (by omega) (by omega)).mono ?_; rintro e w' ⟨rfl, rfl⟩) | (at_builtin; refine wpList_append_own_at _ rfl _ _ 35 rfl (w.heap.size + 2) 5 i5 (.int .u8 0) 1 1 Try.underlying35 hi5 hz5 hs5 hb5 rfl (by decide) _ _ _ rfl (HD.out.his.alloc _) ⟨w2.heap.size, 0, none⟩ 1 1 [bv (rb s (rbn s k + 1))] rfl rfl ?cpb1 ?cpb2 ?cpb3 ?cpb4 ?cpb5 ?_))
                case cpb1 =>
                  intro j u hj
                  match j, hj with
                  | 0, hj => simp at hj; subst hj; have h := new_cell (w2.setCell ⟨w.heap.size + 1, 3, none⟩ (.slice A1 (ps.length + 1) C1)) (bv (rb s (rbn s k + 1))) 5; rw [hsz2] at h; exact h
                case cpb2 => first | rfl | (intro u hu; simp at hu; subst hu; rfl)
                case cpb3 => unfold maxLen; omega
                case cpb4 => omega
                case cpb5 => have := HD.out.old.size; have := HD.out.itm.lt; rw [hsz2] at this; simp; omega
                intro v2 w3 hown2 hg2 _ hb2
                obtain ⟨A2, C2, rfl⟩ := own_slice hown2
                have HF2 := Lib.hid (HD.out.hi _ hown2 hg2 (by simpa using hb2))
                have t4 := (HD.out.itm.grown (World.grownBy_alloc _ _ none) (by simp)).grown hg2 (ne_own HD.out.his (by omega))
                have f4' := t4.free 4
                obtain ⟨_, _, _, _, e4x⟩ := t4.cell
                clear t4 hown2 hg2 hb2
                go_wp2_with fail
                go_roundw
                case rel =>
                  refine ⟨_, false, _, _, ps ++ [(rb s k, rb s (rbn s k + 1))], rfl, rfl, by omega, by simp; omega, HF2.out, ?_⟩
                  have := HR.out
                  rw [HFU.out, rs_span s k _ _ _ hlt HEND HSP.out] at this
                  rw [← this]
                  refine (rs_fuel s _ (s.size - k) _ _ _ (by omega) (by omega)).trans ?_
                  congr 1
                  funext c
                  exact F_snoc ps _ _ c
                case measure => simp [intOf]; omega
              · go_wp2_with (first | (go_at_call 29; refine (one_int s _ _ hs (by omega) (by omega)).mono ?_; rintro e w' ⟨rfl, rfl⟩) | (at_builtin; refine wpList_append_own_at _ rfl _ _ 35 rfl (w.heap.size + 2) 5 i5 (.int .u8 0) 1 1 Try.underlying35 hi5 hz5 hs5 hb5 rfl (by decide) _ _ _ rfl (HM.out.los.alloc _) ⟨wr.heap.size, 0, none⟩ 1 1 [bv (rb s k)] rfl rfl ?cqa1 ?cqa2 ?cqa3 ?cqa4 ?cqa5 ?_))
                case cqa1 =>
                  intro j u hj
                  match j, hj with
                  | 0, hj => simp at hj; subst hj; simp [Addr.add, bv]
                case cqa2 => first | rfl | (intro u hu; simp at hu; subst hu; rfl)
                case cqa3 => unfold maxLen; omega
                case cqa4 => omega
                case cqa5 => have := HM.out.old.size; have := HM.out.itm.lt; simp; omega
                intro v1 w2 hown1 hg1 _ hb1
                obtain ⟨A1, C1, rfl⟩ := own_slice hown1
                have HD := Lib.hid (HM.out.lo _ hown1 hg1 (by simpa using hb1))
                have t3 := (HM.out.itm.grown (World.grownBy_alloc wr _ none) (by simp)).grown hg1 (ne_own HM.out.los (by omega))
                have f3 := t3.free 3
                obtain ⟨_, _, _, e3, e4⟩ := t3.cell
                have g4 := HD.out.itm.free 4
                obtain ⟨_, _, _, _, e4'⟩ := HD.out.itm.cell
                clear t3 hown1 hg1 hb1 e4
                have hsz2 : (w2.setCell ⟨w.heap.size + 1, 3, none⟩ (.slice A1 (ps.length + 1) C1)).heap.size = w2.heap.size := by simp
                go_wp2_with (first | (go_at_call 29; refine (one_int s _ _ hs (by omega) (by omega)).mono ?_; rintro e w' ⟨rfl, rfl⟩) | (at_builtin; refine wpList_append_own_at _ rfl _ _ 35 rfl (w.heap.size + 2) 5 i5 (.int .u8 0) 1 1 Try.underlying35 hi5 hz5 hs5 hb5 rfl (by decide) _ _ _ rfl (HD.out.his.alloc _) ⟨w2.heap.size, 0, none⟩ 1 1 [bv (rb s (rbn s k + 1))] rfl rfl ?cqb1 ?cqb2 ?cqb3 ?cqb4 ?cqb5 ?_))
                case cqb1 =>
                  intro j u hj
                  match j, hj with
                  | 0, hj => simp at hj; subst hj; have h := new_cell (w2.setCell ⟨w.heap.size + 1, 3, none⟩ (.slice A1 (ps.length + 1) C1)) (bv (rb s (rbn s k + 1))) 5; rw [hsz2] at h; exact h
                case cqb2 => first | rfl | (intro u hu; simp at hu; subst hu; rfl)
                case cqb3 => unfold maxLen; omega
                case cqb4 => omega
                case cqb5 => have := HD.out.old.size; have := HD.out.itm.lt; rw [hsz2] at this; simp; omega
                intro v2 w3 hown2 hg2 _ hb2
                obtain ⟨A2, C2, rfl⟩ := own_slice hown2
                have HF2 := Lib.hid (HD.out.hi _ hown2 hg2 (by simpa using hb2))
                have t4 := (HD.out.itm.grown (World.grownBy_alloc _ _ none) (by simp)).grown hg2 (ne_own HD.out.his (by omega))
                have f4' := t4.free 4
                obtain ⟨_, _, _, _, e4x⟩ := t4.cell
                clear t4 hown2 hg2 hb2
                go_wp2_with fail
                go_roundw
                case rel =>
                  refine ⟨_, false, _, _, ps ++ [(rb s k, rb s (rbn s k + 1))], rfl, rfl, by omega, by simp; omega, HF2.out, ?_⟩
                  have := HR.out
                  rw [HFU.out, rs_span s k _ _ _ hlt HEND HSP.out] at this
                  rw [← this]
                  refine (rs_fuel s _ (s.size - k) _ _ _ (by omega) (by omega)).trans ?_
                  congr 1
                  funext c
                  exact F_snoc ps _ _ c
                case measure => simp [intOf]; omega
            · have HSP := Lib.hid hsp
              by_cases hs1 : rbn s k + 1 < s.size
              · have e1 := gb_eq s (rbn s k) (by omega)
                have e2 := gb_eq s (rbn s k + 1) hs1
                by_cases h45 : gb s (rbn s k) = 45
                · have h93x : gb s (rbn s k + 1) = 93 := by
                    by_cases h : gb s (rbn s k + 1) = 93
                    · exact h
                    · exact absurd ⟨hs1, h45, h⟩ hsp
                  clear hsp
                  rcases hcase with rfl | ⟨rfl, h93⟩
                  · go_wp2_with (first | (go_at_call 29; refine (one_int s _ _ hs (by omega) (by omega)).mono ?_; rintro e w' ⟨rfl, rfl⟩) | (at_builtin; refine wpList_append_own_at _ rfl _ _ 35 rfl (w.heap.size + 2) 5 i5 (.int .u8 0) 1 1 Try.underlying35 hi5 hz5 hs5 hb5 rfl (by decide) _ _ _ rfl (HM.out.los.alloc _) ⟨wr.heap.size, 0, none⟩ 1 1 [bv (rb s k)] rfl rfl ?cra1 ?cra2 ?cra3 ?cra4 ?cra5 ?_))
                    case cra1 =>
                      intro j u hj
                      match j, hj with
                      | 0, hj => simp at hj; subst hj; simp [Addr.add, bv]
                    case cra2 => first | rfl | (intro u hu; simp at hu; subst hu; rfl)
                    case cra3 => unfold maxLen; omega
                    case cra4 => omega
                    case cra5 => have := HM.out.old.size; have := HM.out.itm.lt; simp; omega
                    intro v1 w2 hown1 hg1 _ hb1
                    obtain ⟨A1, C1, rfl⟩ := own_slice hown1
                    have HD := Lib.hid (HM.out.lo _ hown1 hg1 (by simpa using hb1))
                    have t3 := (HM.out.itm.grown (World.grownBy_alloc wr _ none) (by simp)).grown hg1 (ne_own HM.out.los (by omega))
                    have f3 := t3.free 3
                    obtain ⟨_, _, _, e3, e4⟩ := t3.cell
                    have g4 := HD.out.itm.free 4
                    obtain ⟨_, _, _, _, e4'⟩ := HD.out.itm.cell
                    clear t3 hown1 hg1 hb1 e4
                    have hsz2 : (w2.setCell ⟨w.heap.size + 1, 3, none⟩ (.slice A1 (ps.length + 1) C1)).heap.size = w2.heap.size := by simp
                    go_wp2_with (first | (go_at_call 29; refine (one_int s _ _ hs (by omega) (by omega)).mono ?_; rintro e w' ⟨rfl, rfl⟩) | (at_builtin; refine wpList_append_own_at _ rfl _ _ 35 rfl (w.heap.size + 2) 5 i5 (.int .u8 0) 1 1 Try.underlying35 hi5 hz5 hs5 hb5 rfl (by decide) _ _ _ rfl (HD.out.his.alloc _) ⟨w2.heap.size, 0, none⟩ 1 1 [bv (rb s k)] rfl rfl ?crb1 ?crb2 ?crb3 ?crb4 ?crb5 ?_))
                    case crb1 =>
                      intro j u hj
                      match j, hj with
                      | 0, hj => simp at hj; subst hj; have h := new_cell (w2.setCell ⟨w.heap.size + 1, 3, none⟩ (.slice A1 (ps.length + 1) C1)) (bv (rb s k)) 5; rw [hsz2] at h; exact h
                    case crb2 => first | rfl | (intro u hu; simp at hu; subst hu; rfl)
                    case crb3 => unfold maxLen; omega
                    case crb4 => omega
                    case crb5 => have := HD.out.old.size; have := HD.out.itm.lt; rw [hsz2] at this; simp; omega
                    intro v2 w3 hown2 hg2 _ hb2
                    obtain ⟨A2, C2, rfl⟩ := own_slice hown2
                    have HF2 := Lib.hid (HD.out.hi _ hown2 hg2 (by simpa using hb2))
                    have t4 := (HD.out.itm.grown (World.grownBy_alloc _ _ none) (by simp)).grown hg2 (ne_own HD.out.his (by omega))
                    have f4' := t4.free 4
                    obtain ⟨_, _, _, _, e4x⟩ := t4.cell
                    clear t4 hown2 hg2 hb2
                    go_wp2_with fail
                    go_roundw
                    case rel =>
                      refine ⟨_, false, _, _, ps ++ [(rb s k, rb s k)], rfl, rfl, by omega, by simp; omega, HF2.out, ?_⟩
                      have := HR.out
                      rw [HFU.out, rs_one s k _ _ _ hlt HEND HSP.out] at this
                      rw [← this]
                      refine (rs_fuel s _ (s.size - k) _ _ _ (by omega) (by omega)).trans ?_
                      congr 1
                      funext c
                      exact F_snoc ps _ _ c
                    case measure => simp [intOf]; omega
                  · go_wp2_with (first | (go_at_call 29; refine (one_int s _ _ hs (by omega) (by omega)).mono ?_; rintro e w' ⟨rfl, rfl⟩) | (at_builtin; refine wpList_append_own_at _ rfl _ _ 35 rfl (w.heap.size + 2) 5 i5 (.int .u8 0) 1 1 Try.underlying35 hi5 hz5 hs5 hb5 rfl (by decide) _ _ _ rfl (HM.out.los.alloc _) ⟨wr.heap.size, 0, none⟩ 1 1 [bv (rb s k)] rfl rfl ?cta1 ?cta2 ?cta3 ?cta4 ?cta5 ?_))
                    case cta1 =>
                      intro j u hj
                      match j, hj with
                      | 0, hj => simp at hj; subst hj; simp [Addr.add, bv]
                    case cta2 => first | rfl | (intro u hu; simp at hu; subst hu; rfl)
                    case cta3 => unfold maxLen; omega
                    case cta4 => omega
                    case cta5 => have := HM.out.old.size; have := HM.out.itm.lt; simp; omega
                    intro v1 w2 hown1 hg1 _ hb1
                    obtain ⟨A1, C1, rfl⟩ := own_slice hown1
                    have HD := Lib.hid (HM.out.lo _ hown1 hg1 (by simpa using hb1))
                    have t3 := (HM.out.itm.grown (World.grownBy_alloc wr _ none) (by simp)).grown hg1 (ne_own HM.out.los (by omega))
                    have f3 := t3.free 3
                    obtain ⟨_, _, _, e3, e4⟩ := t3.cell
                    have g4 := HD.out.itm.free 4
                    obtain ⟨_, _, _, _, e4'⟩ := HD.out.itm.cell
                    clear t3 hown1 hg1 hb1 e4
                    have hsz2 : (w2.setCell ⟨w.heap.size + 1, 3, none⟩ (.slice A1 (ps.length + 1) C1)).heap.size = w2.heap.size := by simp
                    go_wp2_with (first | (go_at_call 29; refine (one_int s _ _ hs (by omega) (by omega)).mono ?_; rintro e w' ⟨rfl, rfl⟩) | (at_builtin; refine wpList_append_own_at _ rfl _ _ 35 rfl (w.heap.size + 2) 5 i5 (.int .u8 0) 1 1 Try.underlying35 hi5 hz5 hs5 hb5 rfl (by decide) _ _ _ rfl (HD.out.his.alloc _) ⟨w2.heap.size, 0, none⟩ 1 1 [bv (rb s k)] rfl rfl ?ctb1 ?ctb2 ?ctb3 ?ctb4 ?ctb5 ?_))
                    case ctb1 =>
                      intro j u hj
                      match j, hj with
                      | 0, hj => simp at hj; subst hj; have h := new_cell (w2.setCell ⟨w.heap.size + 1, 3, none⟩ (.slice A1 (ps.length + 1) C1)) (bv (rb s k)) 5; rw [hsz2] at h; exact h
                    case ctb2 => first | rfl | (intro u hu; simp at hu; subst hu; rfl)
                    case ctb3 => unfold maxLen; omega
                    case ctb4 => omega
                    case ctb5 => have := HD.out.old.size; have := HD.out.itm.lt; rw [hsz2] at this; simp; omega
                    intro v2 w3 hown2 hg2 _ hb2
                    obtain ⟨A2, C2, rfl⟩ := own_slice hown2
                    have HF2 := Lib.hid (HD.out.hi _ hown2 hg2 (by simpa using hb2))
                    have t4 := (HD.out.itm.grown (World.grownBy_alloc _ _ none) (by simp)).grown hg2 (ne_own HD.out.his (by omega))
                    have f4' := t4.free 4
                    obtain ⟨_, _, _, _, e4x⟩ := t4.cell
                    clear t4 hown2 hg2 hb2
                    go_wp2_with fail
                    go_roundw
                    case rel =>
                      refine ⟨_, false, _, _, ps ++ [(rb s k, rb s k)], rfl, rfl, by omega, by simp; omega, HF2.out, ?_⟩
                      have := HR.out
                      rw [HFU.out, rs_one s k _ _ _ hlt HEND HSP.out] at this
                      rw [← this]
                      refine (rs_fuel s _ (s.size - k) _ _ _ (by omega) (by omega)).trans ?_
                      congr 1
                      funext c
                      exact F_snoc ps _ _ c
                    case measure => simp [intOf]; omega
                · have h45' := sz_ne (n := 45) (by decide) h45
                  clear hsp h45
                  rcases hcase with rfl | ⟨rfl, h93⟩
                  · go_wp2_with (first | (go_at_call 29; refine (one_int s _ _ hs (by omega) (by omega)).mono ?_; rintro e w' ⟨rfl, rfl⟩) | (at_builtin; refine wpList_append_own_at _ rfl _ _ 35 rfl (w.heap.size + 2) 5 i5 (.int .u8 0) 1 1 Try.underlying35 hi5 hz5 hs5 hb5 rfl (by decide) _ _ _ rfl (HM.out.los.alloc _) ⟨wr.heap.size, 0, none⟩ 1 1 [bv (rb s k)] rfl rfl ?cua1 ?cua2 ?cua3 ?cua4 ?cua5 ?_))
                    case cua1 =>
                      intro j u hj
                      match j, hj with
                      | 0, hj => simp at hj; subst hj; simp [Addr.add, bv]
                    case cua2 => first | rfl | (intro u hu; simp at hu; subst hu; rfl)
                    case cua3 => unfold maxLen; omega
                    case cua4 => omega
                    case cua5 => have := HM.out.old.size; have := HM.out.itm.lt; simp; omega
                    intro v1 w2 hown1 hg1 _ hb1
                    obtain ⟨A1, C1, rfl⟩ := own_slice hown1
                    have HD := Lib.hid (HM.out.lo _ hown1 hg1 (by simpa using hb1))
                    have t3 := (HM.out.itm.grown (World.grownBy_alloc wr _ none) (by simp)).grown hg1 (ne_own HM.out.los (by omega))
                    have f3 := t3.free 3
                    obtain ⟨_, _, _, e3, e4⟩ := t3.cell
                    have g4 := HD.out.itm.free 4
                    obtain ⟨_, _, _, _, e4'⟩ := HD.out.itm.cell
                    clear t3 hown1 hg1 hb1 e4
                    have hsz2 : (w2.setCell ⟨w.heap.size + 1, 3, none⟩ (.slice A1 (ps.length + 1) C1)).heap.size = w2.heap.size := by simp
                    go_wp2_with (first | (go_at_call 29; refine (one_int s _ _ hs (by omega) (by omega)).mono ?_; rintro e w' ⟨rfl, rfl⟩) | (at_builtin; refine wpList_append_own_at _ rfl _ _ 35 rfl (w.heap.size + 2) 5 i5 (.int .u8 0) 1 1 Try.underlying35 hi5 hz5 hs5 hb5 rfl (by decide) _ _ _ rfl (HD.out.his.alloc _) ⟨w2.heap.size, 0, none⟩ 1 1 [bv (rb s k)] rfl rfl ?cub1 ?cub2 ?cub3 ?cub4 ?cub5 ?_))
                    case cub1 =>
                      intro j u hj
                      match j, hj with
                      | 0, hj => simp at hj; subst hj; have h := new_cell (w2.setCell ⟨w.heap.size + 1, 3, none⟩ (.slice A1 (ps.length + 1) C1)) (bv (rb s k)) 5; rw [hsz2] at h; exact h
                    case cub2 => first | rfl | (intro u hu; simp at hu; subst hu; rfl)
                    case cub3 => unfold maxLen; omega
                    case cub4 => omega
                    case cub5 => have := HD.out.old.size; have := HD.out.itm.lt; rw [hsz2] at this; simp; omega
                    intro v2 w3 hown2 hg2 _ hb2
                    obtain ⟨A2, C2, rfl⟩ := own_slice hown2
                    have HF2 := Lib.hid (HD.out.hi _ hown2 hg2 (by simpa using hb2))
                    have t4 := (HD.out.itm.grown (World.grownBy_alloc _ _ none) (by simp)).grown hg2 (ne_own HD.out.his (by omega))
                    have f4' := t4.free 4
                    obtain ⟨_, _, _, _, e4x⟩ := t4.cell
                    clear t4 hown2 hg2 hb2
                    go_wp2_with fail
                    go_roundw
                    case rel =>
                      refine ⟨_, false, _, _, ps ++ [(rb s k, rb s k)], rfl, rfl, by omega, by simp; omega, HF2.out, ?_⟩
                      have := HR.out
                      rw [HFU.out, rs_one s k _ _ _ hlt HEND HSP.out] at this
                      rw [← this]
                      refine (rs_fuel s _ (s.size - k) _ _ _ (by omega) (by omega)).trans ?_
                      congr 1
                      funext c
                      exact F_snoc ps _ _ c
                    case measure => simp [intOf]; omega
                  · go_wp2_with (first | (go_at_call 29; refine (one_int s _ _ hs (by omega) (by omega)).mono ?_; rintro e w' ⟨rfl, rfl⟩) | (at_builtin; refine wpList_append_own_at _ rfl _ _ 35 rfl (w.heap.size + 2) 5 i5 (.int .u8 0) 1 1 Try.underlying35 hi5 hz5 hs5 hb5 rfl (by decide) _ _ _ rfl (HM.out.los.alloc _) ⟨wr.heap.size, 0, none⟩ 1 1 [bv (rb s k)] rfl rfl ?cva1 ?cva2 ?cva3 ?cva4 ?cva5 ?_))
                    case cva1 =>
                      intro j u hj
                      match j, hj with
                      | 0, hj => simp at hj; subst hj; simp [Addr.add, bv]
                    case cva2 => first | rfl | (intro u hu; simp at hu; subst hu; rfl)
                    case cva3 => unfold maxLen; omega
                    case cva4 => omega
                    case cva5 => have := HM.out.old.size; have := HM.out.itm.lt; simp; omega
                    intro v1 w2 hown1 hg1 _ hb1
                    obtain ⟨A1, C1, rfl⟩ := own_slice hown1
                    have HD := Lib.hid (HM.out.lo _ hown1 hg1 (by simpa using hb1))
                    have t3 := (HM.out.itm.grown (World.grownBy_alloc wr _ none) (by simp)).grown hg1 (ne_own HM.out.los (by omega))
                    have f3 := t3.free 3
                    obtain ⟨_, _, _, e3, e4⟩ := t3.cell
                    have g4 := HD.out.itm.free 4
                    obtain ⟨_, _, _, _, e4'⟩ := HD.out.itm.cell
                    clear t3 hown1 hg1 hb1 e4
                    have hsz2 : (w2.setCell ⟨w.heap.size + 1, 3, none⟩ (.slice A1 (ps.length + 1) C1)).heap.size = w2.heap.size := by simp
                    go_wp2_with (first | (go_at_call 29; refine (one_int s _ _ hs (by omega) (by omega)).mono ?_; rintro e w' ⟨rfl, rfl⟩) | (at_builtin; refine wpList_append_own_at _ rfl _ _ 35 rfl (w.heap.size + 2) 5 i5 (.int .u8 0) 1 1 Try.underlying35 hi5 hz5 hs5 hb5 rfl (by decide) _ _ _ rfl (HD.out.his.alloc _) ⟨w2.heap.size, 0, none⟩ 1 1 [bv (rb s k)] rfl rfl ?cvb1 ?cvb2 ?cvb3 ?cvb4 ?cvb5 ?_))
                    case cvb1 =>
                      intro j u hj
                      match j, hj with
                      | 0, hj => simp at hj; subst hj; have h := new_cell (w2.setCell ⟨w.heap.size + 1, 3, none⟩ (.slice A1 (ps.length + 1) C1)) (bv (rb s k)) 5; rw [hsz2] at h; exact h
                    case cvb2 => first | rfl | (intro u hu; simp at hu; subst hu; rfl)
                    case cvb3 => unfold maxLen; omega
                    case cvb4 => omega
                    case cvb5 => have := HD.out.old.size; have := HD.out.itm.lt; rw [hsz2] at this; simp; omega
                    intro v2 w3 hown2 hg2 _ hb2
                    obtain ⟨A2, C2, rfl⟩ := own_slice hown2
                    have HF2 := Lib.hid (HD.out.hi _ hown2 hg2 (by simpa using hb2))
                    have t4 := (HD.out.itm.grown (World.grownBy_alloc _ _ none) (by simp)).grown hg2 (ne_own HD.out.his (by omega))
                    have f4' := t4.free 4
                    obtain ⟨_, _, _, _, e4x⟩ := t4.cell
                    clear t4 hown2 hg2 hb2
                    go_wp2_with fail
                    go_roundw
                    case rel =>
                      refine ⟨_, false, _, _, ps ++ [(rb s k, rb s k)], rfl, rfl, by omega, by simp; omega, HF2.out, ?_⟩
                      have := HR.out
                      rw [HFU.out, rs_one s k _ _ _ hlt HEND HSP.out] at this
                      rw [← this]
                      refine (rs_fuel s _ (s.size - k) _ _ _ (by omega) (by omega)).trans ?_
                      congr 1
                      funext c
                      exact F_snoc ps _ _ c
                    case measure => simp [intOf]; omega
              · clear hsp
                rcases hcase with rfl | ⟨rfl, h93⟩
                · go_wp2_with (first | (go_at_call 29; refine (one_int s _ _ hs (by omega) (by omega)).mono ?_; rintro e w' ⟨rfl, rfl⟩) | (at_builtin; refine wpList_append_own_at _ rfl _ _ 35 rfl (w.heap.size + 2) 5 i5 (.int .u8 0) 1 1 Try.underlying35 hi5 hz5 hs5 hb5 rfl (by decide) _ _ _ rfl (HM.out.los.alloc _) ⟨wr.heap.size, 0, none⟩ 1 1 [bv (rb s k)] rfl rfl ?cya1 ?cya2 ?cya3 ?cya4 ?cya5 ?_))
                  case cya1 =>
                    intro j u hj
                    match j, hj with
                    | 0, hj => simp at hj; subst hj; simp [bv]
                  case cya2 => first | rfl | (intro u hu; simp at hu; subst hu; rfl)
                  case cya3 => unfold maxLen; omega
                  case cya4 => omega
                  case cya5 => have := HM.out.old.size; have := HM.out.itm.lt; simp; omega
                  intro v1 w2 hown1 hg1 _ hb1
                  obtain ⟨A1, C1, rfl⟩ := own_slice hown1
                  have HD := Lib.hid (HM.out.lo _ hown1 hg1 (by simpa using hb1))
                  have t3 := (HM.out.itm.grown (World.grownBy_alloc wr _ none) (by simp)).grown hg1 (ne_own HM.out.los (by omega))
                  have f3 := t3.free 3
                  obtain ⟨_, _, _, e3, e4⟩ := t3.cell
                  have g4 := HD.out.itm.free 4
                  obtain ⟨_, _, _, _, e4'⟩ := HD.out.itm.cell
                  clear t3 hown1 hg1 hb1 e4
                  have hsz2 : (w2.setCell ⟨w.heap.size + 1, 3, none⟩ (.slice A1 (ps.length + 1) C1)).heap.size = w2.heap.size := by simp
                  go_wp2_with (first | (go_at_call 29; refine (one_int s _ _ hs (by omega) (by omega)).mono ?_; rintro e w' ⟨rfl, rfl⟩) | (at_builtin; refine wpList_append_own_at _ rfl _ _ 35 rfl (w.heap.size + 2) 5 i5 (.int .u8 0) 1 1 Try.underlying35 hi5 hz5 hs5 hb5 rfl (by decide) _ _ _ rfl (HD.out.his.alloc _) ⟨w2.heap.size, 0, none⟩ 1 1 [bv (rb s k)] rfl rfl ?cyb1 ?cyb2 ?cyb3 ?cyb4 ?cyb5 ?_))
                  case cyb1 =>
                    intro j u hj
                    match j, hj with
                    | 0, hj => simp at hj; subst hj; have h := new_cell (w2.setCell ⟨w.heap.size + 1, 3, none⟩ (.slice A1 (ps.length + 1) C1)) (bv (rb s k)) 5; rw [hsz2] at h; exact h
                  case cyb2 => first | rfl | (intro u hu; simp at hu; subst hu; rfl)
                  case cyb3 => unfold maxLen; omega
                  case cyb4 => omega
                  case cyb5 => have := HD.out.old.size; have := HD.out.itm.lt; rw [hsz2] at this; simp; omega
                  intro v2 w3 hown2 hg2 _ hb2
                  obtain ⟨A2, C2, rfl⟩ := own_slice hown2
                  have HF2 := Lib.hid (HD.out.hi _ hown2 hg2 (by simpa using hb2))
                  have t4 := (HD.out.itm.grown (World.grownBy_alloc _ _ none) (by simp)).grown hg2 (ne_own HD.out.his (by omega))
                  have f4' := t4.free 4
                  obtain ⟨_, _, _, _, e4x⟩ := t4.cell
                  clear t4 hown2 hg2 hb2
                  go_wp2_with fail
                  go_roundw
                  case rel =>
                    refine ⟨_, false, _, _, ps ++ [(rb s k, rb s k)], rfl, rfl, by omega, by simp; omega, HF2.out, ?_⟩
                    have := HR.out
                    rw [HFU.out, rs_one s k _ _ _ hlt HEND HSP.out] at this
                    rw [← this]
                    refine (rs_fuel s _ (s.size - k) _ _ _ (by omega) (by omega)).trans ?_
                    congr 1
                    funext c
                    exact F_snoc ps _ _ c
                  case measure => simp [intOf]; omega
                · go_wp2_with (first | (go_at_call 29; refine (one_int s _ _ hs (by omega) (by omega)).mono ?_; rintro e w' ⟨rfl, rfl⟩) | (at_builtin; refine wpList_append_own_at _ rfl _ _ 35 rfl (w.heap.size + 2) 5 i5 (.int .u8 0) 1 1 Try.underlying35 hi5 hz5 hs5 hb5 rfl (by decide) _ _ _ rfl (HM.out.los.alloc _) ⟨wr.heap.size, 0, none⟩ 1 1 [bv (rb s k)] rfl rfl ?cza1 ?cza2 ?cza3 ?cza4 ?cza5 ?_))
                  case cza1 =>
                    intro j u hj
                    match j, hj with
                    | 0, hj => simp at hj; subst hj; simp [bv]
                  case cza2 => first | rfl | (intro u hu; simp at hu; subst hu; rfl)
                  case cza3 => unfold maxLen; omega
                  case cza4 => omega
                  case cza5 => have := HM.out.old.size; have := HM.out.itm.lt; simp; omega
                  intro v1 w2 hown1 hg1 _ hb1
                  obtain ⟨A1, C1, rfl⟩ := own_slice hown1
                  have HD := Lib.hid (HM.out.lo _ hown1 hg1 (by simpa using hb1))
                  have t3 := (HM.out.itm.grown (World.grownBy_alloc wr _ none) (by simp)).grown hg1 (ne_own HM.out.los (by omega))
                  have f3 := t3.free 3
                  obtain ⟨_, _, _, e3, e4⟩ := t3.cell
                  have g4 := HD.out.itm.free 4
                  obtain ⟨_, _, _, _, e4'⟩ := HD.out.itm.cell
                  clear t3 hown1 hg1 hb1 e4
                  have hsz2 : (w2.setCell ⟨w.heap.size + 1, 3, none⟩ (.slice A1 (ps.length + 1) C1)).heap.size = w2.heap.size := by simp
                  go_wp2_with (first | (go_at_call 29; refine (one_int s _ _ hs (by omega) (by omega)).mono ?_; rintro e w' ⟨rfl, rfl⟩) | (at_builtin; refine wpList_append_own_at _ rfl _ _ 35 rfl (w.heap.size + 2) 5 i5 (.int .u8 0) 1 1 Try.underlying35 hi5 hz5 hs5 hb5 rfl (by decide) _ _ _ rfl (HD.out.his.alloc _) ⟨w2.heap.size, 0, none⟩ 1 1 [bv (rb s k)] rfl rfl ?czb1 ?czb2 ?czb3 ?czb4 ?czb5 ?_))
                  case czb1 =>
                    intro j u hj
                    match j, hj with
                    | 0, hj => simp at hj; subst hj; have h := new_cell (w2.setCell ⟨w.heap.size + 1, 3, none⟩ (.slice A1 (ps.length + 1) C1)) (bv (rb s k)) 5; rw [hsz2] at h; exact h
                  case czb2 => first | rfl | (intro u hu; simp at hu; subst hu; rfl)
                  case czb3 => unfold maxLen; omega
                  case czb4 => omega
                  case czb5 => have := HD.out.old.size; have := HD.out.itm.lt; rw [hsz2] at this; simp; omega
                  intro v2 w3 hown2 hg2 _ hb2
                  obtain ⟨A2, C2, rfl⟩ := own_slice hown2
                  have HF2 := Lib.hid (HD.out.hi _ hown2 hg2 (by simpa using hb2))
                  have t4 := (HD.out.itm.grown (World.grownBy_alloc _ _ none) (by simp)).grown hg2 (ne_own HD.out.his (by omega))
                  have f4' := t4.free 4
                  obtain ⟨_, _, _, _, e4x⟩ := t4.cell
                  clear t4 hown2 hg2 hb2
                  go_wp2_with fail
                  go_roundw
                  case rel =>
                    refine ⟨_, false, _, _, ps ++ [(rb s k, rb s k)], rfl, rfl, by omega, by simp; omega, HF2.out, ?_⟩
                    have := HR.out
                    rw [HFU.out, rs_one s k _ _ _ hlt HEND HSP.out] at this
                    rw [← this]
                    refine (rs_fuel s _ (s.size - k) _ _ _ (by omega) (by omega)).trans ?_
                    congr 1
                    funext c
                    exact F_snoc ps _ _ c
                  case measure => simp [intOf]; omega
        · have HE : Hid (R = (fun _ => false, 0)) := by
            have := HR.out
            rw [show s.size + 1 - k = (s.size - k) + 1 from by omega, rs_end s k fb (F ps) _ hlt] at this
            exact this.symm
          obtain ⟨z0, z1, z2, z3, z4⟩ := HM.out.res.cell
          obtain ⟨c0, c1, c2, c3, c4⟩ := HM.out.itm.cell
          have y := HM.out.res.free
          have y0 := y 0
          have y1 := y 1
          have y2 := y 2
          have y3 := y 3
          have y4 := y 4
          clear y
          obtain ⟨A1, C1, rfl⟩ := own_slice HM.out.los
          obtain ⟨A2, C2, rfl⟩ := own_slice HM.out.his
          go_wp2_with fail
          have hW := HM.out.res.over 3 nb (.slice A1 ps.length C1) (.slice A2 ps.length C2)
          have hBW : Below w.heap.size w (((((wr.setCell ⟨w.heap.size, 0, none⟩ (.int .i64 3)).setCell ⟨w.heap.size, 1, none⟩ (.int .u8 0)).setCell ⟨w.heap.size, 2, none⟩ (.bool nb)).setCell ⟨w.heap.size, 3, none⟩ (.slice A1 ps.length C1)).setCell ⟨w.heap.size, 4, none⟩ (.slice A2 ps.length C2)) :=
            ((((HM.out.old.setCell (Nat.le_refl _) _).setCell (Nat.le_refl _) _).setCell (Nat.le_refl _) _).setCell (Nat.le_refl _) _).setCell (Nat.le_refl _) _
          have hl : World.ownsRow (((((wr.setCell ⟨w.heap.size, 0, none⟩ (.int .i64 3)).setCell ⟨w.heap.size, 1, none⟩ (.int .u8 0)).setCell ⟨w.heap.size, 2, none⟩ (.bool nb)).setCell ⟨w.heap.size, 3, none⟩ (.slice A1 ps.length C1)).setCell ⟨w.heap.size, 4, none⟩ (.slice A2 ps.length C2)) (w.heap.size + 2) 5 1 (.slice A1 ps.length C1) ps.length (ps.map fun p => bv p.1) := by
            refine ownsRow_setCell_below (ownsRow_setCell_below (ownsRow_setCell_below (ownsRow_setCell_below (ownsRow_setCell_below HM.out.los ?_ _) ?_ _) ?_ _) ?_ _) ?_ _ <;> (show w.heap.size < w.heap.size + 2; omega)
          have hh : World.ownsRow (((((wr.setCell ⟨w.heap.size, 0, none⟩ (.int .i64 3)).setCell ⟨w.heap.size, 1, none⟩ (.int .u8 0)).setCell ⟨w.heap.size, 2, none⟩ (.bool nb)).setCell ⟨w.heap.size, 3, none⟩ (.slice A1 ps.length C1)).setCell ⟨w.heap.size, 4, none⟩ (.slice A2 ps.length C2)) (w.heap.size + 2) 5 1 (.slice A2 ps.length C2) ps.length (ps.map fun p => bv p.2) := by
            refine ownsRow_setCell_below (ownsRow_setCell_below (ownsRow_setCell_below (ownsRow_setCell_below (ownsRow_setCell_below HM.out.his ?_ _) ?_ _) ?_ _) ?_ _) ?_ _ <;> (show w.heap.size < w.heap.size + 2; omega)
          generalize ((((wr.setCell ⟨w.heap.size, 0, none⟩ (.int .i64 3)).setCell ⟨w.heap.size, 1, none⟩ (.int .u8 0)).setCell ⟨w.heap.size, 2, none⟩ (.bool nb)).setCell ⟨w.heap.size, 3, none⟩ (.slice A1 ps.length C1)).setCell ⟨w.heap.size, 4, none⟩ (.slice A2 ps.length C2) = W at *
          obtain ⟨d0, d1, d2, d3, d4⟩ := hW.cell
          refine bodyPost_ret (v := .tuple #[.agg #[.int .i64 (3 : Nat), .int .u8 ((0 : UInt8).toNat : Nat), .bool nb, .slice A1 ps.length C1, .slice A2 ps.length C2], .int .i64 ((k + 1 : Nat) : Int), .bool (decide (k < s.size))]) ?_ rfl ?_
          · simp [results, Try.results35, go_sem, d0, d1, d2, d3, d4, hlt]
          · exact ⟨_, _, ps, k, rfl, hl, hh, by omega, by omega, hBW, fun h => absurd h hlt, fun _ => by rw [HE.out]⟩
end Go.Proofs.Ytpgaeldjiiaoiaa
