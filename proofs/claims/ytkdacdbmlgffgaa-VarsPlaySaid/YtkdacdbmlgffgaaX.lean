import Derived.Test.YtkdacdbmlgffgaaW
import Derived.Deep.RegionHeld3
namespace Go.Proofs.Ytkdacdbmlgffgaa
open Go.RowKit
set_option linter.unusedVariables false

/-- Two sets of variables that share nothing. -/
structure Apart (g : Nat) (v : Value) (g' : Nat) (v' : Value) : Prop where
  ne : g ≠ g'
  a : v.ownBlock ≠ some g'
  b : v'.ownBlock ≠ some g
  c : ∀ k, v.ownBlock = some k → v'.ownBlock ≠ some k
theorem Apart.symm {g g' : Nat} {v v' : Value} (h : Apart g v g' v') : Apart g' v' g v := ⟨fun e => h.ne e.symm, h.b, h.a, fun k hk e => h.c k e hk⟩
theorem Apart.moved {w : World} {T : TypeId} {B g g' : Nat} {v v' v1 : Value} {L' : List Pr} (h : Apart g v g' v') (hm : v1.ownBlock = v.ownBlock ∨ ∀ j, v1.ownBlock = some j → w.heap.size ≤ j) (hV : VAt w T B g' v' L') : Apart g v1 g' v' := by
  refine ⟨h.ne, ?_, h.b, ?_⟩
  · rcases hm with e | e
    · rw [e]; exact h.a
    · intro e2; have := e _ e2; have := hV.lt; omega
  · intro k hk e3
    rcases hm with e | e
    · rw [e] at hk; exact h.c k hk e3
    · have := e _ hk; have := (hV.row.lt k e3).2; omega
theorem VAt.beside {w w' : World} {T : TypeId} {B g g' : Nat} {v v' : Value} {L' : List Pr} (hV : VAt w T B g' v' L') (ha : Apart g v g' v') (hO : Only (foot g v) w w') : VAt w' T B g' v' L' :=
  hV.only hO (fun e => by rcases e with e | e; exact ha.ne e.symm; exact ha.a e) (fun k hk e => by rcases e with e | e; exact ha.b (by rw [hk, e]); exact ha.c k e hk)
/-- A block of no set. -/
def Out (ab g : Nat) (v : Value) : Prop := ab ≠ g ∧ v.ownBlock ≠ some ab
theorem Out.moved {w : World} {ab g : Nat} {v v1 : Value} (h : Out ab g v) (hm : v1.ownBlock = v.ownBlock ∨ ∀ j, v1.ownBlock = some j → w.heap.size ≤ j) (hl : ab < w.heap.size) : Out ab g v1 := by
  refine ⟨h.1, ?_⟩
  rcases hm with e | e
  · rw [e]; exact h.2
  · intro e2; have := e _ e2; omega
theorem Out.new {w : World} {T : TypeId} {B g : Nat} {v : Value} {L : List Pr} (h : VAt w T B g v L) : Out w.heap.size g v := ⟨fun e => by have := h.lt; omega, fun e => by have := (h.row.lt _ e).2; omega⟩
/-- The call in hand, in a box of its own. -/
structure Box (w : World) (ab : Nat) (o : Bool) (x y : ByteArray) : Prop where
  c0 : w.cell? ⟨ab, 0, none⟩ = some (.bool o)
  c1 : w.cell? ⟨ab, 1, none⟩ = some (.string x)
  c2 : w.cell? ⟨ab, 2, none⟩ = some (.string y)
theorem Box.lt {w : World} {ab : Nat} {o : Bool} {x y : ByteArray} (h : Box w ab o x y) : ab < w.heap.size := World.block_lt_of_cell? w ⟨ab, 0, none⟩ h.c0
theorem Box.below {w w' : World} {ab : Nat} {o : Bool} {x y : ByteArray} (h : Box w ab o x y) (hb : Below w.heap.size w w') : Box w' ab o x y :=
  ⟨(hb.cell (p := ⟨ab, 0, none⟩) h.lt).trans h.c0, (hb.cell (p := ⟨ab, 1, none⟩) h.lt).trans h.c1, (hb.cell (p := ⟨ab, 2, none⟩) h.lt).trans h.c2⟩
theorem Box.beside {w w' : World} {ab g : Nat} {v : Value} {o : Bool} {x y : ByteArray} (h : Box w ab o x y) (ho : Out ab g v) (hO : Only (foot g v) w w') : Box w' ab o x y := by
  have hb := hO.block ab h.lt (fun e => by rcases e with e | e; exact ho.1 e; exact ho.2 e)
  exact ⟨(World.cell?_of_block (a := ⟨ab, 0, none⟩) hb).trans h.c0, (World.cell?_of_block (a := ⟨ab, 1, none⟩) hb).trans h.c1, (World.cell?_of_block (a := ⟨ab, 2, none⟩) hb).trans h.c2⟩
/-- What stands at the head of a round. -/
structure St (B g1 g2 g3 : Nat) (v1 v2 v3 : Value) (L M : List Pr) (w : World) : Prop where
  s1 : VAt w 26 B g1 v1 L
  s2 : VAt w 26 B g2 v2 M
  s3 : VAt w 29 B g3 v3 L
  a12 : Apart g1 v1 g2 v2
  a13 : Apart g1 v1 g3 v3
  a23 : Apart g2 v2 g3 v3
theorem St.below {B g1 g2 g3 : Nat} {v1 v2 v3 : Value} {L M : List Pr} {w w' : World} (h : St B g1 g2 g3 v1 v2 v3 L M w) (hb : Below w.heap.size w w') : St B g1 g2 g3 v1 v2 v3 L M w' :=
  ⟨h.s1.below hb, h.s2.below hb, h.s3.below hb, h.a12, h.a13, h.a23⟩
set_option maxRecDepth 100000 in
set_option maxHeartbeats 8000000 in
theorem play_walk (v : Value) (l : List Act3) (W : World) (hA : Acts W v l) :
    Calls Try.prog 3 #[v] W fun e W' => e = .returned (.bool true) ∧ Below W.heap.size W W' := by
  obtain ⟨a1, c1, rfl⟩ := hA.form
  have HA := Lib.hid hA
  have hl0 : (0 : Int) ≤ (l.length : Int) := by omega
  clear hA
  obtain ⟨b1, hb1⟩ : ∃ b, decide ((100 : Int) < (l.length : Int)) = b := ⟨_, rfl⟩
  have HL := Lib.hid (fun h : b1 = false => (by have := of_decide_eq_false (hb1.trans h); omega : l.length ≤ 100))
  cases b1 with
  | true =>
    go_enter Try.func3, Try.ntmps3
    go_wp2_with fail
    refine (alive_any _).mono ?_
    rintro e w1 ⟨rfl, hB1⟩
    have HB1 := Lib.hid hB1
    clear hB1
    simp only []
    go_wp2_with fail
    go_ret
    exact ⟨rfl, HB1.out⟩
  | false =>
    have hln := HL.out rfl
    have hlI : (l.length : Int) ≤ 100 := by omega
    obtain ⟨n, hn⟩ : ∃ n, l.length = n := ⟨_, rfl⟩
    have HN := Lib.hid hn
    rw [hn] at hb1 hl0 hlI hln HA ⊢
    clear hn HL
    go_enter Try.func3, Try.ntmps3
    go_wp2_with fail
    refine (alive_any _).mono ?_
    rintro e w1 ⟨rfl, hB1⟩
    have HB1 := Lib.hid hB1
    clear hB1
    simp only []
    go_wp2_with fail
    have HB2 : Hid (Below W.heap.size W (((w1.alloc (.cells #[.slice none 0 0] 26)).alloc (.cells #[.slice none 0 0] 26)).alloc (.cells #[.slice none 0 0] 29))) :=
      ((HB1.out.alloc HB1.out.size _).alloc (by have := HB1.out.size; simp; omega) _).alloc (by have := HB1.out.size; simp; omega) _
    have HST : Hid (St W.heap.size w1.heap.size (w1.heap.size + 1) (w1.heap.size + 1 + 1) (.slice none 0 0) (.slice none 0 0) (.slice none 0 0) [] [] (((w1.alloc (.cells #[.slice none 0 0] 26)).alloc (.cells #[.slice none 0 0] 26)).alloc (.cells #[.slice none 0 0] 29))) := by
      have q1 := VAt.new w1 26 W.heap.size HB1.out.size
      have q2 := VAt.new (w1.alloc (.cells #[.slice none 0 0] 26)) 26 W.heap.size (by have := HB1.out.size; simp; omega)
      have q3 := VAt.new ((w1.alloc (.cells #[.slice none 0 0] 26)).alloc (.cells #[.slice none 0 0] 26)) 29 W.heap.size (by have := HB1.out.size; simp; omega)
      have z1 : (w1.alloc (.cells #[.slice none 0 0] 26)).heap.size = w1.heap.size + 1 := by simp
      have z2 : ((w1.alloc (.cells #[.slice none 0 0] 26)).alloc (.cells #[.slice none 0 0] 26)).heap.size = w1.heap.size + 1 + 1 := by simp
      rw [z1] at q2
      rw [z2] at q3
      have m1 := (q1.below ((Below.refl _ _).alloc (Nat.le_refl _) (.cells #[.slice none 0 0] 26))).below ((Below.refl _ _).alloc (Nat.le_refl _) (.cells #[.slice none 0 0] 29))
      have m2 := q2.below ((Below.refl _ _).alloc (Nat.le_refl _) (.cells #[.slice none 0 0] 29))
      exact ⟨m1, m2, q3, ⟨by omega, by simp [Value.ownBlock], by simp [Value.ownBlock], by simp [Value.ownBlock]⟩, ⟨by omega, by simp [Value.ownBlock], by simp [Value.ownBlock], by simp [Value.ownBlock]⟩, ⟨by omega, by simp [Value.ownBlock], by simp [Value.ownBlock], by simp [Value.ownBlock]⟩⟩
    obtain ⟨g1, hg1⟩ : ∃ g, w1.heap.size = g := ⟨_, rfl⟩
    rw [hg1] at HST ⊢
    obtain ⟨g2, hg2⟩ : ∃ g, g1 + 1 = g := ⟨_, rfl⟩
    rw [hg2] at HST ⊢
    obtain ⟨g3, hg3⟩ : ∃ g, g2 + 1 = g := ⟨_, rfl⟩
    rw [hg3] at HST ⊢
    clear hg1 hg2 hg3
    obtain ⟨B, hB⟩ : ∃ B, W.heap.size = B := ⟨_, rfl⟩
    rw [hB] at HST HB2
    have HBE := Lib.hid hB
    clear hB HB1
    go_loopw [7] (fun i wr => ∃ (k : Nat) (L M : List Pr) (v1 v2 v3 : Value), k ≤ n ∧ i = .int .i64 k ∧ Hid (St B g1 g2 g3 v1 v2 v3 L M wr) ∧ Hid (Ris L ∧ Ris M ∧ L.length ≤ k ∧ M.length ≤ k) ∧ Hid (Below B W wr)) (fun i _ => n - (intOf i).toNat)
    case atStart => exact ⟨0, [], [], _, _, _, by omega, rfl, HST.out, ⟨by simp, by simp, by simp, by simp⟩, HB2.out⟩
    case round =>
      obtain ⟨k, L, M, v1, v2, v3, hk, rfl, HS, HR, HB⟩ := hrel
      by_cases hlt : k < n
      · have hltI : (k : Int) < (n : Int) := by omega
        have hk0 : (0 : Int) ≤ (k : Int) := by omega
        have hkl : k < l.length := by have := HN.out; omega
        obtain ⟨b, off, x, y, rfl, hbl, p0, p1, p2, z1, z2, hx, hy⟩ := (HA.out.below (by rw [HBE.out]; exact HB.out)).get k hkl
        obtain ⟨o, ho⟩ : ∃ o, l[k].o = o := ⟨_, rfl⟩
        rw [ho] at p0
        have ad := add3 b off k
        have HZ2 := Lib.hid z2
        clear hx hy ho z1 z2
        by_cases hx : x.size ≤ 100 ∧ y.size ≤ 5000
        · obtain ⟨hx1, hy1⟩ := hx
          have e1 : decide ((100 : Int) < (x.size : Int)) = false := decide_eq_false (by omega)
          have e2 : decide ((5000 : Int) < (y.size : Int)) = false := decide_eq_false (by omega)
          -- ROUND
          have HAL := Lib.hid ((Below.refl wr.heap.size wr).alloc (Nat.le_refl _) (.cells #[.bool o, .string x, .string y] 31))
          have HB3 : Hid (Below B W (wr.alloc (.cells #[.bool o, .string x, .string y] 31))) := HB.out.alloc (by have := HB.out.size; rw [HBE.out] at this; exact this) _
          have HS3 := Lib.hid (HS.out.below HAL.out)
          have HX3 : Hid (Box (wr.alloc (.cells #[.bool o, .string x, .string y] 31)) wr.heap.size o x y) := ⟨by simp only [World.cell?, heap_alloc_new wr]; rfl, by simp only [World.cell?, heap_alloc_new wr]; rfl, by simp only [World.cell?, heap_alloc_new wr]; rfl⟩
          have HO1 := Lib.hid (Out.new HS.out.s1)
          have HO2 := Lib.hid (Out.new HS.out.s2)
          have HO3 := Lib.hid (Out.new HS.out.s3)
          obtain ⟨ab, hab⟩ : ∃ ab, wr.heap.size = ab := ⟨_, rfl⟩
          obtain ⟨wa, hwa⟩ : ∃ wa, wr.alloc (.cells #[.bool o, .string x, .string y] 31) = wa := ⟨_, rfl⟩
          have hBB : B ≤ wr.heap.size := by have := HB.out.size; rw [HBE.out] at this; exact this
          rw [hwa] at HAL HB3 HS3 HX3
          have HAL2 := Lib.hid HAL.out.size
          rw [hab] at HX3 HO1 HO2 HO3
          have HBB : Hid (B ≤ wa.heap.size) := Nat.le_trans hBB HAL2.out
          have HWA := Lib.hid hwa
          have HAB := Lib.hid hab
          have hS := Set_any g2 v2 M ⟨#[120]⟩ y B wa (by have := HR.out.2.2.2; omega) (by decide) HBB.out HR.out.2.1 HS3.out.s2
          have HSO := Lib.hid hS
          clear hS hab hwa hBB HAL
          go_wp2_with fail
          rw [HWA.out, HAB.out]
          refine HSO.out.mono ?_
          rintro e w4 ⟨rfl, hm⟩
          have HB4 := Lib.hid (HB3.out.trans (hm.bel HS3.out.s2 HBB.out))
          obtain ⟨v4, q1, q2, q3⟩ := hm
          have HS4 : Hid (St B g1 g2 g3 v1 v4 v3 L (setR M ⟨#[120]⟩ y) w4) := ⟨HS3.out.s1.beside HS3.out.a12.symm q2, q1, HS3.out.s3.beside HS3.out.a23 q2, (HS3.out.a12.symm.moved q3 HS3.out.s1).symm, HS3.out.a13, HS3.out.a23.moved q3 HS3.out.s3⟩
          have HX4 := Lib.hid (HX3.out.beside HO2.out q2)
          have HM4 : Hid (Ris (setR M ⟨#[120]⟩ y) ∧ (setR M ⟨#[120]⟩ y).length ≤ k + 1) := ⟨ris_setR HR.out.2.1 _ _, Nat.le_trans setR_len (by have := HR.out.2.2.2; omega)⟩
          have HBB4 : Hid (B ≤ w4.heap.size) := Nat.le_trans HBB.out q2.size
          obtain ⟨M4, hM4⟩ : ∃ M4, setR M ⟨#[120]⟩ y = M4 := ⟨_, rfl⟩
          rw [hM4] at HS4 HM4
          clear q1 q2 q3 hM4 HX3 HS3 HSO HO2
          have c0 := HX4.out.c0
          have c1 := HX4.out.c1
          try simp only []
          cases o with
          | true =>
            have HU := Lib.hid (Unset_any g1 v1 L x B w4 (by have := HR.out.2.2.1; omega) HR.out.1 HS4.out.s1)
            go_wp2_with fail
            refine HU.out.mono ?_
            rintro e w5 ⟨rfl, hm⟩
            have HB5 := Lib.hid (HB4.out.trans (hm.bel HS4.out.s1 HBB4.out))
            obtain ⟨u1, q1, q2, q3⟩ := hm
            have HX5 := Lib.hid (HX4.out.beside HO1.out q2)
            have HBB5 : Hid (B ≤ w5.heap.size) := Nat.le_trans HBB4.out q2.size
            have hs3 := HS4.out.s3.beside HS4.out.a13 q2
            have HU2 := Lib.hid (RefUnset_any g3 v3 L x B w5 (by have := HR.out.2.2.1; omega) HR.out.1 HBB5.out hs3)
            have HT := Lib.hid (And.intro q1 (And.intro (HS4.out.s2.beside HS4.out.a12 q2) (And.intro hs3 (And.intro (HS4.out.a12.moved q3 HS4.out.s2) (HS4.out.a13.moved q3 HS4.out.s3)))))
            clear q1 q2 q3 hs3 c0 c1
            have c1 := HX5.out.c1
            simp only []
            go_wp2_with fail
            refine HU2.out.mono ?_
            rintro e w6 ⟨rfl, hm⟩
            have HB6 := Lib.hid (HB5.out.trans (hm.bel HT.out.2.2.1 HBB5.out))
            obtain ⟨u3, q1, q2, q3⟩ := hm
            have HX6 := Lib.hid (HX5.out.beside HO3.out q2)
            have HBB6 : Hid (B ≤ w6.heap.size) := Nat.le_trans HBB5.out q2.size
            have HS6 : Hid (St B g1 g2 g3 u1 v4 u3 (unsetL L x.data.toList) M4 w6) := ⟨HT.out.1.beside HT.out.2.2.2.2.symm q2, HT.out.2.1.beside HS4.out.a23.symm q2, q1, HT.out.2.2.2.1, (HT.out.2.2.2.2.symm.moved q3 HT.out.1).symm, (HS4.out.a23.symm.moved q3 HT.out.2.1).symm⟩
            have HLN : Hid (Ris (unsetL L x.data.toList) ∧ (unsetL L x.data.toList).length ≤ k + 1) := ⟨ris_unset HR.out.1 _, Nat.le_trans unsetL_len (by have := HR.out.2.2.1; omega)⟩
            obtain ⟨L6, hL6⟩ : ∃ L6, unsetL L x.data.toList = L6 := ⟨_, rfl⟩
            rw [hL6] at HS6 HLN
            clear q1 q2 q3 hL6 HT HU HU2 c1
            have HG1 := Lib.hid (Get_any g1 u1 L6 x B w6 (by have := HLN.out.2; omega) HLN.out.1 HS6.out.s1)
            have c1 := HX6.out.c1
            try simp only []
            go_wp2_with fail
            refine HG1.out.mono ?_
            rintro e w7 ⟨rfl, hb⟩
            have HB7 := Lib.hid (HB6.out.trans (hb.mono HBB6.out))
            have HS7 := Lib.hid (HS6.out.below hb)
            have HX7 := Lib.hid (HX6.out.below hb)
            have HBB7 : Hid (B ≤ w7.heap.size) := Nat.le_trans HBB6.out hb.size
            have HG2 := Lib.hid (RefGet_any g3 u3 L6 x B w7 (by have := HLN.out.2; omega) HLN.out.1 HS7.out.s3)
            obtain ⟨gl, hgl⟩ : ∃ gl, getL L6 x.data.toList = gl := ⟨_, rfl⟩
            obtain ⟨gh, hgh⟩ : ∃ gh, has L6 x.data.toList = gh := ⟨_, rfl⟩
            rw [hgl, hgh] at HG2
            simp only [hgl, hgh]
            clear hb hgl hgh HG1 c1
            have c1 := HX7.out.c1
            go_wp2_with fail
            refine HG2.out.mono ?_
            rintro e w8 ⟨rfl, h⟩
            obtain rfl := h.symm
            have HN1 := Lib.hid (fun w => VName_any x w (by omega))
            have HN2 := Lib.hid (fun w => RName_any x w (by omega))
            obtain ⟨nb, hnb⟩ : ∃ nb, okName x = nb := ⟨_, rfl⟩
            rw [hnb] at HN1 HN2
            clear hnb HG2
            obtain ⟨s3, n3, cc3, h3⟩ : ∃ s n c, u3 = .slice s n c := by
              rcases HS7.out.s3.row.form with ⟨h, _⟩ | ⟨_, _, h, _⟩
              · exact ⟨_, _, _, h⟩
              · exact ⟨_, _, _, h⟩
            subst h3
            have c3 := HS7.out.s3.cell
            have HAL7 : Hid (Calls Try.prog 17 #[.pointer (some ⟨g1, 0, none⟩)] w7.drew fun e w' => (∃ v', e = .returned v' ∧ Row w' w7.heap.size v' L6) ∧ Below w7.heap.size w7.drew w') := All_any g1 u1 L6 B w7.drew (by have := HLN.out.2; omega) (HS7.out.below ((Below.refl w7.heap.size w7).drew)).s1
            have HSP : Hid (∀ wq vq, Row wq w7.heap.size vq L6 → Below w7.heap.size w7.drew wq → Calls Try.prog 16 #[vq, .slice s3 n3 cc3] wq fun e w' => e = .returned (.bool true) ∧ Below wq.heap.size wq w') := fun wq vq hq hb => by
              have hs := SamePairs_any vq (.slice s3 n3 cc3) L6 L6 _ _ wq (by have := HLN.out.2; omega) (by have := HLN.out.2; omega) hq ((HS7.out.s3.below (((Below.refl w7.heap.size w7).drew).trans hb)).row)
              rw [show decide (L6 = L6) = true from decide_eq_true rfl] at hs
              exact hs
            have HX1 : Hid (∀ wq : World, Below w7.heap.size w7.drew wq → wq.cell? ⟨ab, 1, none⟩ = some (.string x) ∧ wq.cell? ⟨g3, 0, none⟩ = some (.slice s3 n3 cc3)) := fun wq hb => ⟨(HX7.out.below (((Below.refl w7.heap.size w7).drew).trans hb)).c1, (HS7.out.s3.below (((Below.refl w7.heap.size w7).drew).trans hb)).cell⟩
            try simp only []
            go_wp2_with fail
            go_region_held3 (fun w' => w'.cell? ⟨ab, 1, none⟩ = some (.string x) ∧ w'.cell? ⟨g3, 0, none⟩ = some (.slice s3 n3 cc3)) (first | exact HX1.out _ (hbq.trans (hbz.mono hbq.size)) | exact HX1.out _ hbq | exact ⟨c1, c3⟩) (first
              | (go_at_call 14; refine (HN1.out _).mono ?_; rintro e w' ⟨rfl, h⟩; obtain rfl := h.symm)
              | (go_at_call 15; refine (HN2.out _).mono ?_; rintro e w' ⟨rfl, h⟩; obtain rfl := h.symm)
              | (go_at_call 17; refine HAL7.out.mono ?_; rintro e wq ⟨⟨vq, rfl, hvq⟩, hbq⟩)
              | (go_at_call 16; refine (HSP.out _ _ hvq hbq).mono ?_; rintro e wz ⟨rfl, hbz⟩))
            all_goals
              have HBZ : Hid (Below w7.heap.size w7 wz) := ((Below.refl w7.heap.size w7).drew).trans (hbq.trans (hbz.mono hbq.size))
              have HB9 : Hid (Below B W wz) := HB7.out.trans (HBZ.out.mono HBB7.out)
              have HS9 := Lib.hid (HS7.out.below HBZ.out)
              clear hbq hbz hvq
              go_wp2_with fail
              exact ⟨⟨k + 1, L6, M4, u1, v4, _, by omega, by go_num, HS9.out, ⟨HLN.out.1, HM4.out.1, HLN.out.2, HM4.out.2⟩, HB9.out⟩, by simp [intOf]; omega⟩
          | false =>
            have c2 := HX4.out.c2
            have HS1 : Hid (Calls Try.prog 7 #[.pointer (some ⟨g1, 0, none⟩), .string x, .string y] w4.drew fun e w' => e = .returned (.int .i64 (setE L x y)) ∧ Moved 26 B g1 v1 (setR L x y) w4.drew w') := Set_any g1 v1 L x y B w4.drew (by have := HR.out.2.2.1; omega) (by omega) HBB4.out HR.out.1 (HS4.out.below ((Below.refl w4.heap.size w4).drew)).s1
            have HS2 : Hid (∀ w5, Moved 26 B g1 v1 (setR L x y) w4.drew w5 → Calls Try.prog 11 #[.pointer (some ⟨g3, 0, none⟩), .string x, .string y] w5 fun e w' => e = .returned (.int .i64 (setE L x y)) ∧ Moved 29 B g3 v3 (setR L x y) w5 w') := fun w5 hm => by
              obtain ⟨u, q1, q2, q3⟩ := hm
              exact RefSet_any g3 v3 L x y B w5 (by have := HR.out.2.2.1; omega) (by omega) HZ2.out (Nat.le_trans HBB4.out q2.size) HR.out.1 ((HS4.out.below ((Below.refl w4.heap.size w4).drew)).s3.beside HS4.out.a13 q2)
            have HK1 : Hid (∀ w5, Moved 26 B g1 v1 (setR L x y) w4.drew w5 → w5.cell? ⟨ab, 1, none⟩ = some (.string x) ∧ w5.cell? ⟨ab, 2, none⟩ = some (.string y)) := fun w5 hm => by
              obtain ⟨u, q1, q2, q3⟩ := hm
              have h := (HX4.out.below ((Below.refl w4.heap.size w4).drew)).beside HO1.out q2
              exact ⟨h.c1, h.c2⟩
            have HK2 : Hid (∀ w5 w6, Moved 26 B g1 v1 (setR L x y) w4.drew w5 → Moved 29 B g3 v3 (setR L x y) w5 w6 → w6.cell? ⟨ab, 1, none⟩ = some (.string x) ∧ w6.cell? ⟨ab, 2, none⟩ = some (.string y)) := fun w5 w6 hm hm2 => by
              obtain ⟨u, q1, q2, q3⟩ := hm
              obtain ⟨u', q1', q2', q3'⟩ := hm2
              have h := ((HX4.out.below ((Below.refl w4.heap.size w4).drew)).beside HO1.out q2).beside HO3.out q2'
              exact ⟨h.c1, h.c2⟩
            go_wp2_with fail
            go_region_held3 (fun w' => w'.cell? ⟨ab, 1, none⟩ = some (.string x) ∧ w'.cell? ⟨ab, 2, none⟩ = some (.string y)) (first | exact HK2.out _ _ hm1 hm2 | exact HK1.out _ hm1 | exact ⟨c1, c2⟩) (first
              | (go_at_call 7; refine HS1.out.mono ?_; rintro e w5 ⟨rfl, hm1⟩)
              | (go_at_call 10; refine (num_any _ _).mono ?_; rintro e w' ⟨rfl, h⟩; obtain rfl := h.symm)
              | (go_at_call 11; refine (HS2.out _ hm1).mono ?_; rintro e w6 ⟨rfl, hm2⟩))
            obtain ⟨u1, q1, q2, q3⟩ := hm1
            obtain ⟨u3, r1, r2, r3⟩ := hm2
            have HD4 := Lib.hid (HS4.out.below ((Below.refl w4.heap.size w4).drew))
            have hs3 := HD4.out.s3.beside HD4.out.a13 q2
            have hs2 := HD4.out.s2.beside HD4.out.a12 q2
            have k12 := HD4.out.a12.moved q3 HD4.out.s2
            have k13 := HD4.out.a13.moved q3 HD4.out.s3
            have HS6 : Hid (St B g1 g2 g3 u1 v4 u3 (setR L x y) M4 w6) := ⟨q1.beside k13.symm r2, hs2.beside HD4.out.a23.symm r2, r1, k12, (k13.symm.moved r3 q1).symm, (HD4.out.a23.symm.moved r3 hs2).symm⟩
            have HX6 : Hid (Box w6 ab false x y) := ((HX4.out.below ((Below.refl w4.heap.size w4).drew)).beside HO1.out q2).beside HO3.out r2
            have HBB6 : Hid (B ≤ w6.heap.size) := Nat.le_trans HBB4.out (Nat.le_trans q2.size r2.size)
            have HB6 : Hid (Below B W w6) := (HB4.out.drew.trans (Moved.bel HD4.out.s1 ⟨u1, q1, q2, q3⟩ HBB4.out)).trans (Moved.bel hs3 ⟨u3, r1, r2, r3⟩ (Nat.le_trans HBB4.out q2.size))
            have HLN : Hid (Ris (setR L x y) ∧ (setR L x y).length ≤ k + 1) := ⟨ris_setR HR.out.1 _ _, Nat.le_trans setR_len (by have := HR.out.2.2.1; omega)⟩
            obtain ⟨L6, hL6⟩ : ∃ L6, setR L x y = L6 := ⟨_, rfl⟩
            rw [hL6] at HS6 HLN
            clear q1 q2 q3 r1 r2 r3 hs3 hs2 k12 k13 hL6 HS1 HS2 HK1 HK2 c0 c1 c2
            have HG1 := Lib.hid (Get_any g1 u1 L6 x B w6 (by have := HLN.out.2; omega) HLN.out.1 HS6.out.s1)
            have c1 := HX6.out.c1
            try simp only []
            go_wp2_with fail
            refine HG1.out.mono ?_
            rintro e w7 ⟨rfl, hb⟩
            have HB7 := Lib.hid (HB6.out.trans (hb.mono HBB6.out))
            have HS7 := Lib.hid (HS6.out.below hb)
            have HX7 := Lib.hid (HX6.out.below hb)
            have HBB7 : Hid (B ≤ w7.heap.size) := Nat.le_trans HBB6.out hb.size
            have HG2 := Lib.hid (RefGet_any g3 u3 L6 x B w7 (by have := HLN.out.2; omega) HLN.out.1 HS7.out.s3)
            obtain ⟨gl, hgl⟩ : ∃ gl, getL L6 x.data.toList = gl := ⟨_, rfl⟩
            obtain ⟨gh, hgh⟩ : ∃ gh, has L6 x.data.toList = gh := ⟨_, rfl⟩
            rw [hgl, hgh] at HG2
            simp only [hgl, hgh]
            clear hb hgl hgh HG1 c1
            have c1 := HX7.out.c1
            go_wp2_with fail
            refine HG2.out.mono ?_
            rintro e w8 ⟨rfl, h⟩
            obtain rfl := h.symm
            have HN1 := Lib.hid (fun w => VName_any x w (by omega))
            have HN2 := Lib.hid (fun w => RName_any x w (by omega))
            obtain ⟨nb, hnb⟩ : ∃ nb, okName x = nb := ⟨_, rfl⟩
            rw [hnb] at HN1 HN2
            clear hnb HG2
            obtain ⟨s3, n3, cc3, h3⟩ : ∃ s n c, u3 = .slice s n c := by
              rcases HS7.out.s3.row.form with ⟨h, _⟩ | ⟨_, _, h, _⟩
              · exact ⟨_, _, _, h⟩
              · exact ⟨_, _, _, h⟩
            subst h3
            have c3 := HS7.out.s3.cell
            have HAL7 : Hid (Calls Try.prog 17 #[.pointer (some ⟨g1, 0, none⟩)] w7.drew fun e w' => (∃ v', e = .returned v' ∧ Row w' w7.heap.size v' L6) ∧ Below w7.heap.size w7.drew w') := All_any g1 u1 L6 B w7.drew (by have := HLN.out.2; omega) (HS7.out.below ((Below.refl w7.heap.size w7).drew)).s1
            have HSP : Hid (∀ wq vq, Row wq w7.heap.size vq L6 → Below w7.heap.size w7.drew wq → Calls Try.prog 16 #[vq, .slice s3 n3 cc3] wq fun e w' => e = .returned (.bool true) ∧ Below wq.heap.size wq w') := fun wq vq hq hb => by
              have hs := SamePairs_any vq (.slice s3 n3 cc3) L6 L6 _ _ wq (by have := HLN.out.2; omega) (by have := HLN.out.2; omega) hq ((HS7.out.s3.below (((Below.refl w7.heap.size w7).drew).trans hb)).row)
              rw [show decide (L6 = L6) = true from decide_eq_true rfl] at hs
              exact hs
            have HX1 : Hid (∀ wq : World, Below w7.heap.size w7.drew wq → wq.cell? ⟨ab, 1, none⟩ = some (.string x) ∧ wq.cell? ⟨g3, 0, none⟩ = some (.slice s3 n3 cc3)) := fun wq hb => ⟨(HX7.out.below (((Below.refl w7.heap.size w7).drew).trans hb)).c1, (HS7.out.s3.below (((Below.refl w7.heap.size w7).drew).trans hb)).cell⟩
            try simp only []
            go_wp2_with fail
            go_region_held3 (fun w' => w'.cell? ⟨ab, 1, none⟩ = some (.string x) ∧ w'.cell? ⟨g3, 0, none⟩ = some (.slice s3 n3 cc3)) (first | exact HX1.out _ (hbq.trans (hbz.mono hbq.size)) | exact HX1.out _ hbq | exact ⟨c1, c3⟩) (first
              | (go_at_call 14; refine (HN1.out _).mono ?_; rintro e w' ⟨rfl, h⟩; obtain rfl := h.symm)
              | (go_at_call 15; refine (HN2.out _).mono ?_; rintro e w' ⟨rfl, h⟩; obtain rfl := h.symm)
              | (go_at_call 17; refine HAL7.out.mono ?_; rintro e wq ⟨⟨vq, rfl, hvq⟩, hbq⟩)
              | (go_at_call 16; refine (HSP.out _ _ hvq hbq).mono ?_; rintro e wz ⟨rfl, hbz⟩))
            all_goals
              have HBZ : Hid (Below w7.heap.size w7 wz) := ((Below.refl w7.heap.size w7).drew).trans (hbq.trans (hbz.mono hbq.size))
              have HB9 : Hid (Below B W wz) := HB7.out.trans (HBZ.out.mono HBB7.out)
              have HS9 := Lib.hid (HS7.out.below HBZ.out)
              clear hbq hbz hvq
              go_wp2_with fail
              exact ⟨⟨k + 1, L6, M4, u1, v4, _, by omega, by go_num, HS9.out, ⟨HLN.out.1, HM4.out.1, HLN.out.2, HM4.out.2⟩, HB9.out⟩, by simp [intOf]; omega⟩
        -- LONG
        · obtain ⟨b6, hb6⟩ : ∃ b, decide ((100 : Int) < (x.size : Int)) = b := ⟨_, rfl⟩
          obtain ⟨b7, hb7⟩ : ∃ b, decide ((5000 : Int) < (y.size : Int)) = b := ⟨_, rfl⟩
          have HNO : Hid (b6 = false → b7 = false → False) := by
            intro e1 e2
            rw [e1] at hb6
            rw [e2] at hb7
            have := of_decide_eq_false hb6
            have := of_decide_eq_false hb7
            exact hx ⟨by omega, by omega⟩
          have HB3 : Hid (Below B W (wr.alloc (.cells #[.bool o, .string x, .string y] 31))) := HB.out.alloc (by have := HB.out.size; rw [HBE.out] at this; exact this) _
          clear hx
          cases b6 <;> cases b7
          all_goals first
            | exact (HNO.out rfl rfl).elim
            | (go_wp2_with fail
               go_ret
               exact ⟨rfl, by rw [HBE.out]; exact HB3.out⟩)
      · have hge : ¬ (k : Int) < (n : Int) := by omega
        go_wp2_with fail
        go_ret
        exact ⟨rfl, by rw [HBE.out]; exact HB.out⟩
end Go.Proofs.Ytkdacdbmlgffgaa
