import Derived.Test.YtmokaagjpkeciaaDoorB
import Derived.Lib.Strings
import Derived.Deep.RegionHeld3
namespace Go.Proofs.YtmokaagjpkeciaaDoor
open Go.RowKit

set_option maxRecDepth 100000 in
set_option maxHeartbeats 2000000 in
theorem alive_any (W : World) :
    Calls Tryd.prog 4 #[] W fun e w' => e = .returned (.bool true) ∧ Below W.heap.size W w' := by
  go_enter Tryd.func4, Tryd.ntmps4
  go_wp2_with fail
  refine (Make0 W).mono ?_
  rintro e w1 ⟨rfl, hB1⟩
  have HB1 := Lib.hid hB1
  clear hB1
  go_wp2_with fail
  refine (Make1 w1).mono ?_
  rintro e w2 ⟨s, rfl, hs, hB2⟩
  have HB2 : Hid (Below W.heap.size W w2) := HB1.out.trans (hB2.mono HB1.out.size)
  clear hB2
  have hne : s.toList.isEmpty = false := by
    rw [Lib.toList_data]
    cases h : s.data.toList with
    | nil => have h2 : s.data.toList.length = s.size := Array.length_toList; rw [h] at h2; simp at h2; omega
    | cons a l => rfl
  go_wp2_with fail
  go_ret
  exact ⟨rfl, HB2.out⟩

/-- The three lots of the law. -/
structure LS (W wr : World) (a b r : Nat) (s t : Nat) : Prop where
  ca : wr.cell? ⟨a, 0, none⟩ = some (.int .u32 s)
  cb : wr.cell? ⟨b, 0, none⟩ = some (.int .u32 t)
  cr : wr.cell? ⟨r, 0, none⟩ = some (.int .i64 s)
  fa : wr.frozen? ⟨a, 0, none⟩ = false
  fb : wr.frozen? ⟨b, 0, none⟩ = false
  fr : wr.frozen? ⟨r, 0, none⟩ = false
  hs : s < 4294967296
  ht : t < 4294967296
  ga : W.heap.size ≤ a
  hab : a < b
  hbr : b < r
  old : Below W.heap.size W wr

theorem set_same {w : World} {p : Addr} {u v : Value} (h : w.cell? p = some u) : (w.setCell p v).cell? p = some v := by
  apply World.cell?_setCell_same; exact h
theorem set_other {w : World} {p q : Addr} {v : Value} (h : p ≠ q) : (w.setCell p v).cell? q = w.cell? q := by
  rw [World.cell?_setCell_other]; exact h
theorem ne_at {g h : Nat} (k : g ≠ h) : (⟨g, 0, none⟩ : Addr) ≠ ⟨h, 0, none⟩ := fun e => k (by injection e)
theorem LS.nb {W wr : World} {a b r s t : Nat} (h : LS W wr a b r s t) : LS W (wr.setCell ⟨b, 0, none⟩ (.int .u32 (nx t))) a b r s (nx t) :=
  ⟨by rw [set_other (ne_at (by have := h.hab; omega))]; exact h.ca, set_same h.cb, by rw [set_other (ne_at (by have := h.hbr; omega))]; exact h.cr,
   by rw [World.frozen?_setCell]; exact h.fa, by rw [World.frozen?_setCell]; exact h.fb, by rw [World.frozen?_setCell]; exact h.fr, h.hs, nx_lt t, h.ga, h.hab, h.hbr, h.old.setCell (p := ⟨b, 0, none⟩) (by have := h.ga; have := h.hab; show _ ≤ b; omega) _⟩
theorem LS.nar {W wr : World} {a b r s t : Nat} (h : LS W wr a b r s t) : LS W ((wr.setCell ⟨a, 0, none⟩ (.int .u32 (nx s))).setCell ⟨r, 0, none⟩ (.int .i64 (nx s))) a b r (nx s) t := by
  have h1 := h.hab
  have h2 := h.hbr
  have h3 := h.ga
  refine ⟨?_, ?_, ?_, ?_, ?_, ?_, nx_lt s, h.ht, h.ga, h.hab, h.hbr, ?_⟩
  · rw [set_other (ne_at (by omega))]; exact set_same h.ca
  · rw [set_other (ne_at (by omega)), set_other (ne_at (by omega))]; exact h.cb
  · refine set_same (u := .int .i64 s) ?_
    rw [set_other (ne_at (by omega))]; exact h.cr
  · rw [World.frozen?_setCell, World.frozen?_setCell]; exact h.fa
  · rw [World.frozen?_setCell, World.frozen?_setCell]; exact h.fb
  · rw [World.frozen?_setCell, World.frozen?_setCell]; exact h.fr
  · exact (h.old.setCell (p := ⟨a, 0, none⟩) (by show _ ≤ a; omega) _).setCell (p := ⟨r, 0, none⟩) (by show _ ≤ r; omega) _

theorem LS.start {W w1 w2 w3 w4 : World} {x y : Int} (hB : Below W.heap.size W w1) (h2 : w2 = w1.alloc (.cells #[.int .u32 (x % 4294967296)] 33)) (h3 : w3 = w2.alloc (.cells #[.int .u32 (y % 4294967296)] 33)) (h4 : w4 = w3.alloc (.cells #[.int .i64 (x % 4294967296)] 35)) :
    LS W w4 w1.heap.size w2.heap.size w3.heap.size (x % 4294967296).toNat (y % 4294967296).toNat := by
  have b2 : Below w1.heap.size w1 w2 := by rw [h2]; exact (Below.refl _ w1).alloc (Nat.le_refl _) _
  have b3 : Below w2.heap.size w2 w3 := by rw [h3]; exact (Below.refl _ w2).alloc (Nat.le_refl _) _
  have b4 : Below w3.heap.size w3 w4 := by rw [h4]; exact (Below.refl _ w3).alloc (Nat.le_refl _) _
  have z2 : w2.heap.size = w1.heap.size + 1 := by rw [h2]; simp
  have z3 : w3.heap.size = w2.heap.size + 1 := by rw [h3]; simp
  have n2 : w2.heap[w1.heap.size]? = some (.cells #[.int .u32 (x % 4294967296)] 33 (0, 0)) := by rw [h2]; exact heap_alloc_new _ _
  have n3 : w3.heap[w2.heap.size]? = some (.cells #[.int .u32 (y % 4294967296)] 33 (0, 0)) := by rw [h3]; exact heap_alloc_new _ _
  have n4 : w4.heap[w3.heap.size]? = some (.cells #[.int .i64 (x % 4294967296)] 35 (0, 0)) := by rw [h4]; exact heap_alloc_new _ _
  have ex : ((x % 4294967296).toNat : Int) = x % 4294967296 := by omega
  have ey : ((y % 4294967296).toNat : Int) = y % 4294967296 := by omega
  have m2 : w4.heap[w1.heap.size]? = some (.cells #[.int .u32 (x % 4294967296)] 33 (0, 0)) := by rw [b4.block _ (by omega), b3.block _ (by omega)]; exact n2
  have m3 : w4.heap[w2.heap.size]? = some (.cells #[.int .u32 (y % 4294967296)] 33 (0, 0)) := by rw [b4.block _ (by omega)]; exact n3
  refine ⟨?_, ?_, ?_, Lib.frozen_of_heap m2 0, Lib.frozen_of_heap m3 0, Lib.frozen_of_heap n4 0, by omega, by omega, hB.size, by omega, by omega, ?_⟩
  · rw [Lib.cell_of_heap m2, ex]; rfl
  · rw [Lib.cell_of_heap m3, ey]; rfl
  · rw [Lib.cell_of_heap n4, ex]; rfl
  · have s1 := hB.size
    exact ((hB.trans (b2.mono s1)).trans (b3.mono (by omega))).trans (b4.mono (by omega))

theorem LS.drew {W wr : World} {a b r s t : Nat} (h : LS W wr a b r s t) : LS W wr.drew a b r s t :=
  ⟨h.ca, h.cb, h.cr, h.fa, h.fb, h.fr, h.hs, h.ht, h.ga, h.hab, h.hbr, h.old.drew⟩

def Ints (w : World) (A : Option Addr) (n : Nat) (zs : Nat → Int) : Prop := 0 < n → ∃ a, A = some a ∧ ∀ k, k < n → w.cell? (a.add k) = some (.int .i64 (zs k))

set_option maxRecDepth 100000 in
set_option maxHeartbeats 4000000 in
theorem lots_walk (seed : Int) (A : Option Addr) (n c : Nat) (zs : Nat → Int) (W : World) (_h0 : -9223372036854775808 ≤ seed) (_h1 : seed ≤ 9223372036854775807) (_hn : n ≤ maxLen)
    (hz : ∀ k, -9223372036854775808 ≤ zs k ∧ zs k ≤ 9223372036854775807) (hS : Ints W A n zs) :
    Calls Tryd.prog 3 #[.int .i64 seed, .slice A n c] W fun e w' => e = .returned (.bool true) ∧ Below W.heap.size W w' := by
  have HZ := Lib.hid hz
  have HS := Lib.hid hS
  clear hz hS
  unfold maxLen at _hn
  go_enter Tryd.func3, Tryd.ntmps3
  go_wp2_with fail
  refine (alive_any _).mono ?_
  rintro e w1 ⟨rfl, hB1⟩
  have HB1 := Lib.hid hB1
  clear hB1
  by_cases hn : n ≤ 200
  · have b1 : ¬ (200 : Int) < (n : Int) := by omega
    go_wp2_with fail
    refine (New_any seed w1).mono ?_
    rintro e w2 ⟨rfl, hw2⟩
    obtain ⟨seed', hseed⟩ : ∃ q, IntKind.i64.wrap (seed + 1) = q := ⟨_, rfl⟩
    have HW2 := Lib.hid hw2
    clear hw2
    go_wp2_with fail
    refine (New_any seed' w2).mono ?_
    rintro e w3 ⟨rfl, hw3⟩
    have HW3 := Lib.hid hw3
    clear hw3
    go_wp2_with fail
    refine (NewLot_any seed w3).mono ?_
    rintro e w4 ⟨rfl, hw4⟩
    have HL0 := Lib.hid (LS.start HB1.out HW2.out HW3.out hw4)
    clear HW2 HW3 hw4 hseed
    generalize w1.heap.size = la at *
    generalize w2.heap.size = lb at *
    generalize w3.heap.size = lr at *
    go_wp2_with fail
    go_loopw [9] (fun i wr => ∃ (k s t : Nat), i = .int .i64 k ∧ k ≤ n ∧ LS W wr la lb lr s t) (fun i _ => n - (intOf i).toNat)
    case atStart => exact ⟨0, _, _, rfl, by omega, HL0.out⟩
    case round =>
      obtain ⟨k, s, t, rfl, hk, hls⟩ := hrel
      have HL := Lib.hid hls
      clear hls
      by_cases hlt : k < n
      · have hltI : (k : Int) < (n : Int) := by omega
        have h0 : (0 : Int) ≤ (k : Int) := by omega
        go_wp2_with fail
        refine (Next_any lb t k wr HL.out.ht (by omega) (by omega) HL.out.cb HL.out.fb).mono ?_
        rintro e w5 ⟨rfl, hw5⟩
        have hl5 := HL.out.nb
        rw [← hw5] at hl5
        have HL5 := Lib.hid hl5
        clear hl5 hw5
        obtain ⟨ad, rfl, hcell⟩ := HS.out (by omega)
        have hck := hcell k hlt
        have had : (ad.add k).block = ad.block := by unfold Addr.add; split <;> rfl
        have hlow : (ad.add k).block < W.heap.size := by
          rcases Nat.lt_or_ge (ad.add k).block W.heap.size with h | h
          · exact h
          · simp [World.cell?, Array.getElem?_eq_none h] at hck
        rw [← HL5.out.old.cell hlow] at hck
        obtain ⟨hz0, hz1⟩ := HZ.out k
        obtain ⟨z, hz⟩ : ∃ z, zs k = z := ⟨_, rfl⟩
        rw [hz] at hck hz0 hz1
        clear hcell hz
        have hna : (⟨la, 0, none⟩ : Addr) ≠ ad.add k := fun e => by have := HL5.out.ga; rw [← e] at hlow; exact absurd hlow (by show ¬ la < _; omega)
        have hnr : (⟨lr, 0, none⟩ : Addr) ≠ ad.add k := fun e => by have := HL5.out.ga; have := HL5.out.hab; have := HL5.out.hbr; rw [← e] at hlow; exact absurd hlow (by show ¬ lr < _; omega)
        go_wp2_with fail
        have har : (⟨la, 0, none⟩ : Addr) ≠ ⟨lr, 0, none⟩ := ne_at (by have := HL5.out.hab; have := HL5.out.hbr; omega)
        have hca := HL5.out.ca
        have hcr := HL5.out.cr
        have hfa := HL5.out.fa
        have hfr := HL5.out.fr
        go_region_held3 (fun w' => w'.cell? (ad.add k) = some (.int .i64 z)) (simp [World.cell?_setCell_other, hna, hnr, hck]) (first
          | (go_at_call 7; refine (Next_any la s z _ HL5.out.hs hz0 hz1 (by simpa using hca) (by simpa using hfa)).mono ?_; rintro e w' ⟨rfl, rfl⟩)
          | (go_at_call 8; refine (RefNext_any lr s z _ HL5.out.hs hz0 hz1 (by simpa [World.cell?_setCell_other, har] using hcr) (by simpa using hfr)).mono ?_; rintro e w' ⟨rfl, rfl⟩))
        have HF := Lib.hid HL5.out.nar.drew
        clear hca hcr hfa hfr hck hna hnr har hlow had
        go_wp2_with fail
        exact ⟨⟨k + 1, nx s, nx t, by go_num, by omega, HF.out⟩, by simp [intOf]; omega⟩
      · have hge : ¬ (k : Int) < (n : Int) := by omega
        go_wp2_with fail
        go_ret
        exact ⟨rfl, HL.out.old⟩
  · have b1 : (200 : Int) < (n : Int) := by omega
    go_wp2_with fail
    go_ret
    exact ⟨rfl, HB1.out⟩
end Go.Proofs.YtmokaagjpkeciaaDoor
