import Derived.Test.YtmokaagjpkeciaaDoorA
import Derived.Test.YtmokaagjpkeciaaDoorY
import Derived.Test.YtmokaagjpkeciaaDoorZ
namespace Go.Proofs.YtmokaagjpkeciaaDoor
open Go.RowKit

/-- A cell elsewhere, below the builder, leaves it as it was. -/
theorem bd_far {B b g : Nat} {bs : List Value} {w : World} (h : Lib.IsBuilder 40 5 B b bs w) (hg : g < B) (v : Value) : Lib.IsBuilder 40 5 B b bs (w.setCell ⟨g, 0, none⟩ v) := by
  have key : ∀ p, Lib.BuilderAt 40 5 B b p bs w → Lib.BuilderAt 40 5 B b p bs (w.setCell ⟨g, 0, none⟩ v) := by
    rintro p ⟨hB, x, hbk, hown, hne⟩
    refine ⟨hB, x, ?_, hown.kept (row := some g) ⟨rfl, rfl, rfl, by simp [World.setCell], fun k _ hk => Below.heap_setCell _ _ _ _ (fun e => hk (by simp [e]))⟩ (Or.inr fun e => ?_), hne⟩
    · rw [Below.heap_setCell _ _ _ _ (by show b ≠ g; omega), hbk]
    · have := (hown.lt g e).1
      omega
  exact h.elim (fun x => .inl (key _ x)) (fun x => .inr (key _ x))

/-- The lot and the builder of Makefile. -/
structure MB (W wr : World) (l : List UInt8) (s : Nat) : Prop where
  lot : wr.cell? ⟨W.heap.size, 0, none⟩ = some (.int .u32 s)
  fz : wr.frozen? ⟨W.heap.size, 0, none⟩ = false
  lt : s < 4294967296
  bd : Lib.IsBuilder 40 5 (W.heap.size + 1) (W.heap.size + 1) (Lib.byteCells l) wr
  old : Below W.heap.size W wr
  sz : W.heap.size + 1 ≤ wr.heap.size

theorem MB.next {W wr : World} {l : List UInt8} {s : Nat} (h : MB W wr l s) : MB W (wr.setCell ⟨W.heap.size, 0, none⟩ (.int .u32 (nx s))) l (nx s) :=
  ⟨by apply World.cell?_setCell_same; exact h.lot, by rw [World.frozen?_setCell]; exact h.fz, nx_lt s, bd_far h.bd (by omega) _, h.old.setCell (p := ⟨W.heap.size, 0, none⟩) (Nat.le_refl _) _, by simpa [World.setCell] using h.sz⟩

theorem bc_cells (l : List UInt8) (s : ByteArray) : Lib.byteCells l ++ Lib.strCells s = Lib.byteCells (l ++ s.data.toList) := by simp [Lib.byteCells, Lib.strCells]
theorem MB.written {W wr w' : World} {l : List UInt8} {s : Nat} {x : ByteArray} (h : MB W wr l s) (hb : Lib.IsBuilder 40 5 (W.heap.size + 1) (W.heap.size + 1) (Lib.byteCells l ++ Lib.strCells x) w') (hB : Below (W.heap.size + 1) wr w') : MB W w' (l ++ x.data.toList) s :=
  ⟨by rw [hB.cell (p := ⟨W.heap.size, 0, none⟩) (Nat.lt_succ_self _)]; exact h.lot, by rw [hB.frozen (p := ⟨W.heap.size, 0, none⟩) (Nat.lt_succ_self _)]; exact h.fz, h.lt, by rw [← bc_cells]; exact hb, h.old.trans (hB.mono (Nat.le_succ _)), Nat.le_trans h.sz hB.size⟩

theorem MB.start (W : World) (s : Nat) (hs : s < 4294967296) : MB W ((W.alloc (.cells #[.int .u32 s] 33)).alloc (.cells #[.pointer none, .slice none 0 0] 40)) [] s := by
  have hn := bd_new (W.alloc (.cells #[.int .u32 s] 33)) (W.heap.size + 1) (by simp)
  have hb0 : Below W.heap.size W (W.alloc (.cells #[.int .u32 s] 33)) := (Below.refl _ W).alloc (Nat.le_refl _) _
  have hb1 : Below (W.heap.size + 1) (W.alloc (.cells #[.int .u32 s] 33)) ((W.alloc (.cells #[.int .u32 s] 33)).alloc (.cells #[.pointer none, .slice none 0 0] 40)) := (Below.refl _ _).alloc (by simp) _
  refine ⟨?_, ?_, hs, by simpa [Lib.byteCells] using hn, hb0.trans (hb1.mono (Nat.le_succ _)), by simp⟩
  · rw [hb1.cell (p := ⟨W.heap.size, 0, none⟩) (Nat.lt_succ_self _)]
    rw [Lib.cell_of_heap (heap_alloc_new _ _)]; rfl
  · rw [hb1.frozen (p := ⟨W.heap.size, 0, none⟩) (Nat.lt_succ_self _)]
    exact Lib.frozen_of_heap (heap_alloc_new _ _) 0

theorem val3 (s : Nat) : 0 ≤ val s 3 ∧ val s 3 < 3 := by
  unfold val
  rw [if_neg (by decide)]
  omega
theorem dec_len (i : Nat) (hi : i < 10) : (Lib.decDigits i).length = 1 := by
  have : ∀ i : Fin 10, (Lib.decDigits i.val).length = 1 := by decide +kernel
  exact this ⟨i, hi⟩

theorem Itoa1 (k : Nat) (hk : k < 10) : ∃ d : ByteArray, d.size = 1 ∧ ∀ w, Calls Tryd.prog 10 #[.int .i64 k] w fun e w' => e = .returned (.string d) ∧ w' = w :=
  ⟨⟨(Lib.decDigits k).toArray⟩, dec_len k hk, fun w => Tryd.strconv_Itoa_small k (by omega) w⟩
theorem sz3 (a d b : ByteArray) : (a ++ d ++ b).size = a.size + d.size + b.size := by rw [ByteArray.size_append, ByteArray.size_append]
theorem sz2 (a d : ByteArray) : (a ++ d).size = a.size + d.size := ByteArray.size_append
theorem len_of (s : ByteArray) : s.data.toList.length = s.size := Array.length_toList

set_option maxRecDepth 100000 in
set_option maxHeartbeats 2000000 in
theorem Make0 (W : World) :
    Calls Tryd.prog 9 #[.int .i64 0, .int .i64 0] W fun e w' => e = .returned (.string ⟨#[]⟩) ∧ Below W.heap.size W w' := by
  have HM := Lib.hid (MB.start W 0 (by decide))
  go_enter Tryd.func9, Tryd.ntmps9
  go_wp2_with fail
  refine (New_any 0 _).mono ?_
  rintro e w1 ⟨rfl, hw1⟩
  subst hw1
  go_wp2_with fail
  go_loop [17] (fun a => a = .int .i64 0) (fun _ => 0)
  case atStart => rfl
  case round =>
    obtain rfl := hrel
    go_wp2_with fail
    refine (Tryd.Builder_String_any (W.heap.size + 1) (W.heap.size + 1) [] _ HM.out.bd HM.out.sz).mono ?_
    rintro e w2 ⟨rfl, hB⟩
    have HB := Lib.hid (HM.out.old.trans (hB.mono (Nat.le_succ _)))
    clear hB
    go_wp2_with fail
    go_ret
    exact ⟨rfl, HB.out⟩

set_option maxRecDepth 100000 in
set_option maxHeartbeats 4000000 in
theorem Make1 (W : World) :
    Calls Tryd.prog 9 #[.int .i64 0, .int .i64 1] W fun e w' => ∃ s : ByteArray, e = .returned (.string s) ∧ 0 < s.size ∧ Below W.heap.size W w' := by
  have HM := Lib.hid (MB.start W 0 (by decide))
  obtain ⟨d, hd, hd1⟩ : ∃ d : ByteArray, ⟨(Lib.decDigits 0).toArray⟩ = d ∧ d.size = 1 := ⟨_, rfl, dec_len 0 (by decide)⟩
  have HI : Hid (∀ w, Calls Tryd.prog 10 #[.int .i64 0] w fun e w' => e = .returned (.string d) ∧ w' = w) := fun w => by
    rw [← hd]; exact Tryd.strconv_Itoa_small 0 (by decide) w
  clear hd
  go_enter Tryd.func9, Tryd.ntmps9
  go_wp2_with fail
  refine (New_any 0 _).mono ?_
  rintro e w1 ⟨rfl, hw1⟩
  subst hw1
  go_wp2_with fail
  go_loopw [17] (fun a wr => ∃ (k : Nat) (l : List UInt8) (s : Nat), a = .int .i64 k ∧ k ≤ 1 ∧ (k = 0 → l = []) ∧ (k = 1 → l ≠ []) ∧ MB W wr l s) (fun a _ => 1 - (intOf a).toNat)
  case atStart => exact ⟨0, [], 0, rfl, by omega, fun _ => rfl, fun h => by omega, HM.out⟩
  case round =>
    obtain ⟨k, l, s, rfl, hk, hl0, hl1, hmb⟩ := hrel
    have HMB := Lib.hid hmb
    clear hmb
    by_cases hlt : k = 0
    · subst hlt
      obtain rfl := hl0 rfl
      clear hl0 hl1 hk
      go_wp2_with fail
      refine (HI.out wr).mono ?_
      rintro e w1 ⟨rfl, hw1⟩
      obtain rfl := hw1.symm
      go_wp2_with fail
      have hz : ((⟨#[116]⟩ : ByteArray) ++ d ++ ⟨#[58]⟩).size = 3 := by rw [sz3, hd1]; rfl
      refine (bd_writeString (W.heap.size + 1) (W.heap.size + 1) _ _ wr HMB.out.bd (by omega) (by rw [hz, Lib.byteCells_length]; decide) HMB.out.sz).mono ?_
      rintro e w2 ⟨rfl, hb2, hB2, _⟩
      have hm2 := HMB.out.written hb2 hB2
      obtain ⟨l2, hl2⟩ : ∃ l2, ([] ++ ((⟨#[116]⟩ : ByteArray) ++ d ++ ⟨#[58]⟩).data.toList : List UInt8) = l2 := ⟨_, rfl⟩
      have hlen2 : l2.length = 3 := by rw [← hl2, List.nil_append, len_of, hz]
      rw [hl2] at hm2
      have HM2 := Lib.hid hm2
      clear hb2 hB2 hm2 hl2 HMB hz
      go_wp2_with fail
      refine (Next_any W.heap.size s 3 w2 HM2.out.lt (by omega) (by omega) HM2.out.lot HM2.out.fz).mono ?_
      rintro e w3 ⟨rfl, hw3⟩
      have hm3 := HM2.out.next
      rw [← hw3] at hm3
      obtain ⟨s3, hs3⟩ : ∃ s3, nx s = s3 := ⟨_, rfl⟩
      rw [hs3] at hm3
      have hv3 := val3 s
      obtain ⟨v, hv⟩ : ∃ v, val s 3 = v := ⟨_, rfl⟩
      rw [hv] at hv3
      rw [hv]
      obtain ⟨hv0, hv1⟩ := hv3
      have HM3 := Lib.hid hm3
      clear hm3 hs3 hv hw3 HM2
      go_wp2_with fail
      have hr0 : ((⟨#[101, 99, 104, 111, 32]⟩ : ByteArray) ++ d ++ ⟨#[32, 62, 32, 36, 64]⟩).size ≤ 100 := by rw [sz3, hd1]; decide
      go_loopw [9, 31] (fun ra a wr => ∃ (r : ByteArray) (c : Nat) (l : List UInt8) (s : Nat), .string r = ra ∧ a = .int .i64 c ∧ r.size ≤ 100 ∧ (c : Int) ≤ v ∧ 3 ≤ l.length ∧ l.length ≤ 3 + 10 * c ∧ MB W wr l s) (fun _ a _ => v.toNat - (intOf a).toNat)
      case atStart => exact ⟨_, 0, l2, s3, rfl, rfl, hr0, hv0, by omega, by omega, HM3.out⟩
      case round =>
        obtain ⟨r, c, l4, s4, rfl, rfl, hr, hc, hlo, hhi, hm4⟩ := hrel
        have HM4 := Lib.hid hm4
        clear hm4 hr0
        by_cases hcv : (c : Int) < v
        · go_wp2_with fail
          refine (Next_any W.heap.size s4 3 _ HM4.out.lt (by omega) (by omega) HM4.out.lot HM4.out.fz).mono ?_
          rintro e w5 ⟨rfl, hw5⟩
          have hm5 := HM4.out.next
          rw [← hw5] at hm5
          obtain ⟨s5, hs5⟩ : ∃ s5, nx s4 = s5 := ⟨_, rfl⟩
          rw [hs5] at hm5
          have hv5 := val3 s4
          obtain ⟨x, hx⟩ : ∃ x, val s4 3 = x := ⟨_, rfl⟩
          rw [hx] at hv5
          rw [hx]
          obtain ⟨hx0, hx1⟩ := hv5
          have HM5 := Lib.hid hm5
          clear hm5 hs5 hx hw5
          have hnl : ¬ (1 + x < 1) := by omega
          go_wp2_with fail
          refine (Next_any W.heap.size s5 3 _ HM5.out.lt (by omega) (by omega) HM5.out.lot HM5.out.fz).mono ?_
          rintro e w6 ⟨rfl, hw6⟩
          have hm6 := HM5.out.next
          rw [← hw6] at hm6
          obtain ⟨s6, hs6⟩ : ∃ s6, nx s5 = s6 := ⟨_, rfl⟩
          rw [hs6] at hm6
          have hv6 := val3 s5
          obtain ⟨y, hy⟩ : ∃ y, val s5 3 = y := ⟨_, rfl⟩
          rw [hy] at hv6
          rw [hy]
          obtain ⟨hy0, hy1⟩ := hv6
          obtain ⟨yn, rfl⟩ : ∃ yn : Nat, y = yn := ⟨y.toNat, by omega⟩
          have HM6 := Lib.hid hm6
          clear hm6 hs6 hy hw6
          obtain ⟨dy, hdy1, hdy⟩ := Itoa1 yn (by omega)
          have HDY := Lib.hid hdy
          clear hdy
          go_wp2_with fail
          refine (HDY.out _).mono ?_
          rintro e w7 ⟨rfl, hw7⟩
          obtain rfl := hw7.symm
          have hz : ((⟨#[32, 115]⟩ : ByteArray) ++ dy).size = 3 := by rw [sz2, hdy1]; rfl
          go_wp2_with fail
          refine (bd_writeString (W.heap.size + 1) (W.heap.size + 1) _ _ _ HM6.out.bd (by omega) (by rw [hz, Lib.byteCells_length]; omega) HM6.out.sz).mono ?_
          rintro e w8 ⟨rfl, hb8, hB8, _⟩
          have hm8 := HM6.out.written hb8 hB8
          obtain ⟨l8, hl8⟩ : ∃ l8, (l4 ++ ((⟨#[32, 115]⟩ : ByteArray) ++ dy).data.toList : List UInt8) = l8 := ⟨_, rfl⟩
          have hlen8 : l8.length = l4.length + 3 := by rw [← hl8, List.length_append, len_of, hz]
          rw [hl8] at hm8
          have HM8 := Lib.hid hm8
          clear hb8 hB8 hm8 hl8 hz
          go_wp2_with fail
          exact ⟨⟨_, c + 1, l8, s6, rfl, by go_num, by decide, by omega, by omega, by omega, HM8.out⟩, by simp [intOf]; omega⟩
        · have hz : ((⟨#[10, 9]⟩ : ByteArray) ++ r ++ ⟨#[10]⟩).size = r.size + 3 := by rw [sz3, show (⟨#[10, 9]⟩ : ByteArray).size = 2 from rfl, show (⟨#[10]⟩ : ByteArray).size = 1 from rfl]; omega
          go_wp2_with fail
          refine (bd_writeString (W.heap.size + 1) (W.heap.size + 1) _ _ _ HM4.out.bd (by omega) (by rw [hz, Lib.byteCells_length]; omega) HM4.out.sz).mono ?_
          rintro e w6 ⟨rfl, hb6, hB6, _⟩
          have hm6 := HM4.out.written hb6 hB6
          obtain ⟨l6, hl6⟩ : ∃ l6, (l4 ++ ((⟨#[10, 9]⟩ : ByteArray) ++ r ++ ⟨#[10]⟩).data.toList : List UInt8) = l6 := ⟨_, rfl⟩
          have HL6 : Hid (l6 ≠ []) := by
            rw [Hid, ← hl6]
            intro h
            have := congrArg List.length h
            simp at this
          rw [hl6] at hm6
          have HM6 := Lib.hid hm6
          clear hb6 hB6 hm6 hl6 hz
          go_wp2_with fail
          exact ⟨⟨1, l6, s4, rfl, by omega, fun h => by omega, fun _ => HL6.out, HM6.out⟩, by simp [intOf]⟩
    · obtain rfl : k = 1 := by omega
      have HL := Lib.hid (hl1 rfl)
      go_wp2_with fail
      refine (Tryd.Builder_String_any (W.heap.size + 1) (W.heap.size + 1) l _ HMB.out.bd HMB.out.sz).mono ?_
      rintro e w2 ⟨rfl, hB⟩
      have HB := Lib.hid (HMB.out.old.trans (hB.mono (Nat.le_succ _)))
      clear hB
      go_wp2_with fail
      go_ret
      exact ⟨_, rfl, by show 0 < l.toArray.size; simpa using List.length_pos_iff.2 HL.out, HB.out⟩
end Go.Proofs.YtmokaagjpkeciaaDoor
