import Derived.Test.YtpgaeldjiiaoiaaXK
import Derived.Laws.IdiomStrings
namespace Go.Proofs.Ytpgaeldjiiaoiaa
open Go.RowKit
set_option linter.unusedVariables false

/-- A row of bytes in block g. -/
def YR (w : World) (g n : Nat) (f : Nat → UInt8) : Prop := ∃ cur, w.heap[g]? = some (.cells cur 5 (0, 0)) ∧ ∀ k, k < n → cur[k]? = some (.int .u8 (f k).toNat)
theorem YR.cell {w : World} {g n : Nat} {f : Nat → UInt8} (h : YR w g n f) {k : Nat} (hk : k < n) : w.cell? ⟨g, k, none⟩ = some (.int .u8 (f k).toNat) := by
  obtain ⟨cur, h1, h3⟩ := h
  rw [cell_of_row _ _ _ _ _ _ h1]
  exact h3 k hk
theorem YR.free {w : World} {g n : Nat} {f : Nat → UInt8} (h : YR w g n f) (k : Nat) : w.frozen? ⟨g, k, none⟩ = false := by
  obtain ⟨cur, h1, _⟩ := h
  unfold World.frozen?
  simp only [h1]
  rfl
theorem YR.set {w : World} {g n : Nat} {f f' : Nat → UInt8} (h : YR w g n f) {k : Nat} (hk : k < n) (b : UInt8) (e : ∀ j, j < n → f' j = if j = k then b else f j) : YR (w.setCell ⟨g, k, none⟩ (.int .u8 b.toNat)) g n f' := by
  obtain ⟨cur, h1, h3⟩ := h
  refine ⟨cur.setIfInBounds k (.int .u8 b.toNat), ?_, fun j hj => ?_⟩
  · simp only [World.setCell, Array.getElem?_modify, h1]
    simp
  · obtain ⟨hsz, _⟩ := Array.getElem?_eq_some_iff.1 (h3 k hk)
    rw [Array.getElem?_setIfInBounds, e j hj]
    by_cases hjk : k = j
    · subst hjk; simp [hsz]
    · rw [if_neg hjk, if_neg (fun e => hjk e.symm)]; exact h3 j hj
theorem YR.of_row {w : World} {B g n cap : Nat} (h : w.ownsRow B 5 1 (.slice (some ⟨g, 0, none⟩) n cap) n (List.replicate n (.int .u8 0))) : YR w g n (fun _ => 0) := by
  have hc := fun k hk => World.ownsRow.cellAt h k hk
  rcases h.2 with ⟨h1, _⟩ | ⟨g', cap', cur, e, hb, hcur, hn, hm, hcs, htk⟩
  · cases h1
  · injection e with e1 e2 e3
    injection e1 with e1
    injection e1 with e1 _ _
    subst e1
    refine ⟨cur, hcur, fun k hk => ?_⟩
    have := hc k (by omega)
    rw [cell_of_row _ _ _ _ _ _ hcur] at this
    rw [this, List.getElem?_replicate, if_pos hk]
    rfl
theorem YR.conv {w : World} {g C : Nat} {s : ByteArray} (h : YR w g s.size (fun k => gb s k)) : (convert 35 9 (.slice (some ⟨g, 0, none⟩) s.size C)).run Try.prog w = .ok (.string s) w := by
  have hl : s.data.toList.length = s.size := Array.length_toList
  have := run_convert_bytes_back w 35 9 5 ⟨g, 0, none⟩ C s.data.toList Try.underlying35 Try.underlying5 Try.underlying9 (fun j hj => by
    rw [addn, h.cell (by omega)]
    unfold gb
    rw [List.getD_eq_getElem?_getD, List.getElem?_eq_getElem hj]
    rfl)
  rw [hl] at this
  rw [this]
theorem Its.below {w w' : World} {A : Option Addr} {xs : List RI} (h : Its w A xs) (hB : Below w.heap.size w w') : Its w' A xs := by
  intro hn
  obtain ⟨g, e, hg, h2⟩ := h hn
  refine ⟨g, e, Nat.lt_of_lt_of_le hg hB.size, fun i hi => ?_⟩
  obtain ⟨h3, h4⟩ := h2 i hi
  exact ⟨fun q hq => by rw [hB.cell (p := ⟨g, i * 5 + q, none⟩) hg]; exact h3 q hq, h4.grown (gb_below hB) (fun b e => by cases e)⟩
set_option maxRecDepth 100000 in
set_option maxHeartbeats 8000000 in
theorem RefBack_any (s p : ByteArray) (most : Bool) (w : World) (hp : p.size ≤ 100000) (hs : s.size ≤ 100000) :
    Calls Try.prog 10 #[.string s, .string p, .bool most] w fun e w' => e = .returned (.string (s.extract 0 (s.size - offK (revB s) (pat p).reverse most))) ∧ Below w.heap.size w w' := by
  obtain ⟨i0, hi0, hz0, hz1, hz2⟩ := info_parts info37
  obtain ⟨i5, hi5, hz5, hs5, hb5⟩ := info_parts info5
  have HH := Lib.hid (fun w => items_core p w hp (pat p) rfl)
  have hle := offK_le (revB s) (pat p).reverse most
  have hall := Lib.hid (extract_all s)
  have hrs := revB_size s
  rw [hrs] at hle
  obtain ⟨l, hl⟩ : ∃ l, ends (revB s) (pat p).reverse (s.size + 1) = l := ⟨_, rfl⟩
  have hoff : offK (revB s) (pat p).reverse most = pickE l most := by unfold offK; rw [hrs, hl]
  rw [hoff] at hle ⊢
  have HOF : Hid (∀ n, (pat p).reverse.length = n → endsF (dp (revB s) (pat p).reverse n) (s.size + 1) = l) := fun n h => by
    have := endsF_dp (revB s) _ n h
    rw [hrs] at this
    rw [this, hl]
  have HRS := Lib.hid hrs
  clear hl hoff hrs
  go_enter Try.func10, Try.ntmps10
  go_wp2_with fail
  refine (HH.out _).mono ?_
  rintro e w1 ⟨v, xs, rfl, hown, hok, hsem, hlen, hB⟩
  obtain ⟨A, C, rfl, hI⟩ := its_of hown hok
  have HS : Hid (xs.reverse.map semR = (pat p).reverse) := by rw [Hid, List.map_reverse, hsem]
  have HB1 := Lib.hid hB
  have HI := Lib.hid hI
  have HOK := Lib.hid hok
  have n0 : (0 : Int) ≤ (xs.length : Int) := by omega
  have n1 : (xs.length : Int) ≤ 100000 := by omega
  have e1 : IntKind.i64.wrap ((xs.length : Int) - 1) = (xs.length : Int) - 1 := by rw [IntKind.wrap_i64]; omega
  clear hown hok hsem hB hI
  simp only []
  go_wp2_with fail
  go_loopw [8, 9] (fun r i wr => ∃ k : Nat, k ≤ xs.length ∧ i = .int .i64 ((k : Int) - 1) ∧ Hid (wr.ownsRow w1.heap.size 37 5 r (xs.length - k) (flatR (xs.drop k).reverse) ∧ Below w1.heap.size w1 wr)) (fun _ i _ => (intOf i + 1).toNat)
  case atStart => exact ⟨xs.length, Nat.le_refl _, rfl, by rw [Nat.sub_self, List.drop_length]; exact World.ownsRow_nil _ _ _ _, Below.refl _ _⟩
  case round =>
    obtain ⟨k, hk, rfl, HL⟩ := hrel
    by_cases hk0 : k = 0
    · subst hk0
      obtain ⟨w2, hw2⟩ : ∃ w2, w2 = wr := ⟨wr, rfl⟩
      subst hw2
      have h1 := HL.out.1
      rw [Nat.sub_zero, List.drop_zero] at h1
      have hokr : ∀ x ∈ xs.reverse, x.Ok w2 := fun x hx => (HOK.out x (List.mem_reverse.1 hx)).grown (gb_below HL.out.2) (fun b e => by cases e)
      obtain ⟨A2, C2, rfl, hI2⟩ := its_of (w := w1) (w' := w2) (xs := xs.reverse) (by rw [List.length_reverse]; exact h1) hokr
      have HI2 := Lib.hid hI2
      have HB2 := Lib.hid (HB1.out.trans (HL.out.2.mono HB1.out.size))
      have hbs := HL.out.2.size
      have s0 : (0 : Int) ≤ (s.size : Int) := by omega
      have s1 : (s.size : Int) ≤ 100000 := by omega
      rw [show (((0 : Nat) : Int) - 1) = -1 from rfl]
      clear h1 hokr hI2 hbs HL
      go_wp2_with (refine wpList_make_full _ rfl _ _ 35 rfl w2.heap.size 5 i5 (.int .u8 0) 1 Try.underlying35 hi5 hz5 hs5 .i64 .i64 _ _ s.size rfl rfl (by simp) (by simp) (by rw [hb5]; omega) (by unfold maxLen; omega) (Nat.le_refl _) ?_)
      intro w3 hown hg
      have hY := YR.of_row (by rw [← toList_madeCells_one]; simpa using hown : w3.ownsRow w2.heap.size 5 1 (.slice (some ⟨w2.heap.size, 0, none⟩) s.size s.size) s.size (List.replicate s.size (.int .u8 0)))
      have HY := Lib.hid hY
      have HB3 : Hid (Below w2.heap.size w2 w3) := (Below.refl _ _).grown hg (Nat.le_refl _) (fun k h => by cases h)
      clear hown hg hY
      go_wp2_with fail
      go_loopw [11] (fun i wr => ∃ k : Nat, k ≤ s.size ∧ i = .int .i64 k ∧ Hid (YR wr w2.heap.size s.size (fun j => if s.size - k ≤ j then gb (revB s) j else 0) ∧ Below w2.heap.size w2 wr)) (fun i _ => s.size - (intOf i).toNat)
      case atStart => exact ⟨0, by omega, rfl, by
        obtain ⟨cur, h1, h2⟩ := HY.out
        exact ⟨cur, h1, fun j hj => by rw [h2 j hj]; simp only [Nat.sub_zero, show ¬ s.size ≤ j by omega, if_false]⟩, HB3.out⟩
      case round =>
        obtain ⟨k, hk, rfl, HK⟩ := hrel
        by_cases hlt : k < s.size
        · have hltI : (k : Int) < (s.size : Int) := by omega
          have k0 : (0 : Int) ≤ (k : Int) := by omega
          obtain ⟨t, ht⟩ : ∃ t, s.size - 1 - k = t := ⟨_, rfl⟩
          have hrg := revB_gb s t (by omega)
          rw [show s.size - 1 - t = k by omega] at hrg
          have hb := gb_eq s k hlt
          have t0 : (0 : Int) ≤ (t : Int) := by omega
          have t1 : (t : Int) < (s.size : Int) := by omega
          have e3 : IntKind.i64.wrap ((s.size : Int) - 1) = (s.size : Int) - 1 := by rw [IntKind.wrap_i64]; omega
          have e4 : IntKind.i64.wrap ((s.size : Int) - 1 - (k : Int)) = (t : Int) := by rw [IntKind.wrap_i64]; omega
          have e5 : (s.size : Int) - 1 - (k : Int) = (t : Int) := by omega
          have ct := HK.out.1.cell (k := t) (by omega)
          have ft := HK.out.1.free t
          obtain ⟨c, hc⟩ : ∃ c, gb s k = c := ⟨_, rfl⟩
          have HN : Hid (YR (wr.setCell ⟨w2.heap.size, t, none⟩ (.int .u8 c.toNat)) w2.heap.size s.size (fun j => if s.size - (k + 1) ≤ j then gb (revB s) j else 0) ∧ Below w2.heap.size w2 (wr.setCell ⟨w2.heap.size, t, none⟩ (.int .u8 c.toNat))) :=
            ⟨HK.out.1.set (k := t) (by omega) c (fun j hj => by
              by_cases h : j = t
              · subst h; rw [if_pos (by omega), if_pos rfl, hrg, hc]
              · rw [if_neg h]
                by_cases h2 : s.size - k ≤ j
                · rw [if_pos h2, if_pos (by omega)]
                · rw [if_neg h2, if_neg (by omega)]), HK.out.2.setCell (p := ⟨w2.heap.size, t, none⟩) (Nat.le_refl _) _⟩
          rw [hc] at hb
          clear ht hrg hc
          go_wp2_with fail
          exact ⟨⟨k + 1, by omega, by go_num, HN.out⟩, by simp [intOf]; omega⟩
        · have hltI : ¬ (k : Int) < (s.size : Int) := by omega
          obtain rfl : k = s.size := by omega
          have hY : YR wr w2.heap.size (revB s).size (fun j => gb (revB s) j) := by
            obtain ⟨cur, h1, h2⟩ := HK.out.1
            exact ⟨cur, h1, fun j hj => by rw [HRS.out] at hj; rw [h2 j hj]; simp only [Nat.sub_self, Nat.zero_le, if_true]⟩
          have hcv := YR.conv (C := s.size) hY
          rw [HRS.out] at hcv
          have hf := fronts_core (revB s) wr A2 C2 xs.reverse (pat p).reverse (by rw [HRS.out]; exact hs) (by rw [List.length_reverse]; exact hlen) HS (Lib.hid (HI2.out.below HK.out.2))
          rw [HRS.out, List.length_reverse] at hf
          have HF := Lib.hid hf
          have HPL : Hid ((pat p).reverse.length = xs.length) := by rw [Hid, ← HS.out, List.length_map, List.length_reverse]
          have HB4 := Lib.hid (HB2.out.trans (HK.out.2.mono HB2.out.size))
          clear hY hf
          go_wp2_with fail
          refine HF.out.mono ?_
          rintro e w5 ⟨g, rfl, hFr, hB5⟩
          have HB5 : Hid (Below w.heap.size w w5) := HB4.out.trans (hB5.mono HB4.out.size)
          have HR := Lib.hid (BR.of_row hFr)
          clear hB5 hFr hcv
          simp only []
          go_wp2_with fail
          refine (off_any g (s.size + 1) _ _ most _ (by omega) HR.out).mono ?_
          rintro e w6 ⟨rfl, h⟩
          obtain rfl := h.symm
          rw [HOF.out _ HPL.out]
          simp only []
          by_cases hn : l = []
          · have e8 : offZ l most = -1 := by rw [hn]; rfl
            have e9 : Hid (pickE l most = 0) := by rw [Hid, hn]; cases most <;> rfl
            rw [e8]
            clear hn
            go_wp2_with fail
            go_ret
            exact ⟨by rw [e9.out, Nat.sub_zero, hall.out]; rfl, HB5.out⟩
          · rw [offZ_pos hn]
            obtain ⟨q, hq⟩ : ∃ q, pickE l most = q := ⟨_, rfl⟩
            have HQ := Lib.hid hq
            rw [hq] at hle ⊢
            obtain ⟨m, hm⟩ : ∃ m, s.size - q = m := ⟨_, rfl⟩
            have HM := Lib.hid hm
            have h1 : (m : Int) ≤ (s.size : Int) := by omega
            have h0 : (0 : Int) ≤ (m : Int) := by omega
            have h2 : ¬ (q : Int) < 0 := by omega
            have e6 : IntKind.i64.wrap ((s.size : Int) - (q : Int)) = (m : Int) := by rw [IntKind.wrap_i64]; omega
            have e7 : (s.size : Int) - (q : Int) = (m : Int) := by omega
            clear hq hn hm
            go_wp2_with fail
            go_ret
            exact ⟨by rw [HQ.out, HM.out]; rfl, HB5.out⟩
    · obtain ⟨m, rfl⟩ : ∃ m, k = m + 1 := ⟨k - 1, by omega⟩
      have hm : m < xs.length := by omega
      have e2 : (((m + 1 : Nat) : Int) - 1) = (m : Int) := by omega
      rw [e2]
      have q1 : (0 : Int) ≤ (m : Int) := by omega
      have q2 : (m : Int) < (xs.length : Int) := by omega
      obtain ⟨gl, rfl, hgl, hit⟩ := HI.out (by omega)
      obtain ⟨hcs, hok⟩ := hit m hm
      obtain ⟨x, hx⟩ : ∃ x, xs[m] = x := ⟨_, rfl⟩
      rw [hx] at hcs
      have HD : Hid ((xs.drop m).reverse = (xs.drop (m + 1)).reverse ++ [x]) := by rw [Hid, List.drop_eq_getElem_cons hm, List.reverse_cons, hx]
      have a5 := fun q hq => (HL.out.2.cell (p := ⟨gl, m * 5 + q, none⟩) hgl).trans (hcs q hq)
      have c0 : _ = some (Value.int .i64 x.k) := a5 0 (by omega)
      have c1 : _ = some (Value.int .u8 x.c.toNat) := a5 1 (by omega)
      have c2 : _ = some (Value.bool x.nb) := a5 2 (by omega)
      have c3 : _ = some (Value.slice x.A1 x.ps.length x.C1) := a5 3 (by omega)
      have c4 : _ = some (Value.slice x.A2 x.ps.length x.C2) := a5 4 (by omega)
      rw [Nat.add_zero] at c0
      have hlen2 : xs.length - (m + 1) ≤ 100000 := by omega
      clear a5 hcs hok hit hx
      go_wp2_with (at_builtin; refine wpList_append_own _ rfl _ _ 33 rfl w1.heap.size 37 i0 (.agg #[.int .i64 0, .int .u8 0, .bool false, .slice none 0 0, .slice none 0 0]) 5 64 Try.underlying33 hi0 hz0 hz1 hz2 rfl (by decide) _ _ _ rfl (HL.out.1.alloc _) ⟨wr.heap.size, 0, none⟩ 1 1 (x.cs) rfl rfl ?ca1 ?ca2 ?ca3 ?ca4 ?ca5 ?_)
      case ca1 =>
        intro j u hj
        match j, hj with
        | 0, hj => simp [RI.cs] at hj; subst hj; simp [Addr.add]
        | 1, hj => simp [RI.cs] at hj; subst hj; simp [Addr.add]
        | 2, hj => simp [RI.cs] at hj; subst hj; simp [Addr.add]
        | 3, hj => simp [RI.cs] at hj; subst hj; simp [Addr.add]
        | 4, hj => simp [RI.cs] at hj; subst hj; simp [Addr.add]
      case ca2 => intro u hu; simp [RI.cs] at hu; rcases hu with rfl | rfl | rfl | rfl | rfl <;> rfl
      case ca3 => unfold maxLen; omega
      case ca4 => omega
      case ca5 => have := HL.out.2.size; simp; omega
      intro v' w2 hown' hgrow _
      have HN : Hid (w2.ownsRow w1.heap.size 37 5 v' (xs.length - m) (flatR (xs.drop m).reverse) ∧ Below w1.heap.size w1 w2) := by
        refine ⟨?_, (HL.out.2.alloc HL.out.2.size _).grown hgrow (by have := HL.out.2.size; simp; omega) (fun k h => (HL.out.1.lt k h).1)⟩
        rw [HD.out, flatR_snoc, show xs.length - m = xs.length - (m + 1) + 1 by omega]
        exact hown'
      clear hown' hgrow
      go_wp2_with fail
      exact ⟨⟨m, by omega, rfl, HN.out⟩, by simp [intOf]⟩
end Go.Proofs.Ytpgaeldjiiaoiaa
