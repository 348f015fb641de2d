import Derived.Test.YtafbheplaheohaaEH
namespace Go.Proofs.Ytafbheplaheohaa
open Go.RowKit
set_option linter.unusedVariables false

def subR (q : Bool) (p : PS) (s : Bz) : Res (PS × Bz) := match subN 0 0 s with
  | none => .error 2
  | some i => .ok (p.add (.mk 5 (s.take i) [] [] [] q), s.drop (i + 1))
theorem subN_nil (o : Nat) : subN o 0 [] = none := by rw [subN]
theorem subN_pass (n o : Nat) (l : Bz) : subN o n l = (subN o 0 (l.drop n)).map (· + n) := by
  rw [subN_skip n o l]
  by_cases h : n ≤ l.length
  · rw [if_pos h]
  · rw [if_neg h, List.drop_of_length_le (by omega), subN_nil]; rfl
/-- Where a script's end is looked for. -/
structure SubS (s : Bz) (k o : Nat) : Prop where
  ok : o ≤ k
  eq : subN 0 0 s = (subN o 0 (s.drop k)).map (· + k)
def opN (c : UInt8) (o : Nat) : Nat := if c = 40 then o + 1 else if c = 41 then o - 1 else o
theorem sub_step {o : Nat} {c : UInt8} {r : Bz} (h : ¬ (c = 41 ∧ o = 0)) : subN o 0 (c :: r) = (subN (opN c o) (passN c r) r).map (· + 1) := by
  rw [subN_cons]
  unfold opN passN
  by_cases h40 : c = 40
  · rw [if_pos h40, if_pos h40, if_neg (by rw [h40]; decide), if_neg (by rw [h40]; decide)]
  rw [if_neg h40, if_neg h40]
  by_cases h41 : c = 41
  · rw [if_pos h41, if_pos h41, if_neg (by rw [h41]; decide), if_neg (by rw [h41]; decide)]
    cases o with
    | zero => exact absurd ⟨h41, rfl⟩ h
    | succ o => rfl
  rw [if_neg h41, if_neg h41]
  by_cases h92 : c = 92
  · rw [if_pos h92, if_pos h92]
  rw [if_neg h92, if_neg h92]
  by_cases hq : c = 39 ∨ c = 34
  · rw [if_pos hq, if_pos hq]
  · rw [if_neg hq, if_neg hq]
theorem SubS.next {s : Bz} {k o : Nat} (h : SubS s k o) {c : UInt8} {r : Bz} (hc : s.drop k = c :: r) (hn : ¬ (c = 41 ∧ o = 0)) {k' : Nat} (hk : (k' = k + 1 + passN c r) ∨ (s.length ≤ k' ∧ k < k' ∧ r.length ≤ passN c r)) : SubS s k' (opN c o) := by
  have e := h.eq
  rw [hc, sub_step hn, subN_pass (passN c r) (opN c o) r] at e
  have hr : r = s.drop (k + 1) := by
    have : s.drop (k + 1) = (s.drop k).drop 1 := by rw [List.drop_drop]
    rw [this, hc]; rfl
  have hop : opN c o ≤ k + 1 := by
    have := h.ok
    unfold opN; split
    · omega
    · split <;> omega
  rcases hk with rfl | ⟨h1, h2, h3⟩
  · refine ⟨by omega, ?_⟩
    rw [e, hr, List.drop_drop]
    cases subN (opN c o) 0 (s.drop (k + 1 + passN c (s.drop (k + 1)))) with
    | none => rfl
    | some x => simp; omega
  · refine ⟨by omega, ?_⟩
    rw [e, List.drop_of_length_le h3, List.drop_of_length_le h1, subN_nil]; rfl
set_option maxRecDepth 100000 in
set_option maxHeartbeats 8000000 in
theorem RSub_any {w0 w : World} {rb B : Nat} {S : ByteArray} {a : Nat} {va : Option Addr} {n c : Nat} {l : List Prt} {L : List Pt} {p : PS} {Z : Nat} (q : Bool) (d : Nat) (h : RIn w0 w rb B S a (.slice va n c) l L p Z) (hZ : Z ≤ 60000) (hS : S.size ≤ 20000) :
    Calls Try.prog 56 #[.pointer (some ⟨rb, 0, none⟩), .slice va n c, .bool q] w (RStep w0 rb B S d Z (subR q p (S.data.toList.drop a))) := by
  obtain ⟨Q, hQ⟩ : ∃ Q, RStep w0 rb B S d Z (subR q p (S.data.toList.drop a)) = Q := ⟨_, rfl⟩
  rw [hQ]
  have HQ := Lib.hid hQ
  have H0 := Lib.hid h
  have q1 : w.cell? ⟨rb, 1, none⟩ = some (.int .i64 a) := cell_of h.rs.rr 1
  have hle := h.le
  have hszz := h.sz
  obtain ⟨s, hs⟩ : ∃ s, S.data.toList.drop a = s := ⟨_, rfl⟩
  have hsl : s.length = S.size - a := by rw [← hs, List.length_drop, dl]
  have HSD := Lib.hid hs
  clear hQ h
  go_enter Try.func56, Try.ntmps56
  go_wp2_with fail
  go_loopw [8] (fun ov wx => ∃ k o : Nat, ov = .int .i64 o ∧ Hid (SubS s k o ∧ a + k ≤ S.size + 2 ∧ RS w0 wx rb B S (a + k) 0 (.slice va n c) l L)) (fun _ wx => meaR rb wx)
  case atStart => exact ⟨0, 0, rfl, ⟨Nat.le_refl _, by simp⟩, by omega, H0.out.rs⟩
  case round =>
    obtain ⟨k, o, rfl, HR⟩ := hrel
    have hkl := HR.out.2.1
    have hok := HR.out.1.ok
    obtain ⟨m, hm⟩ : ∃ m, a + k = m := ⟨_, rfl⟩
    have hmS : m ≤ S.size + 2 := by omega
    have HRS : Hid (RS w0 wr rb B S m 0 (.slice va n c) l L) := by rw [Hid, ← hm]; exact HR.out.2.2
    have hw1 : IntKind.i64.wrap ((m : Int) + 1) = (m : Int) + 1 := IntWalk.i64_in _ (by omega)
    have hwo : IntKind.i64.wrap ((o : Int) + 1) = (o : Int) + 1 := IntWalk.i64_in _ (by omega)
    have HFL : Hid (∀ w5, RS w0 w5 rb B S m 0 (.slice va n c) l L → subN 0 0 s = none → Calls Try.prog 39 #[.pointer (some ⟨rb, 0, none⟩), .int .i64 2] w5 fun e w' => e = .returned (.tuple #[]) ∧ Q (.returned (.slice va n c)) w') := fun w5 h5 hn => (fail_any h5.rr 2 2 rfl).mono (by
      rintro e w' ⟨rfl, h1, h2⟩
      refine ⟨rfl, ?_⟩
      rw [← HQ.out, HSD.out]
      unfold subR
      rw [hn]
      exact RS.failed H0.out.ok (h5.rb h1 h2) (by decide) (by unfold EAt; omega) (by omega))
    by_cases hov : S.size ≤ m
    · have HO1 := Lib.hid (over_seq HRS.out.rr true (decide_eq_true hov))
      have HN : Hid (subN 0 0 s = none) := by
        rw [Hid, HR.out.1.eq, List.drop_of_length_le (by omega), subN_nil]; rfl
      clear hm hov
      go_wp2_with (first
        | (go_at_call 25; refine HO1.out.mono ?_; rintro e w5 ⟨rfl, h5⟩; have HR5 := Lib.hid (HRS.out.under h5); clear h5; simp only [])
        | (go_at_call 39; refine (HFL.out _ HR5.out HN.out).mono ?_; rintro e w6 ⟨rfl, h6⟩; have H6 := Lib.hid h6; clear h6; simp only []))
      exact H6.out
    · have hlt : m < S.size := by omega
      have HO1 := Lib.hid (over_seq HRS.out.rr false (decide_eq_false hov))
      have hat := data_get S m hlt
      obtain ⟨ch, hch⟩ : ∃ ch, S[m]'hlt = ch := ⟨_, rfl⟩
      rw [hch] at hat
      have hdr := at_drop hat
      have HDR := Lib.hid hdr
      have HSEE : Hid (∀ w5, RS w0 w5 rb B S m 0 (.slice va n c) l L → Calls Try.prog 26 #[.pointer (some ⟨rb, 0, none⟩), .int .i64 0] w5 fun e w' => e = .returned (.int .u8 ch.toNat) ∧ Below w5.heap.size w5 w') := fun w5 h => see_seq h.rr 0 0 m rfl rfl (by omega) (by omega) (seeF_head hdr)
      have HCK : Hid (s.drop k = ch :: S.data.toList.drop (m + 1)) := by
        rw [Hid, ← hdr, ← hs, List.drop_drop, hm]
      have hkl1 : k < s.length := by omega
      have h40 := byte_eq ch 40
      rw [show ((40 : UInt8).toNat : Int) = 40 from rfl] at h40
      have h41 := byte_eq ch 41
      rw [show ((41 : UInt8).toNat : Int) = 41 from rfl] at h41
      by_cases hend : ch = 41 ∧ o = 0
      · obtain ⟨e41, rfl⟩ := hend
        have hz1 : ((ch.toNat : Int) == 41) = true := by rw [h41, e41]; rfl
        have HI : Hid (subN 0 0 s = some k) := by
          rw [Hid, HR.out.1.eq, HCK.out, e41, subN_cons, if_neg (by decide), if_pos rfl]; simp
        have ham : a ≤ m := by omega
        have hamI : (a : Int) ≤ (m : Int) := by omega
        have hmSI : (m : Int) ≤ (S.size : Int) := by omega
        have ha0 : (0 : Int) ≤ (a : Int) := by omega
        have hX := ext_dt (t := S) (a := a) (b := m) ham (by omega)
        obtain ⟨X, hXX⟩ : ∃ X, S.extract a m = X := ⟨_, rfl⟩
        rw [hXX] at hX
        have hXk : m - a = k := by omega
        have HXD : Hid (X.data.toList = s.take k) := by rw [Hid, hX.1, List.drop_take, hs, hXk]
        have HDONE : Hid (∀ w9 a9 n9 c9 L9, RS w0 w9 rb B S (m + 1) 0 (.slice a9 n9 c9) (l ++ [.mk 5 X.data.toList [] [] [] q]) L9 → Q (.returned (.slice a9 n9 c9)) w9) := fun w9 a9 n9 c9 L9 h9 => by
          rw [← HQ.out, HSD.out]
          unfold subR
          rw [HI.out]
          rw [HXD.out] at h9
          refine RS.done H0.out.ok H0.out.eqv h9 (by show 3 ≤ 5; omega) (by omega) ?_ ?_
          · rw [← HSD.out, List.drop_drop, show a + (k + 1) = m + 1 by omega]
          · show SZ l + 1 + (s.take k).length + _ ≤ Z
            rw [List.length_take]; omega
        have HLL : Hid (l.length ≤ 90000) := by
          have : l.length ≤ SZ l := by unfold SZ; omega
          rw [Hid]; omega
        clear h40 h41 hov hat hdr hm e41 hX hXk
        go_wp2_with (first
          | (go_at_call 25; refine HO1.out.mono ?_; rintro e w5 ⟨rfl, h5⟩; have HR5 := Lib.hid (HRS.out.under h5); clear h5; simp only [])
          | (go_at_call 26; (with_reducible refine (HSEE.out _ HR5.out).mono ?_); rintro e w6 ⟨rfl, h6⟩; have HR6 := Lib.hid (HR5.out.under h6); clear h6; simp only []))
        refine wp_region_made 12 1 62 _ (by kernel_rfl) (by kernel_rfl) (by kernel_rfl) (Nat.le_refl 62) rfl ?_
        have HRZ : Hid (RS w0 w6.drew rb B S m 0 (.slice va n c) l L) := HR6.out.under (drew_below w6 1)
        obtain ⟨wz, hwz⟩ : ∃ wz, w6.drew = wz := ⟨_, rfl⟩
        rw [hwz] at HRZ ⊢
        clear hwz
        have HRY := Lib.hid (HRZ.out.under ((Below.refl wz.heap.size wz).alloc (Nat.le_refl _) (.cells zero6.toArray 39)))
        have hz0 := (cell_of HRZ.out.rr 0 : wz.cell? ⟨rb, 0, none⟩ = some (.string S))
        have hz1' := (cell_of HRZ.out.rr 1 : wz.cell? ⟨rb, 1, none⟩ = some (.int .i64 m))
        have r0 : ∀ b : One wz, b.v.cell? ⟨rb, 0, none⟩ = some (.string S) := fun b => by rw [b.h]; exact hz0
        have r1 : ∀ b : One wz, b.v.cell? ⟨rb, 1, none⟩ = some (.int .i64 m) := fun b => by rw [b.h]; exact hz1'
        clear hz0 hz1'
        unfold isOne
        simp only [List.take_succ_cons, List.take_zero, List.drop_succ_cons, List.drop_zero]
        repeat (go_big_quiet_step (fail))
        refine wpQuiet_nil ?_
        refine ⟨by kernel_rfl, .pointer (some ⟨wz.heap.size, 0, none⟩), wz.alloc (.cells zero6.toArray 39), ?_, ?_, ?_⟩
        · go_simp
          rfl
        · have hs0 := (cell_of HRY.out.rr 0 : (wz.alloc (.cells zero6.toArray 39)).cell? ⟨rb, 0, none⟩ = some (.string S))
          have hs1 := (cell_of HRY.out.rr 1 : (wz.alloc (.cells zero6.toArray 39)).cell? ⟨rb, 1, none⟩ = some (.int .i64 m))
          clear r0 r1
          generalize wz.alloc (.cells zero6.toArray 39) = wy at hs0 hs1
          have s0 : ∀ b : One wy, b.v.cell? ⟨rb, 0, none⟩ = some (.string S) := fun b => by rw [b.h]; exact hs0
          have s1 : ∀ b : One wy, b.v.cell? ⟨rb, 1, none⟩ = some (.int .i64 m) := fun b => by rw [b.h]; exact hs1
          repeat (go_big_quiet_step (fail))
          exact wpQuiet_nil rfl
        clear r0 r1
        unfold zero6
        go_wp2_with fail
        refine wpQuiet_nil ?_
        have hnb := heap_alloc_new wz (.cells #[.int .i64 5, .string X, .string ⟨#[]⟩, .string ⟨#[]⟩, .slice none 0 0, .bool q] 39)
        have HRB := Lib.hid (HRZ.out.under ((Below.refl wz.heap.size wz).alloc (Nat.le_refl _) (.cells #[.int .i64 5, .string X, .string ⟨#[]⟩, .string ⟨#[]⟩, .slice none 0 0, .bool q] 39)))
        obtain ⟨wb, hwb⟩ : ∃ wb, wz.alloc (.cells #[.int .i64 5, .string X, .string ⟨#[]⟩, .string ⟨#[]⟩, .slice none 0 0, .bool q] 39) = wb := ⟨_, rfl⟩
        rw [hwb] at hnb HRB ⊢
        obtain ⟨g, hg⟩ : ∃ g, wz.heap.size = g := ⟨_, rfl⟩
        rw [hg] at hnb ⊢
        have q1 : wb.cell? ⟨rb, 1, none⟩ = some (.int .i64 m) := cell_of HRB.out.rr 1
        have f1 := free_of HRB.out.rr 1
        have HRC := Lib.hid (HRB.out.setI (m + 1) (ai := (m : Int) + 1) (by omega))
        have hnc : (wb.setCell ⟨rb, 1, none⟩ (.int .i64 ((m : Int) + 1))).heap[g]? = some (.cells #[.int .i64 5, .string X, .string ⟨#[]⟩, .string ⟨#[]⟩, .slice none 0 0, .bool q] 39 (0, 0)) := (heap_other (cells_ne hnb HRB.out.rr (by decide)) _ _).trans hnb
        have p0 := Lib.cell_of_heap hnc 0
        have p1 := Lib.cell_of_heap hnc 1
        have p2 := Lib.cell_of_heap hnc 2
        have p3 := Lib.cell_of_heap hnc 3
        have p4 := Lib.cell_of_heap hnc 4
        have p5 := Lib.cell_of_heap hnc 5
        simp only [List.getElem?_toArray, List.getElem?_cons_zero, List.getElem?_cons_succ] at p0 p1 p2 p3 p4 p5
        obtain ⟨a8, n8, c8, w8, r8, hr8⟩ := HRC.out.push HLL.out ⟨5, X, ⟨#[]⟩, ⟨#[]⟩, .slice none 0 0, q⟩ (.mk 5 X.data.toList [] [] [] q) ⟨rfl, rfl, rfl, rfl, rfl⟩ (.nil 0)
        have HR8 := Lib.hid hr8
        rw [show (wb.setCell ⟨rb, 1, none⟩ (.int .i64 ((m : Int) + 1))).heap.size = wb.heap.size by simp] at r8
        clear hwb hg hnb hnc hr8
        go_wp2_with (at_builtin; refine wpList_run_append _ rfl _ _ 32 32 rfl _ _ rfl rfl r8 ?_)
        exact HDONE.out _ _ _ _ _ HR8.out
      · have HPS : Hid (∀ w5, RS w0 w5 rb B S m 0 (.slice va n c) l L → Calls Try.prog 67 #[.pointer (some ⟨rb, 0, none⟩)] w5 fun e w' => e = .returned (.tuple #[]) ∧ ∃ k', RS w0 w' rb B S (a + k') 0 (.slice va n c) l L ∧ k < k' ∧ a + k' ≤ S.size + 2 ∧ SubS s k' (opN ch o)) := fun w5 h5 => (RPass_any h5.rr HDR.out hS).mono (by
          rintro e w' ⟨a', rfl, h1, h2, h3, h4, h6⟩
          refine ⟨rfl, a' - a, by rw [show a + (a' - a) = a' by omega]; exact h5.rb h1 h2, by omega, by omega, HR.out.1.next HCK.out hend ?_⟩
          have hrl : (S.data.toList.drop (m + 1)).length = S.size - (m + 1) := by rw [List.length_drop, dl]
          rcases h6 with ⟨h7, h8⟩ | ⟨h7, h8⟩
          · left; omega
          · right; exact ⟨by omega, by omega, h8⟩)
        have HMEA : Hid (∀ w5 k', RS w0 w5 rb B S (a + k') 0 (.slice va n c) l L → k < k' → a + k' ≤ S.size + 2 → meaR rb w5 < meaR rb wr) := fun w5 k' h h2 h3 => by rw [meaR_at h.rr, meaR_at HRS.out.rr]; omega
        by_cases e40 : ch = 40
        · have hz : ((ch.toNat : Int) == 40) = true := by rw [h40, e40]; rfl
          have hz1 : ((ch.toNat : Int) == 41) = false := by rw [h41, e40]; rfl
          have HOP : Hid (opN ch o = o + 1) := by rw [Hid]; unfold opN; rw [if_pos e40]
          clear h40 h41 hov hat hdr hm e40 hend
          go_wp2_with (first
            | (go_at_call 25; refine HO1.out.mono ?_; rintro e w5 ⟨rfl, h5⟩; have HR5 := Lib.hid (HRS.out.under h5); clear h5; simp only [])
            | (go_at_call 26; (with_reducible refine (HSEE.out _ HR5.out).mono ?_); rintro e w6 ⟨rfl, h6⟩; have HR6 := Lib.hid (HR5.out.under h6); clear h6; simp only [])
            | (go_at_call 67; (with_reducible refine (HPS.out _ HR6.out).mono ?_); rintro e w7 ⟨rfl, k', hk1, hk2, hk3, hk4⟩; have HK := Lib.hid (And.intro hk1 (And.intro hk2 (And.intro hk3 hk4))); clear hk1 hk2 hk3 hk4; simp only []))
          go_roundw
          case measure => exact HMEA.out _ _ HK.out.1 HK.out.2.1 HK.out.2.2.1
          case rel => exact ⟨k', o + 1, by go_num, by rw [← HOP.out]; exact HK.out.2.2.2, HK.out.2.2.1, HK.out.1⟩
        · have hz : ((ch.toNat : Int) == 40) = false := by rw [h40]; exact beq_eq_false_iff_ne.2 e40
          by_cases e41 : ch = 41
          · have hz1 : ((ch.toNat : Int) == 41) = true := by rw [h41, e41]; rfl
            have ho0 : o ≠ 0 := fun e => hend ⟨e41, e⟩
            obtain ⟨o', rfl⟩ : ∃ o', o = o' + 1 := ⟨o - 1, by omega⟩
            have hoI : (((o' + 1 : Nat) : Int) == 0) = false := beq_eq_false_iff_ne.2 (by omega)
            have hwd : IntKind.i64.wrap (((o' + 1 : Nat) : Int) - 1) = (o' : Int) := by rw [IntWalk.i64_in _ (by omega)]; omega
            obtain ⟨ov, hov2⟩ : ∃ ov : Nat, o' + 1 = ov := ⟨_, rfl⟩
            have HOP : Hid (opN ch (o' + 1) = o') := by rw [Hid]; unfold opN; rw [if_neg e40, if_pos e41]; rfl
            have HOV := Lib.hid hov2
            rw [hov2] at hoI hwd ⊢
            clear h40 h41 hov hat hdr hm e40 e41 hend hov2 ho0 hwo
            go_wp2_with (first
              | (go_at_call 25; refine HO1.out.mono ?_; rintro e w5 ⟨rfl, h5⟩; have HR5 := Lib.hid (HRS.out.under h5); clear h5; simp only [])
              | (go_at_call 26; (with_reducible refine (HSEE.out _ HR5.out).mono ?_); rintro e w6 ⟨rfl, h6⟩; have HR6 := Lib.hid (HR5.out.under h6); clear h6; simp only [])
              | (go_at_call 67; (with_reducible refine (HPS.out _ HR6.out).mono ?_); rintro e w7 ⟨rfl, k', hk1, hk2, hk3, hk4⟩; have HK := Lib.hid (And.intro hk1 (And.intro hk2 (And.intro hk3 hk4))); clear hk1 hk2 hk3 hk4; simp only []))
            go_roundw
            case measure => exact HMEA.out _ _ HK.out.1 HK.out.2.1 HK.out.2.2.1
            case rel => exact ⟨k', o', by go_num, by rw [← HOP.out]; exact HK.out.2.2.2, HK.out.2.2.1, HK.out.1⟩
          · have hz1 : ((ch.toNat : Int) == 41) = false := by rw [h41]; exact beq_eq_false_iff_ne.2 e41
            have HOP : Hid (opN ch o = o) := by rw [Hid]; unfold opN; rw [if_neg e40, if_neg e41]
            clear h40 h41 hov hat hdr hm e40 e41 hend
            go_wp2_with (first
              | (go_at_call 25; refine HO1.out.mono ?_; rintro e w5 ⟨rfl, h5⟩; have HR5 := Lib.hid (HRS.out.under h5); clear h5; simp only [])
              | (go_at_call 26; (with_reducible refine (HSEE.out _ HR5.out).mono ?_); rintro e w6 ⟨rfl, h6⟩; have HR6 := Lib.hid (HR5.out.under h6); clear h6; simp only [])
              | (go_at_call 67; (with_reducible refine (HPS.out _ HR6.out).mono ?_); rintro e w7 ⟨rfl, k', hk1, hk2, hk3, hk4⟩; have HK := Lib.hid (And.intro hk1 (And.intro hk2 (And.intro hk3 hk4))); clear hk1 hk2 hk3 hk4; simp only []))
            go_roundw
            case measure => exact HMEA.out _ _ HK.out.1 HK.out.2.1 HK.out.2.2.1
            case rel => exact ⟨k', o, rfl, by rw [← HOP.out]; exact HK.out.2.2.2, HK.out.2.2.1, HK.out.1⟩
end Go.Proofs.Ytafbheplaheohaa

namespace Go.Proofs.Ytafbheplaheohaa
open Go.RowKit
set_option linter.unusedVariables false

/-- What a word leaves. -/
def WordR (w : World) (rb : Nat) (S : ByteArray) (d : Nat) (r : Res (List Prt × Bz)) (e : Ending) (w' : World) : Prop := ∃ va n c a' x l0, e = .returned (.slice va n c) ∧ Rr w' rb S a' x ∧ Only (fun k => k = rb) w w' ∧ Wd w' (fun k => w.heap.size ≤ k) (.slice va n c) l0 ∧ (match r with
  | .error y => x = y ∧ y ≠ 0 ∧ a' ≤ EAt d + 50
  | .ok (l, t) => x = 0 ∧ a' ≤ S.size ∧ S.data.toList.drop a' = t ∧ l0 = l)
/-- A reader, and the part that is being made. -/
structure BR (w wx : World) (rb : Nat) (S : ByteArray) (a x g : Nat) (N O : ByteArray) (wv : Value) (q : Bool) : Prop where
  rr : Rr wx rb S a x
  only : Only (fun k => k = rb) w wx
  box : wx.heap[g]? = some (.cells [.int .i64 3, .string ⟨#[]⟩, .string N, .string O, wv, .bool q].toArray 39 (0, 0))
  ge : w.heap.size ≤ g
section
variable {w wx w' : World} {rb : Nat} {S : ByteArray} {a x g : Nat} {N O : ByteArray} {wv : Value} {q : Bool}
theorem BR.under (h : BR w wx rb S a x g N O wv q) (hb : Below wx.heap.size wx w') : BR w w' rb S a x g N O wv q :=
  ⟨h.rr.under hb, h.only.trans (Only.of_below (S := fun _ => False) hb) (fun _ h => h) (fun _ _ h => h.elim), (hb.block g (Array.getElem?_eq_some_iff.1 h.box).1).trans h.box, h.ge⟩
theorem BR.ne (h : BR w wx rb S a x g N O wv q) : g ≠ rb := cells_ne h.box h.rr (by decide)
theorem BR.turn {a' x' : Nat} (h : BR w wx rb S a x g N O wv q) (hr : Rr w' rb S a' x') (ho : Only (fun k => k = rb) wx w') : BR w w' rb S a' x' g N O wv q :=
  ⟨hr, h.only.trans ho (fun _ h => h) (fun _ _ h => h), (ho.block g (Array.getElem?_eq_some_iff.1 h.box).1 h.ne).trans h.box, h.ge⟩
theorem BR.setI (h : BR w wx rb S a x g N O wv q) {ai : Int} (a' : Nat) (e : ai = (a' : Int)) : BR w (wx.setCell ⟨rb, 1, none⟩ (.int .i64 ai)) rb S a' x g N O wv q :=
  h.turn (h.rr.setI a' e) (Only.set (S := fun k => k = rb) (Only.refl _ wx) (.inl rfl) _ _)
theorem BR.setN (h : BR w wx rb S a x g N O wv q) (N' : ByteArray) : BR w (wx.setCell ⟨g, 2, none⟩ (.string N')) rb S a x g N' O wv q :=
  ⟨(heap_other (Ne.symm h.ne) _ _).trans h.rr, h.only.set (.inr h.ge) _ _, set_of h.box 2 _, h.ge⟩
theorem BR.setO (h : BR w wx rb S a x g N O wv q) (O' : ByteArray) : BR w (wx.setCell ⟨g, 3, none⟩ (.string O')) rb S a x g N O' wv q :=
  ⟨(heap_other (Ne.symm h.ne) _ _).trans h.rr, h.only.set (.inr h.ge) _ _, set_of h.box 3 _, h.ge⟩
theorem BR.setW (h : BR w wx rb S a x g N O wv q) (wv' : Value) : BR w (wx.setCell ⟨g, 4, none⟩ wv') rb S a x g N O wv' q :=
  ⟨(heap_other (Ne.symm h.ne) _ _).trans h.rr, h.only.set (.inr h.ge) _ _, set_of h.box 4 _, h.ge⟩
end
/-- The part, appended. -/
theorem BR.finish {w0 w wx : World} {rb B : Nat} {S : ByteArray} {a a0 x g : Nat} {N O : ByteArray} {wa : Option Addr} {wn wc : Nat} {q : Bool} {va : Option Addr} {n c : Nat} {l : List Prt} {L : List Pt} {p : PS} {Z : Nat} {wl : List Prt}
    (h : BR w wx rb S a x g N O (.slice wa wn wc) q) (h0 : RIn w0 w rb B S a0 (.slice va n c) l L p Z) (hZ : Z ≤ 60000) (hw : Wd wx (fun k => w.heap.size ≤ k) (.slice wa wn wc) wl) :
    ∃ (a2 : Option Addr) (n2 c2 : Nat) (w2 : World) (L2 : List Pt), (Builtin.append_ #[32, 32] 32 #[.slice va n c, .slice (some ⟨wx.heap.size, 0, none⟩) 1 1]).run Try.prog (wx.alloc (.cells #[.int .i64 3, .string ⟨#[]⟩, .string N, .string O, .slice wa wn wc, .bool q] 39)) = .ok (.slice a2 n2 c2) w2 ∧
      RS w0 w2 rb B S a x (.slice a2 n2 c2) (l ++ [.mk 3 [] N.data.toList O.data.toList wl q]) L2 := by
  have hrs := h0.rs.rb h.rr h.only
  have hl : l.length ≤ 90000 := by
    have h1 : l.length ≤ SZ l := by unfold SZ; omega
    have := h0.sz
    omega
  have hle := h0.rs.le
  obtain ⟨a2, n2, c2, w2, r, hr⟩ := hrs.push hl ⟨3, ⟨#[]⟩, N, O, .slice wa wn wc, q⟩ (.mk 3 [] N.data.toList O.data.toList wl q) ⟨rfl, rfl, rfl, rfl, rfl⟩ (hw.mono fun k hk => ⟨by omega, fun e => by have := (h0.rs.row.own.lt k e).2; omega⟩)
  exact ⟨a2, n2, c2, w2, _, r, hr⟩
def braceR (q : Bool) (d : Nat) (p : PS) (s : Bz) : Res (PS × Bz) := match braceF (wordC q (d + 1)) q d s with
  | .error x => .error x
  | .ok (x, r) => .ok (p.add x, r)
/-- A word, of so many bytes. -/
def RWP (n : Nat) : Prop := ∀ (w : World) (rb a : Nat) (S : ByteArray) (e : Nat) (q : Bool) (d : Nat) (wh : Bool), S.size - a = n → ((d = 0 ∧ q = false ∧ e = if wh then 0 else 1) ∨ (0 < d ∧ wh = true ∧ e = 2)) → d ≤ 40 → Rr w rb S a 0 → a ≤ S.size → S.size ≤ 16384 →
  Calls Try.prog 28 #[.pointer (some ⟨rb, 0, none⟩), .bool wh, .int .i64 d, .bool q] w (WordR w rb S d (allR (readC e q d ps0 (S.data.toList.drop a))))
/-! What stands in braces, by its head. -/
theorem head_L {s : Bz} {r : Bz} (hs : s = 35 :: r) (h1 : r.head? ≠ some 125) (h2 : opOf r = []) : headF s = ([76], r.take (longParam r), r.drop (longParam r)) := by
  subst hs; unfold headF; rw [if_pos ⟨rfl, h1, h2⟩]; rfl
theorem head_N {s : Bz} (h : ¬ (s.head? = some 35 ∧ s.tail.head? ≠ some 125 ∧ opOf s.tail = [])) : headF s = (opOf (s.drop (longParam s)), s.take (longParam s), (s.drop (longParam s)).drop (opOf (s.drop (longParam s))).length) := by
  unfold headF; rw [if_neg h]
theorem brace_none {W : Bz → Res (List Prt × Bz)} {q : Bool} {d : Nat} {s : Bz} (h : (headF s).2.1 = []) : braceF W q d s = .error 2 := by unfold braceF; simp only; rw [if_pos h]
theorem brace_plain {W : Bz → Res (List Prt × Bz)} {q : Bool} {d : Nat} {s : Bz} (h : (headF s).2.1 ≠ []) (ho : (headF s).1 = [] ∨ (headF s).1 = [76]) : braceF W q d s = (match (headF s).2.2 with
    | [] => .error 2
    | c :: r => if c = 125 then .ok (.mk 3 [] (headF s).2.1 (headF s).1 [] q, r) else .error 2) := by
  unfold braceF; simp only; rw [if_neg h, if_pos ho]
  cases (headF s).2.2 <;> rfl
theorem brace_word {W : Bz → Res (List Prt × Bz)} {q : Bool} {d : Nat} {s : Bz} (h : (headF s).2.1 ≠ []) (ho : ¬ ((headF s).1 = [] ∨ (headF s).1 = [76])) : braceF W q d s = (if d = 40 then .error 3 else match W (headF s).2.2 with
    | .error x => .error x
    | .ok (w, []) => .error 2
    | .ok (w, c :: r) => if c = 125 then .ok (.mk 3 [] (headF s).2.1 (headF s).1 w q, r) else .error 2) := by
  unfold braceF; simp only; rw [if_neg h, if_neg ho]
  split
  · rfl
  · cases W (headF s).2.2 with
    | error x => rfl
    | ok z => obtain ⟨w, r⟩ := z; cases r <;> rfl
theorem opOf_not76 (s : Bz) : opOf s ≠ [76] := by
  intro h
  have key : ∀ n, ops2.contains (s.take n) = true → s.take n ≠ [76] := fun n hn e => by
    rw [e] at hn; exact absurd hn (by decide)
  unfold opOf at h
  split at h
  · exact key 2 (by assumption) h
  · split at h
    · exact key 1 (by assumption) h
    · cases h
theorem opOf_le (s : Bz) : (opOf s).length ≤ s.length := by
  unfold opOf
  split
  · simp
    omega
  · split
    · simp; omega
    · simp
end Go.Proofs.Ytafbheplaheohaa
