import Derived.Test.YtcmjpkfinbakkaaDoorWE
import Derived.Test.YtcmjpkfinbakkaaDoorVM
import Derived.Lib.SlBytesConst
import Derived.Lib.SmallJoins
import Derived.Test.YtcmjpkfinbakkaaDoorWA
namespace Go.Proofs.YtcmjpkfinbakkaaDoor
open Go.RowKit Go.Maps Go.ChangeMaps
set_option linter.unusedVariables false
theorem Fs.cap {w : World} {B N f : Nat} {c : Cn} {T : Tr} {F : Nat → Prop} (h : Fs w B N f c T F) : Fs w B N f c T (fun j => F j ∧ j < w.heap.size) := by
  obtain ⟨A, M, V, h1, h2, h3⟩ := h
  exact ⟨A, M, V, h1, fun j hj => ⟨h2 j hj, h1.lt hj⟩, h3⟩
theorem Fs.imp {w : World} {B N f : Nat} {c : Cn} {T : Tr} {F F' : Nat → Prop} (h : Fs w B N f c T F) (hF : ∀ j, F j → F' j) : Fs w B N f c T F' := by
  obtain ⟨A, M, V, h1, h2, h3⟩ := h
  exact ⟨A, M, V, h1, fun j hj => hF j (h2 j hj), h3⟩
set_option maxRecDepth 100000 in
set_option maxHeartbeats 1000000 in
theorem num_any (n : Int) (w : World) : Calls Tryd.prog 12 #[.int .i64 n] w fun e w' => e = .returned (.int .i64 n) ∧ w' = w := by
  go_enter Tryd.func12, Tryd.ntmps12
  go_wp2_with fail
  go_ret
  exact ⟨rfl, rfl⟩
section
variable {w : World} {B N f : Nat} {c : Cn} {T : Tr} {F : Nat → Prop} {p : ByteArray}
set_option maxRecDepth 100000 in
set_option maxHeartbeats 1000000 in
theorem Clock_any (hF : Fs w B N f c T F) : Calls Tryd.prog 18 #[.pointer (some ⟨f, 0, none⟩)] w fun e w' => e = .returned (.int .i64 c.clock) ∧ w' = w := by
  obtain ⟨A, M, V, hT, hft, r0, h0, hr0⟩ := hF
  have q8 : w.cell? ⟨f, 8, none⟩ = some (.int .i64 c.clock) := cell_of (hT.rootBlk h0) 8
  have HHE := Lib.hid (fun w => here_any f w)
  clear hT hft h0 hr0
  go_enter Tryd.func18, Tryd.ntmps18
  go_wp2_with (go_at_call 21; refine (HHE.out _).mono ?_; rintro e w2 ⟨rfl, h2⟩; obtain rfl := h2.symm; simp only [])
  go_ret
  exact ⟨rfl, rfl⟩
set_option maxRecDepth 100000 in
set_option maxHeartbeats 4000000 in
theorem Time_ok {n : Nd} (hF : Fs w B N f c T F) (hp : PathOk p) (hE : findE T p = 0) (hn : T (findL p) = some n) :
    Calls Tryd.prog 19 #[.pointer (some ⟨f, 0, none⟩), .string p] w fun e w' => e = .returned (.int .i64 n.time) ∧ Below w.heap.size w w' := by
  obtain ⟨A, M, V, hT, hft, r0, h0, hr0⟩ := hF
  have HB := Lib.hid (present_ok hT h0 hr0 hp hE hn)
  have HT := Lib.hid hT
  have HN := Lib.hid hn
  obtain ⟨L, hL⟩ : ∃ L, findL p = L := ⟨_, rfl⟩
  rw [hL] at HB HN
  clear hT hft h0 hr0 hp hE hn hL
  go_enter Tryd.func19, Tryd.ntmps19
  go_wp2_with (go_at_call 24; refine HB.out.mono ?_; rintro e w1 ⟨⟨a, b, c, d, l, rfl⟩, h1⟩; have H1 := Lib.hid h1; have h2 := (HT.out.only (X := fun _ => False) (Only.of_below (h1.alloc h1.size (.cells #[.pointer a, .string b, .pointer (some ⟨A L, 0, none⟩), .slice c l d] 50))) (fun _ h => h.elim)).blk _ n HN.out; have q0 : (w1.alloc (.cells #[.pointer a, .string b, .pointer (some ⟨A L, 0, none⟩), .slice c l d] 50)).cell? ⟨A L, 2, none⟩ = some (.int .i64 n.time) := cell_of h2 2; clear h1 h2; simp only [])
  go_ret
  exact ⟨rfl, H1.out.alloc H1.out.size _⟩
end
end Go.Proofs.YtcmjpkfinbakkaaDoor

namespace Go.Proofs.YtcmjpkfinbakkaaDoor
open Go.RowKit Go.Maps Go.ChangeMaps
set_option linter.unusedVariables false
theorem new_at {w w' : World} {B N f : Nat} {c c' : Cn} {F : Nat → Prop} (h : Fs w B N f c newT F) (hc : c = c') : Fs w B N f c' newT F := hc ▸ h
set_option maxRecDepth 100000 in
set_option maxHeartbeats 4000000 in
theorem alive_any (w : World) : Calls Tryd.prog 5 #[] w fun e w' => e = .returned (.bool true) ∧ Below w.heap.size w w' := by
  have HNEW : Hid (Calls Tryd.prog 6 #[.int .i64 3, .int .i64 10] w fun e w1 => ∃ f, e = .returned (.pointer (some ⟨f, 0, none⟩)) ∧ Fs w1 w.heap.size 0 f ⟨3, 10, 0, 0, 0⟩ newT (fun j => w.heap.size ≤ j ∧ j < w1.heap.size) ∧ Below w.heap.size w w1) := by
    rw [Hid]
    refine (New_any 3 10 w (B := w.heap.size) (N := 0) (Nat.le_refl _)).mono ?_
    rintro e w1 ⟨f, h1, h2, h3⟩
    rw [show min (max (3 : Int) 0) 10000 = 3 by decide, show min (max (10 : Int) 0) 1048576 = 10 by decide] at h2
    exact ⟨f, h1, h2.cap, h3⟩
  have HNUM := Lib.hid num_any
  go_enter Tryd.func5, Tryd.ntmps5
  go_wp2_with (go_at_call 6; refine HNEW.out.mono ?_; rintro e w1 ⟨f, rfl, hf, h1⟩; have HF := Lib.hid hf; have H1 := Lib.hid h1; clear hf h1; have hcv := Lib.run_convert_bytes_const w1 28 5 #[.int .u8 120] 1 1 Tryd.underlying28 Tryd.underlying5; simp only [])
  have hb2 : Below w1.heap.size w1 (w1.alloc (.cells #[.int .u8 120] 5 (1, 2))) := (Below.refl _ _).alloc (Nat.le_refl _) _
  have hF2 := HF.out.below hb2
  have hbin : Bin (w1.alloc (.cells #[.int .u8 120] 5 (1, 2))) (.slice (some ⟨w1.heap.size, 0, none⟩) ([120] : Bz).length 1) [120] := by
    refine ⟨_, _, rfl, fun i hi => ?_⟩
    have hi0 : i = 0 := by simp at hi; omega
    subst hi0
    exact ⟨w1.heap.size, 0, rfl, by simp, World.cell?_alloc_mark w1 #[.int .u8 120] 5 (1, 2) 0⟩
  have hw1 : w.heap.size ≤ w1.heap.size := H1.out.size
  have hE : findE newT ⟨#[47, 97]⟩ = 0 := path_a.2.1 _
  have hn : newT (findL ⟨#[47, 97]⟩) = none := by rw [path_a.1]; rfl
  have HW := Write_new _ ⟨#[47, 97]⟩ false hF2 path_a.2.2 ⟨by decide, by decide, by decide, by decide, by decide⟩ (by decide) (by simp; omega) hE hn [120] _ _ hbin (fun a ha hF => by cases ha; exact Nat.lt_irrefl _ hF.2) (by decide) (by decide) (by decide)
  have HW := Lib.hid HW
  clear hb2 hF2 hbin hE hn
  go_wp2_with (first
    | (go_at_call 8; refine HW.out.mono ?_; rintro e w3 ⟨rfl, hf3, ho3⟩; have HF3 := Lib.hid hf3; have HO3 := Lib.hid ho3; clear hf3 ho3; simp only [])
    | (go_at_call 12; refine (HNUM.out _ _).mono ?_; rintro e w4 ⟨rfl, h4⟩; obtain rfl := h4.symm; simp only [])
    | (go_at_call 18; refine (Clock_any HF3.out).mono ?_; rintro e w4 ⟨rfl, h4⟩; obtain rfl := h4.symm; simp only [])
    | (go_at_call 19; refine (Time_ok HF3.out path_a.2.2 (path_a.2.1 _) (by rw [path_a.1]; exact setF_same _ _ _)).mono ?_; rintro e w4 ⟨rfl, h4⟩; have H4 := Lib.hid h4; clear h4; simp only []))
  go_ret
  have s2 : w.heap.size ≤ (w1.alloc (.cells #[.int .u8 120] 5 (1, 2))).heap.size := by simp; omega
  have b3 : Below w.heap.size (w1.alloc (.cells #[.int .u8 120] 5 (1, 2))) w3 := HO3.out.below (fun k hk => hk.1) s2
  exact ⟨rfl, ((H1.out.alloc hw1 _).trans b3).trans (H4.out.mono (Nat.le_trans s2 HO3.out.size))⟩
end Go.Proofs.YtcmjpkfinbakkaaDoor

namespace Go.Proofs.YtcmjpkfinbakkaaDoor
set_option maxRecDepth 100000
open Go.RowKit Go.Maps Go.ChangeMaps
set_option linter.unusedVariables false
theorem Read_file {w : World} {B N f : Nat} {c : Cn} {T : Tr} {F : Nat → Prop} {p : ByteArray} (hF : Fs w B N f c T F) (hp : PathOk p) (hE : findE T p = 0) {n : Nd} (hn : T (findL p) = some n) (hnf : n.file = true) (hl : n.data.length ≤ 1000000) :
    Calls Tryd.prog 9 #[.pointer (some ⟨f, 0, none⟩), .string p] w fun e w' => ∃ v', e = .returned (.tuple #[v', .int .i64 0]) ∧ w'.ownsRow w.heap.size 5 1 v' n.data.length (u8s n.data) ∧ Below w.heap.size w w' := by
  obtain ⟨A, M, V, hT, hft, r0, h0, hr0⟩ := hF
  have HB := Lib.hid (present_ok hT h0 hr0 hp hE hn)
  have HT := Lib.hid hT
  have HN := Lib.hid hn
  obtain ⟨L, hL⟩ : ∃ L, findL p = L := ⟨_, rfl⟩
  rw [hL] at HB HN
  obtain ⟨va, vc, hv, _⟩ := own_slice (hT.data L n HN.out)
  have HD : Hid (∀ w1, Below w.heap.size w w1 → Calls Tryd.prog 25 #[.slice va n.data.length vc] w1 fun e w' => ∃ a n' c, e = .returned (.slice a n' c) ∧ w'.ownsRow w.heap.size 5 1 (.slice a n' c) n.data.length (u8s n.data) ∧ Below w.heap.size w w') := fun w1 hb => by
    have hd := (hT.only (X := fun _ => False) (Only.of_below hb) (fun _ h => h.elim)).data L n HN.out
    rw [hv] at hd
    refine (clone_own hd hl).mono ?_
    rintro e w' ⟨v', rfl, k1, k2⟩
    obtain ⟨a, c, rfl, _⟩ := own_slice k1
    refine ⟨_, _, _, rfl, ⟨k1.1, k1.2.elim .inl (fun ⟨g, cap, cur, hv, hg, r⟩ => .inr ⟨g, cap, cur, hv, Nat.le_trans hb.size hg, r⟩)⟩, hb.trans (k2.mono hb.size)⟩
  clear hT h0 hr0 hp hE hn hL
  go_enter Tryd.func9, Tryd.ntmps9
  go_wp2_with (first
    | (go_at_call 24; refine HB.out.mono ?_; rintro e w1 ⟨⟨a, b, c, d, l, rfl⟩, h1⟩; have H1 := Lib.hid h1; have h2 := (HT.out.only (X := fun _ => False) (Only.of_below (h1.alloc h1.size (.cells #[.pointer a, .string b, .pointer (some ⟨A L, 0, none⟩), .slice c l d] 50))) (fun _ h => h.elim)).blk _ n HN.out; have q0 : (w1.alloc (.cells #[.pointer a, .string b, .pointer (some ⟨A L, 0, none⟩), .slice c l d] 50)).cell? ⟨A L, 0, none⟩ = some (.bool n.file) := cell_of h2 0; rw [hnf] at q0; have q1 : (w1.alloc (.cells #[.pointer a, .string b, .pointer (some ⟨A L, 0, none⟩), .slice c l d] 50)).cell? ⟨A L, 1, none⟩ = some (V L) := cell_of h2 1; rw [hv] at q1; have HC := Lib.hid (HD.out (w1.alloc (.cells #[.pointer a, .string b, .pointer (some ⟨A L, 0, none⟩), .slice c l d] 50)) (h1.alloc h1.size _)); clear h1 h2; simp only [])
    | (go_at_call 25; refine HC.out.mono ?_; rintro e w5 ⟨a5, n5, c5, rfl, k1, k2⟩; have K1 := Lib.hid k1; have K2 := Lib.hid k2; clear k1 k2; simp only []))
  go_ret2
  exact ⟨_, rfl, K1.out, K2.out⟩
end Go.Proofs.YtcmjpkfinbakkaaDoor

namespace Go.Proofs.YtcmjpkfinbakkaaDoor
set_option maxRecDepth 100000
open Go.RowKit Go.Maps Go.ChangeMaps
set_option linter.unusedVariables false
/-- The tree of VfsErrors, and its counters. -/
def T3 : Tr := setF (setF (setF newT [[100]] (some ⟨false, [], 1⟩)) [[100], [102]] (some ⟨true, [120], 2⟩)) [[100], [101]] (some ⟨false, [], 3⟩)
def c3 : Cn := ⟨9, 90, 3, 1, 3⟩
theorem c3_ok : c3.Ok := ⟨by decide, by decide, by decide, by decide, by decide⟩
theorem T3_data : ∀ p n, T3 p = some n → n.data.length ≤ 1000000 := by
  intro p n h
  unfold T3 at h
  by_cases h1 : p = [[100], [101]]
  · rw [h1, setF_same] at h; injection h with h; subst h; decide
  · rw [setF_other _ _ h1] at h
    by_cases h2 : p = [[100], [102]]
    · rw [h2, setF_same] at h; injection h with h; subst h; decide
    · rw [setF_other _ _ h2] at h
      by_cases h3 : p = [[100]]
      · rw [h3, setF_same] at h; injection h with h; subst h; decide
      · rw [setF_other _ _ h3] at h
        unfold newT leafT at h
        split at h
        · injection h with h; subst h; decide
        · cases h
/-- What the six calls of VfsErrors tell at a path. -/
structure Tells (p : ByteArray) (ra rb rc rd re rg : Int) : Prop where
  read : ∀ w B N f F, Fs w B N f c3 T3 F → Calls Tryd.prog 9 #[.pointer (some ⟨f, 0, none⟩), .string p] w fun e w' => ∃ a n c, e = .returned (.tuple #[.slice a n c, .int .i64 ra]) ∧ Below w.heap.size w w'
  list : ∀ w B N f F, Fs w B N f c3 T3 F → N ≤ 1000 → Calls Tryd.prog 10 #[.pointer (some ⟨f, 0, none⟩), .string p] w fun e w' => ∃ a n c, e = .returned (.tuple #[.slice a n c, .int .i64 rb]) ∧ Below w.heap.size w w'
  write : ∀ w B N f F, Fs w B N f c3 T3 F → N ≤ 1000 → B ≤ w.heap.size → Calls Tryd.prog 8 #[.pointer (some ⟨f, 0, none⟩), .string p, .slice none 0 0, .bool false] w fun e w' => e = .returned (.int .i64 rc) ∧ Only F w w'
  mkdir : ∀ w B N f F, Fs w B N f c3 T3 F → N ≤ 1000 → B ≤ w.heap.size → Calls Tryd.prog 7 #[.pointer (some ⟨f, 0, none⟩), .string p] w fun e w' => e = .returned (.int .i64 rd) ∧ Only F w w'
  remove : ∀ w B N f F, Fs w B N f c3 T3 F → N ≤ 1000 → B ≤ w.heap.size → Calls Tryd.prog 13 #[.pointer (some ⟨f, 0, none⟩), .string p] w fun e w' => e = .returned (.int .i64 re) ∧ Only F w w'
  touch : ∀ w B N f F, Fs w B N f c3 T3 F → N ≤ 1000 → B ≤ w.heap.size → Calls Tryd.prog 14 #[.pointer (some ⟨f, 0, none⟩), .string p] w fun e w' => e = .returned (.int .i64 rg) ∧ Only F w w'
theorem mutp {w w' : World} {B N f : Nat} {F : Nat → Prop} {er : Int} {T : Tr} {c : Cn} {e : Ending} (h : MutP w B N f F er T c e w') : e = .returned (.int .i64 er) ∧ Only F w w' := ⟨h.1, h.2.2⟩
theorem lt_max {N : Nat} (h : N ≤ 1000) : N < maxLen := by unfold maxLen; omega
theorem tells_bad (p : ByteArray) (er : Int) (hp : PathOk p) (hE : findE T3 p = er) (hne : er ≠ 0) : Tells p er er er er er er := by
  have hP : presE T3 p = er := by unfold presE; rw [hE, if_pos hne]
  refine ⟨fun w B N f F h => ?_, fun w B N f F h hN => ?_, fun w B N f F h hN hB => ?_, fun w B N f F h hN hB => ?_, fun w B N f F h hN hB => ?_, fun w B N f F h hN hB => ?_⟩
  · obtain ⟨A, M, V, hT, hft, r0, h0, hr0⟩ := h
    refine (Read_err hT h0 hr0 hp (by rw [hP]; exact hne)).mono ?_
    rintro e w' ⟨rfl, h2⟩
    exact ⟨none, 0, 0, by rw [hP], h2⟩
  · obtain ⟨A, M, V, hT, hft, r0, h0, hr0⟩ := h
    refine (List_err hT h0 hr0 hp (by rw [hP]; exact hne)).mono ?_
    rintro e w' ⟨rfl, h2⟩
    exact ⟨none, 0, 0, by rw [hP], h2⟩
  · exact (Write_no w p _ [] false h hp er (.inl ⟨by rw [hE]; exact hne, hE.symm⟩) ⟨_, _, _, rfl⟩).mono fun e w' hm => mutp hm
  · exact (Mkdir_any w p h hp c3_ok (lt_max hN) hB er T3 c3 (by show mkdirF T3 c3 p = _; unfold mkdirF; rw [if_pos (by rw [hE]; exact hne), hE])).mono fun e w' hm => mutp hm
  · refine (Remove_err h hp (by rw [hP]; exact hne)).mono fun e w' hm => ?_
    rw [hP] at hm; exact mutp hm
  · refine (Touch_bad h hp (by rw [hE]; exact hne)).mono fun e w' hm => ?_
    rw [hE] at hm; exact mutp hm
theorem tells_none (p : ByteArray) (hp : PathOk p) (hE : findE T3 p = 0) (hn : T3 (findL p) = none) : Tells p 6 6 0 0 6 0 := by
  have hP : presE T3 p = 6 := by unfold presE; rw [hE, if_neg (by decide), hn]; rfl
  refine ⟨fun w B N f F h => ?_, fun w B N f F h hN => ?_, fun w B N f F h hN hB => ?_, fun w B N f F h hN hB => ?_, fun w B N f F h hN hB => ?_, fun w B N f F h hN hB => ?_⟩
  · obtain ⟨A, M, V, hT, hft, r0, h0, hr0⟩ := h
    refine (Read_err hT h0 hr0 hp (by rw [hP]; decide)).mono ?_
    rintro e w' ⟨rfl, h2⟩
    exact ⟨none, 0, 0, by rw [hP], h2⟩
  · obtain ⟨A, M, V, hT, hft, r0, h0, hr0⟩ := h
    refine (List_err hT h0 hr0 hp (by rw [hP]; decide)).mono ?_
    rintro e w' ⟨rfl, h2⟩
    exact ⟨none, 0, 0, by rw [hP], h2⟩
  · exact (Write_new w p false h hp c3_ok (lt_max hN) hB hE hn [] none 0 ⟨none, 0, rfl, fun i h => absurd h (by simp)⟩ (fun a h => by cases h) (by simp) (by decide) (by decide)).mono fun e w' hm => mutp hm
  · exact (Mkdir_any w p h hp c3_ok (lt_max hN) hB 0 _ _ (by show mkdirF T3 c3 p = _; unfold mkdirF; rw [if_neg (by rw [hE]; decide), hn, if_neg (by decide), if_neg (by decide)])).mono fun e w' hm => mutp hm
  · refine (Remove_err h hp (by rw [hP]; decide)).mono fun e w' hm => ?_
    rw [hP] at hm; exact mutp hm
  · exact (Touch_new h hp c3_ok (lt_max hN) hB hE hn (by decide) (by decide)).mono fun e w' hm => mutp hm
theorem tells_file (p : ByteArray) (hp : PathOk p) (hE : findE T3 p = 0) (hL : findL p ≠ []) {n : Nd} (hn : T3 (findL p) = some n) (hnf : n.file = true) (hno : ∀ x, T3 (findL p ++ [x]) = none) : Tells p 0 11 0 12 0 0 := by
  have hd := T3_data _ _ hn
  have hs : (c3.bytes - (c3.size - (n.data.length : Int))) ≥ 0 := by show (90 : Int) - (1 - n.data.length) ≥ 0; omega
  refine ⟨fun w B N f F h => ?_, fun w B N f F h hN => ?_, fun w B N f F h hN hB => ?_, fun w B N f F h hN hB => ?_, fun w B N f F h hN hB => ?_, fun w B N f F h hN hB => ?_⟩
  · refine (Read_file h hp hE hn hnf hd).mono ?_
    rintro e w' ⟨v', rfl, h2, h3⟩
    obtain ⟨a, c, rfl, _⟩ := own_slice h2
    exact ⟨_, _, _, rfl, h3⟩
  · obtain ⟨A, M, V, hT, hft, r0, h0, hr0⟩ := h
    refine (List_file hT h0 hr0 hp hE hn hnf).mono ?_
    rintro e w' ⟨rfl, h2⟩
    exact ⟨none, 0, 0, rfl, h2⟩
  · exact (Write_over w p h hp c3_ok (lt_max hN) hB hE hn hnf hd [] none 0 ⟨none, 0, rfl, fun i h => absurd h (by simp)⟩ (fun a h => by cases h) (by simp) (by simp; omega)).mono fun e w' hm => mutp hm
  · exact (Mkdir_any w p h hp c3_ok (lt_max hN) hB 12 _ _ (by show mkdirF T3 c3 p = _; unfold mkdirF; rw [if_neg (by rw [hE]; decide), hn, if_pos (show (some n).isSome = true from rfl)])).mono fun e w' hm => mutp hm
  · exact (Remove_ok h hp c3_ok hE hL hn hno (by omega)).mono fun e w' hm => mutp hm
  · exact (Touch_old h hp c3_ok hE hL hn).mono fun e w' hm => mutp hm
theorem tells_dir (p : ByteArray) (hp : PathOk p) (hE : findE T3 p = 0) {n : Nd} (hn : T3 (findL p) = some n) (hnf : n.file = false) (re rg : Int)
    (hre : (findL p = [] ∧ re = 1) ∨ (findL p ≠ [] ∧ re = 14 ∧ ∃ x, (T3 (findL p ++ [x])).isSome = true) ∨ (findL p ≠ [] ∧ re = 0 ∧ ∀ x, T3 (findL p ++ [x]) = none)) : Tells p 10 0 10 12 re 0 := by
  have hd := T3_data _ _ hn
  refine ⟨fun w B N f F h => ?_, fun w B N f F h hN => ?_, fun w B N f F h hN hB => ?_, fun w B N f F h hN hB => ?_, fun w B N f F h hN hB => ?_, fun w B N f F h hN hB => ?_⟩
  · obtain ⟨A, M, V, hT, hft, r0, h0, hr0⟩ := h
    refine (Read_dir hT h0 hr0 hp hE hn hnf).mono ?_
    rintro e w' ⟨rfl, h2⟩
    exact ⟨none, 0, 0, rfl, h2⟩
  · obtain ⟨A, M, V, hT, hft, r0, h0, hr0⟩ := h
    refine (List_dir hT h0 hr0 hp hE hn hnf (by omega)).mono ?_
    rintro e w' ⟨v, l, rfl, h2, _, _, h3⟩
    obtain ⟨a, c, rfl, _⟩ := own_slice h2
    exact ⟨_, _, _, rfl, h3⟩
  · exact (Write_no w p _ [] false h hp 10 (.inr ⟨hE, ⟨n, hn, hnf⟩, rfl⟩) ⟨_, _, _, rfl⟩).mono fun e w' hm => mutp hm
  · exact (Mkdir_any w p h hp c3_ok (lt_max hN) hB 12 _ _ (by show mkdirF T3 c3 p = _; unfold mkdirF; rw [if_neg (by rw [hE]; decide), hn, if_pos (show (some n).isSome = true from rfl)])).mono fun e w' hm => mutp hm
  · rcases hre with ⟨hL, rfl⟩ | ⟨hL, rfl, x, hx⟩ | ⟨hL, rfl, hno⟩
    · exact (Remove_root h hp hE hL).mono fun e w' hm => mutp hm
    · exact (Remove_used h hp hE hL (by rw [hn]; rfl) hx).mono fun e w' hm => mutp hm
    · exact (Remove_ok h hp c3_ok hE hL hn hno (by omega)).mono fun e w' hm => mutp hm
  · by_cases hL : findL p = []
    · exact (Touch_root h hp hE hL).mono fun e w' hm => mutp hm
    · exact (Touch_old h hp c3_ok hE hL hn).mono fun e w' hm => mutp hm
theorem T3_deep (a b x : Bz) : T3 [a, b, x] = none := by
  unfold T3
  rw [setF_other _ _ (by simp), setF_other _ _ (by simp), setF_other _ _ (by simp)]
  rfl
theorem pth (p : ByteArray) (L : Pth) (h : parts root1 p = L) (hG : Good L) (hs : (∀ x ∈ L, x.length ≤ 60) ∧ L.length ≤ 20 ∧ (written L).length ≤ 200 ∧ p.size ≠ 0 ∧ p.size ≤ 30000 ∧ ∀ c ∈ p.data.toList, c ≠ 0) : findL p = L ∧ (∀ T, findE T p = (wayE T [] L : Nat)) ∧ PathOk p :=
  path_of h hG hs.1 hs.2.1 hs.2.2.1 hs.2.2.2.1 hs.2.2.2.2.1 hs.2.2.2.2.2
theorem tells0 : Tells ⟨#[47, 100, 47, 102, 47, 120]⟩ 11 11 11 11 11 11 := by
  obtain ⟨h1, h2, h3⟩ := pth ⟨#[47, 100, 47, 102, 47, 120]⟩ [[100], [102], [120]] (by decide +kernel) (by unfold Good; decide +kernel) (by decide +kernel)
  exact tells_bad _ 11 h3 (by rw [h2]; decide +kernel) (by decide)
theorem tells1 : Tells ⟨#[47, 110, 47, 120]⟩ 6 6 6 6 6 6 := by
  obtain ⟨h1, h2, h3⟩ := pth ⟨#[47, 110, 47, 120]⟩ [[110], [120]] (by decide +kernel) (by unfold Good; decide +kernel) (by decide +kernel)
  exact tells_bad _ 6 h3 (by rw [h2]; decide +kernel) (by decide)
theorem tells2 : Tells ⟨#[47, 110]⟩ 6 6 0 0 6 0 := by
  obtain ⟨h1, h2, h3⟩ := pth ⟨#[47, 110]⟩ [[110]] (by decide +kernel) (by unfold Good; decide +kernel) (by decide +kernel)
  exact tells_none _ h3 (by rw [h2]; decide +kernel) (by rw [h1]; rfl)
theorem tells3 : Tells ⟨#[47, 100]⟩ 10 0 10 12 14 0 := by
  obtain ⟨h1, h2, h3⟩ := pth ⟨#[47, 100]⟩ [[100]] (by decide +kernel) (by unfold Good; decide +kernel) (by decide +kernel)
  exact tells_dir _ h3 (by rw [h2]; decide +kernel) (n := ⟨false, [], 1⟩) (by rw [h1]; rfl) rfl 14 0 (.inr (.inl ⟨by rw [h1]; decide, rfl, [102], by rw [h1]; rfl⟩))
theorem tells4 : Tells ⟨#[47, 100, 47, 102]⟩ 0 11 0 12 0 0 := by
  obtain ⟨h1, h2, h3⟩ := pth ⟨#[47, 100, 47, 102]⟩ [[100], [102]] (by decide +kernel) (by unfold Good; decide +kernel) (by decide +kernel)
  exact tells_file _ h3 (by rw [h2]; decide +kernel) (by rw [h1]; decide) (n := ⟨true, [120], 2⟩) (by rw [h1]; rfl) rfl (fun x => by rw [h1]; exact T3_deep _ _ _)
theorem tells5 : Tells ⟨#[47]⟩ 10 0 10 12 1 0 := by
  obtain ⟨h1, h2, h3⟩ := pth ⟨#[47]⟩ [] (by decide +kernel) (by unfold Good; decide +kernel) (by decide +kernel)
  exact tells_dir _ h3 (by rw [h2]; decide +kernel) (n := ⟨false, [], 0⟩) (by rw [h1]; rfl) rfl 1 0 (.inl ⟨h1, rfl⟩)
theorem tells6 : Tells ⟨#[]⟩ 1 1 1 1 1 1 := by
  have he : (abs_ root1 ⟨#[]⟩).2 = 1 := by unfold abs_; rw [if_pos (by left; rfl)]
  refine tells_bad _ 1 ⟨by decide, ?_, ?_, ?_⟩ (by unfold findE; rw [if_neg (by rw [he]; decide), he]) (by decide)
  · unfold abs_; rw [if_pos (by left; rfl)]; simp
  · have : findL ⟨#[]⟩ = [] := by decide +kernel
    rw [this]; simp
  · have : findL ⟨#[]⟩ = [] := by decide +kernel
    rw [this]; intro x hx; cases hx
theorem tells7 : Tells ⟨#[47, 100, 47, 101]⟩ 10 0 10 12 0 0 := by
  obtain ⟨h1, h2, h3⟩ := pth ⟨#[47, 100, 47, 101]⟩ [[100], [101]] (by decide +kernel) (by unfold Good; decide +kernel) (by decide +kernel)
  exact tells_dir _ h3 (by rw [h2]; decide +kernel) (n := ⟨false, [], 3⟩) (by rw [h1]; rfl) rfl 0 0 (.inr (.inr ⟨by rw [h1]; decide, rfl, fun x => by rw [h1]; exact T3_deep _ _ _⟩))
end Go.Proofs.YtcmjpkfinbakkaaDoor
