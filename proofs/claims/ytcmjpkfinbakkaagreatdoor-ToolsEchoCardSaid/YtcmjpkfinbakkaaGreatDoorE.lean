import Derived.Test.YtcmjpkfinbakkaaGreatDoorQV
import Derived.Lib.SlBytesConst
namespace Go.Proofs.YtcmjpkfinbakkaaGreatDoor
open Go.RowKit Go.ChangeShapes Go.WideShapes
set_option linter.unusedVariables false
set_option maxRecDepth 100000

theorem conv_own {w : World} {B : Nat} {v : Value} {bs : Bz} (h : w.ownsRow B 5 1 v bs.length (u8s bs)) : (convert 41 9 v).run Tryz.prog w = .ok (.string ⟨bs.toArray⟩) w := by
  rcases h.2 with ⟨rfl, h0⟩ | ⟨g, cap, cur, rfl, h2, h3, h4, _⟩
  · have hbs : bs = [] := List.eq_nil_of_length_eq_zero h0
    subst hbs
    have := run_convert_bytes_string (P := Tryz.prog) w 41 9 5 none 0 0 Tryz.underlying41 Tryz.underlying5 Tryz.underlying9
    rw [this]
    rfl
  · refine run_convert_bytes_back (P := Tryz.prog) w 41 9 5 ⟨g, 0, none⟩ cap bs Tryz.underlying41 Tryz.underlying5 Tryz.underlying9 fun j hj => ?_
    exact h.cells (g := g) rfl j _ (u8s_at hj)
def RunP (bs : Bz) (w : World) (e : Ending) (w' : World) : Prop := ∃ o', e = .returned (.agg #[.int .i64 0, o', .slice none 0 0]) ∧ w'.ownsRow w.heap.size 5 1 o' bs.length (u8s bs) ∧ Below w.heap.size w w'
def nEcho : ByteArray := ⟨#[101, 99, 104, 111]⟩
set_option pp.maxSteps 4000 in
set_option maxHeartbeats 8000000 in
theorem run_echo (f : Value) (cwd : ByteArray) (v inn : Value) (bs : Bz) (w : World) (hf : ∃ k, f = .pointer k) (hv : ∃ a n c, v = .slice a n c) (hi : ∃ a n c, inn = .slice a n c)
    (HE : ∀ (t : Nat) (w1 : World), Below w.heap.size w w1 → Tool w1 w.heap.size t f cwd nEcho inn 0 (.slice none 0 0) [] (.slice none 0 0) [] → Calls Tryz.prog 52 #[.pointer (some ⟨t, 0, none⟩), v] w1 (EchoP w.heap.size t f cwd nEcho inn 0 (.slice none 0 0) [] bs w1)) :
    Calls Tryz.prog 23 #[f, .string cwd, .string nEcho, v, inn] w (RunP bs w) := by
  obtain ⟨fk, rfl⟩ := hf
  obtain ⟨va, vn, vc, rfl⟩ := hv
  obtain ⟨ia, i_n, ic, rfl⟩ := hi
  obtain ⟨Q', hQ⟩ : ∃ Q', RunP bs w = Q' := ⟨_, rfl⟩
  rw [hQ]
  have HQ := Lib.hid hQ
  obtain ⟨W0, hW0⟩ : ∃ W0, w.alloc (.cells #[.int .i64 0, .slice none 0 0, .slice none 0 0] 43) = W0 := ⟨_, rfl⟩
  obtain ⟨W1, hW1⟩ : ∃ W1, W0.alloc (.cells #[.pointer fk, .string cwd, .string nEcho, .slice ia i_n ic, .int .i64 0, .slice none 0 0, .slice none 0 0] 98) = W1 := ⟨_, rfl⟩
  have hs0 : W0.heap.size = w.heap.size + 1 := by rw [← hW0]; simp
  have hb0 : Below w.heap.size w W0 := by rw [← hW0]; exact (Below.refl _ _).alloc (Nat.le_refl _) _
  have hb1 : Below w.heap.size w W1 := by rw [← hW1]; exact hb0.alloc (by omega) _
  have hk0 : W0.heap[w.heap.size]? = some (.cells [.int .i64 0, .slice none 0 0, .slice none 0 0].toArray 43 (0, 0)) := by rw [← hW0]; exact heap_alloc_new _ _
  have hk1 : W1.heap[w.heap.size]? = some (.cells [.int .i64 0, .slice none 0 0, .slice none 0 0].toArray 43 (0, 0)) := by
    rw [← hW1, (MapKept.heap_alloc _ _).2 _ (by omega)]; exact hk0
  have ht1 : W1.heap[w.heap.size + 1]? = some (.cells (tlC (.pointer fk) cwd nEcho (.slice ia i_n ic) 0 (.slice none 0 0) (.slice none 0 0)).toArray 98 (0, 0)) := by
    rw [← hW1, ← hs0]; exact heap_alloc_new _ _
  have HW1 := Lib.hid hW1
  have HW0 := Lib.hid hW0
  have hsz1 : w.heap.size + 1 < W1.heap.size := blk_lt ht1
  have HC := Lib.hid (HE (w.heap.size + 1) W1 hb1 ⟨ht1, by omega, World.ownsRow_nil _ _ _ _, World.ownsRow_nil _ _ _ _, (fun e => by cases e), (fun e => by cases e), (fun k e => by cases e)⟩)
  have HK1 := Lib.hid hk1
  have HB1 := Lib.hid hb1
  clear hQ HE hW0 hW1 hs0 hb0 hb1 hk0 hk1 ht1
  unfold nEcho at HC HW1 ⊢
  go_enter Tryz.func23, Tryz.ntmps23
  go_wp2_with (go_at_call 52; rw [HW0.out, HW1.out]; refine HC.out.mono ?_; rintro e w2 ⟨rfl, o', h2, h3⟩; obtain ⟨oa, oc, rfl, _⟩ := own_slice h2.out; have hk2 := (h3.block w.heap.size (by omega) (by omega)).trans HK1.out; have c0 : w2.cell? ⟨w.heap.size, 0, none⟩ = some (.int .i64 0) := cell_of hk2 0; have c1 : w2.cell? ⟨w.heap.size, 1, none⟩ = some (.slice none 0 0) := cell_of hk2 1; have c2 : w2.cell? ⟨w.heap.size, 2, none⟩ = some (.slice none 0 0) := cell_of hk2 2; have f0 := free_of hk2 0; have f1 := free_of hk2 1; have f2 := free_of hk2 2; have c4 : w2.cell? ⟨w.heap.size + 1, 4, none⟩ = some (.int .i64 0) := cell_of h2.blk 4; have c5 : w2.cell? ⟨w.heap.size + 1, 5, none⟩ = some (.slice oa bs.length oc) := cell_of h2.blk 5; have c6 : w2.cell? ⟨w.heap.size + 1, 6, none⟩ = some (.slice none 0 0) := cell_of h2.blk 6; have H2 := Lib.hid h2; have H3 := Lib.hid h3; have HK2 := Lib.hid hk2; clear h2 h3 hk2; simp only [])
  have hs := set_of (set_of (set_of HK2.out 0 (.int .i64 0)) 1 (.slice oa bs.length oc)) 2 (.slice none 0 0)
  have hb3 : Below w.heap.size w (((w2.setCell ⟨w.heap.size, 0, none⟩ (.int .i64 0)).setCell ⟨w.heap.size, 1, none⟩ (.slice oa bs.length oc)).setCell ⟨w.heap.size, 2, none⟩ (.slice none 0 0)) := by
    have hb2 : Below w.heap.size w w2 := HB1.out.trans (H3.out.below (fun k e => by omega) (by omega))
    exact ((hb2.setCell (Nat.le_refl _) _).setCell (Nat.le_refl _) _).setCell (Nat.le_refl _) _
  have hrow : (((w2.setCell ⟨w.heap.size, 0, none⟩ (.int .i64 0)).setCell ⟨w.heap.size, 1, none⟩ (.slice oa bs.length oc)).setCell ⟨w.heap.size, 2, none⟩ (.slice none 0 0)).ownsRow w.heap.size 5 1 (.slice oa bs.length oc) bs.length (u8s bs) := by
    refine row_only H2.out.out fun g hg _ => ?_
    have hne : g ≠ w.heap.size := by
      intro e
      rcases H2.out.out.2 with ⟨h1, _⟩ | ⟨g', cap, cur, h1, _, h4, _⟩
      · rw [h1] at hg; cases hg
      · rw [h1] at hg
        have hgg : g' = g := by simpa [Value.ownBlock] using hg
        rw [hgg, e, HK2.out] at h4
        injection h4 with h4
        injection h4 with _ h4 _
        exact absurd h4 (by decide)
    rw [Below.heap_setCell _ _ _ _ hne, Below.heap_setCell _ _ _ _ hne, Below.heap_setCell _ _ _ _ hne]
  generalize (((w2.setCell ⟨w.heap.size, 0, none⟩ (.int .i64 0)).setCell ⟨w.heap.size, 1, none⟩ (.slice oa bs.length oc)).setCell ⟨w.heap.size, 2, none⟩ (.slice none 0 0)) = w3 at *
  have d0 : w3.cell? ⟨w.heap.size, 0, none⟩ = some (.int .i64 0) := cell_of hs 0
  have d1 : w3.cell? ⟨w.heap.size, 1, none⟩ = some (.slice oa bs.length oc) := cell_of hs 1
  have d2 : w3.cell? ⟨w.heap.size, 2, none⟩ = some (.slice none 0 0) := cell_of hs 2
  refine bodyPost_ret (v := .agg #[.int .i64 0, .slice oa bs.length oc, .slice none 0 0]) ?_ rfl ?_
  · simp [results, Tryz.results23, go_sem, d0, d1, d2]
  · rw [← HQ.out]
    exact ⟨_, rfl, hrow, hb3⟩
end Go.Proofs.YtcmjpkfinbakkaaGreatDoor

namespace Go.Proofs.YtcmjpkfinbakkaaGreatDoor
open Go.RowKit Go.ChangeShapes Go.WideShapes
set_option linter.unusedVariables false
set_option maxRecDepth 100000

set_option maxHeartbeats 8000000 in
theorem new_some (n b : Int) (w : World) : Calls Tryz.prog 14 #[.int .i64 n, .int .i64 b] w fun e w' => (∃ k, e = .returned (.pointer k)) ∧ Below w.heap.size w w' := by
  go_enter Tryz.func14, Tryz.ntmps14
  go_wp2_with fail
  go_ret
  exact ⟨⟨_, rfl⟩, (Below.refl _ _).alloc (Nat.le_refl _) _⟩
set_option maxHeartbeats 8000000 in
theorem has_cat (w : World) : Calls Tryz.prog 51 #[.string ⟨#[99, 97, 116]⟩] w fun e w' => e = .returned (.bool true) ∧ w' = w := by
  go_enter Tryz.func51, Tryz.ntmps51
  go_wp2_with fail
  go_ret
  exact ⟨rfl, rfl⟩
set_option maxHeartbeats 8000000 in
theorem has_dog (w : World) : Calls Tryz.prog 51 #[.string ⟨#[100, 111, 103]⟩] w fun e w' => e = .returned (.bool false) ∧ w' = w := by
  go_enter Tryz.func51, Tryz.ntmps51
  go_wp2_with fail
  go_ret
  exact ⟨rfl, rfl⟩
theorem conv_agg {w : World} {B : Nat} {v : Value} {bs : Bz} (h : w.ownsRow B 5 1 v bs.length (u8s bs)) {S : ByteArray} (hS : S.data.toList = bs) : (convert 41 9 v).run Tryz.prog w = .ok (.string S) w := by
  rw [conv_own h, show (⟨bs.toArray⟩ : ByteArray) = S by rw [← hS]]
theorem txt2 (w : World) (x y : ByteArray) : Txt (w.alloc (.cells #[.string x, .string y] 9)) (.slice (some ⟨w.heap.size, 0, none⟩) 2 2) [x, y] :=
  ⟨_, 2, rfl, fun i hi => by
    refine ⟨w.heap.size, 0, rfl, by simp, ?_⟩
    simp only [World.cell?, heap_alloc_new w]
    match i, hi with
    | 0, _ => rfl
    | 1, _ => rfl⟩
set_option pp.maxSteps 4000 in
set_option maxHeartbeats 8000000 in
theorem alive_any (w : World) : Calls Tryz.prog 22 #[] w fun e w' => e = .returned (.bool true) ∧ Below w.heap.size w w' := by
  have HN := Lib.hid (fun w => new_some 1 1 w)
  have HC := Lib.hid has_cat
  have HD := Lib.hid has_dog
  have HR : Hid (∀ (k : Option Addr) (w1 : World), Calls Tryz.prog 23 #[.pointer k, .string ⟨#[47]⟩, .string ⟨#[101, 99, 104, 111]⟩, .slice (some ⟨w1.heap.size, 0, none⟩) 2 2, .slice none 0 0] (w1.alloc (.cells #[.string ⟨#[97]⟩, .string ⟨#[98]⟩] 9)) (RunP [97, 32, 98, 10] (w1.alloc (.cells #[.string ⟨#[97]⟩, .string ⟨#[98]⟩] 9)))) := fun k w1 =>
    run_echo (.pointer k) ⟨#[47]⟩ (.slice (some ⟨w1.heap.size, 0, none⟩) 2 2) (.slice none 0 0) _ _ ⟨k, rfl⟩ ⟨_, _, _, rfl⟩ ⟨_, _, _, rfl⟩ fun t w2 hb hT =>
      echo_plain _ t _ _ _ _ _ _ _ _ [⟨#[97]⟩, ⟨#[98]⟩] w2 hT ((txt2 w1 _ _).below hb) (fun a c e => by injection e with _ _ e; simp; omega) (by simp) (by decide) (by decide) (by have := hb.size; omega)
  go_enter Tryz.func22, Tryz.ntmps22
  go_wp2_with (first
    | (go_at_call 14; refine (HN.out _).mono ?_; rintro e w1 ⟨⟨k, rfl⟩, h1⟩; have H1 := Lib.hid h1; clear h1; simp only [])
    | (go_at_call 23; refine (HR.out _ _).mono ?_; rintro e w2 ⟨o', rfl, h2, h3⟩; obtain ⟨oa, oc, rfl, _⟩ := own_slice h2; have hcv : (convert 41 9 (.slice oa 4 oc)).run Tryz.prog (w2.alloc (.cells #[.int .i64 0, .slice oa 4 oc, .slice none 0 0] 43)) = .ok (.string ⟨#[97, 32, 98, 10]⟩) _ := conv_agg (own_below h2 ((Below.refl _ _).alloc (Nat.le_refl _) _)) rfl; have H2 := Lib.hid h2; have H3 := Lib.hid h3; clear h2 h3; simp only [])
    | (go_at_call 51; first
        | ((with_reducible refine (HC.out _).mono ?_); rintro e w3 ⟨rfl, h3⟩; obtain rfl := h3.symm; simp only [])
        | ((with_reducible refine (HD.out _).mono ?_); rintro e w3 ⟨rfl, h3⟩; obtain rfl := h3.symm; simp only [])))
  go_ret
  exact ⟨rfl, ((H1.out.alloc H1.out.size _).trans (H3.out.mono (by have := H1.out.size; simp; omega))).alloc (by have := H1.out.size; have := H3.out.size; simp at this; omega) _⟩
end Go.Proofs.YtcmjpkfinbakkaaGreatDoor

namespace Go.Proofs.YtcmjpkfinbakkaaGreatDoor
open Go.RowKit Go.ChangeShapes Go.WideShapes
set_option linter.unusedVariables false
set_option maxRecDepth 100000

theorem join_snoc (xs : List Bz) (x sep : Bz) : Lib.join (xs ++ [x]) sep = if xs = [] then x else Lib.join xs sep ++ sep ++ x := by
  cases xs with
  | nil => rw [if_pos rfl]; exact Lib.join_one x sep
  | cons y r =>
    rw [if_neg (by simp), List.cons_append, Lib.join_cons, Lib.join_cons]
    simp [Lib.joinTail, List.append_assoc]
theorem ba_ext {a b : ByteArray} (h : a.data.toList = b.data.toList) : a = b := ByteArray.ext (Array.ext' h)
/-- What the first k arguments are, joined. -/
def Ec (l : List ByteArray) (k : Nat) (S : ByteArray) : Prop := S.data.toList = Lib.join (bsOf (l.take k)) [32]
theorem Ec.next {l : List ByteArray} {k : Nat} {S S' : ByteArray} (h : Ec l k S) (hk : k < l.length) (hS : S'.data.toList = if k = 0 then l[k].data.toList else S.data.toList ++ [32] ++ l[k].data.toList) : Ec l (k + 1) S' := by
  have ht : l.take (k + 1) = l.take k ++ [l[k]] := by rw [List.take_add_one, List.getElem?_eq_getElem hk]; rfl
  have he : (bsOf (l.take k) = []) ↔ k = 0 := by
    unfold bsOf
    rw [List.map_eq_nil_iff]
    constructor
    · intro e
      have := congrArg List.length e
      rw [List.length_take, List.length_nil] at this
      omega
    · intro e; rw [e]; rfl
  unfold Ec
  rw [ht, show bsOf (l.take k ++ [l[k]]) = bsOf (l.take k) ++ [l[k].data.toList] from List.map_append, join_snoc, hS]
  by_cases h0 : k = 0
  · rw [if_pos h0, if_pos (he.2 h0)]
  · rw [if_neg h0, if_neg (fun e => h0 (he.1 e)), h]
/-- append of strings to an own row, whatever they are. -/
theorem app_strs {w : World} {B n : Nat} {v u : Value} {xs : List Value} {L : List ByteArray} (h : w.ownsRow B 9 1 v n xs) (hT : Txt w u L) (hn : n + L.length ≤ 100000) (hB : B ≤ w.heap.size) :
    ∃ v' w', (Builtin.append_ #[22, 22] 22 #[v, u]).run Tryz.prog w = .ok v' w' ∧ w'.ownsRow B 9 1 v' (n + L.length) (xs ++ L.map .string) ∧ w.grownBy w' v.ownBlock := by
  obtain ⟨i0, hi, hz0, hz1, hz2⟩ := info_parts info9
  obtain ⟨a, c, rfl, hx⟩ := hT.form
  have low : ∀ ad, a = some ad → (∀ j x, (L.map Value.string)[j]? = some x → w.cell? (ad.add j) = some x) → ∃ v' w', (Builtin.append_ #[22, 22] 22 #[v, .slice a L.length c]).run Tryz.prog w = .ok v' w' ∧ w'.ownsRow B 9 1 v' (n + L.length) (xs ++ L.map .string) ∧ w.grownBy w' v.ownBlock := by
    rintro ad rfl hc
    obtain ⟨v', w', hrun, r1, r2, _⟩ := run_append_own (P := Tryz.prog) w B 22 22 9 i0 (.string ⟨#[]⟩) 1 16 Tryz.underlying22 hi hz0 hz1 hz2 rfl (by decide) v n xs h ad L.length c (L.map .string) (by simp) hc (fun u hu => by
      obtain ⟨x, _, rfl⟩ := List.mem_map.1 hu
      rfl) (by unfold maxLen; omega) (by omega) hB
    exact ⟨v', w', hrun, r1, r2⟩
  cases L with
  | nil =>
    cases a with
    | some ad => exact low ad rfl (fun j x hj => by simp at hj)
    | none =>
      refine ⟨v, w, ?_, by simpa using h, ⟨rfl, rfl, rfl, Nat.le_refl _, fun _ _ _ => rfl⟩⟩
      rcases h.2 with ⟨rfl, rfl⟩ | ⟨g, cap, cur, rfl, _, _, hnc, _⟩
      · simp [Builtin.append_, run_underlying Tryz.underlying22, sizeOf, typeInfo, hi, Builtin.lenOf, Builtin.firstCells]
      · simp [Builtin.append_, run_underlying Tryz.underlying22, sizeOf, typeInfo, hi, Builtin.lenOf, Builtin.firstCells, hnc, storeCells]
  | cons x r =>
    obtain ⟨b, off, rfl, _, _⟩ := hx 0 (by simp)
    refine low _ rfl fun j y hj => ?_
    have hjl : j < (x :: r).length := by
      by_cases hh : j < (x :: r).length
      · exact hh
      · rw [List.getElem?_eq_none (by simpa using hh)] at hj; cases hj
    obtain ⟨b', off', e1, _, e2⟩ := hx j hjl
    injection e1 with e1
    injection e1 with e3 e4 _
    subst e3; subst e4
    rw [List.getElem?_map, List.getElem?_eq_getElem hjl] at hj
    injection hj with hj
    rw [addn, e2, ← hj]
end Go.Proofs.YtcmjpkfinbakkaaGreatDoor

namespace Go.Proofs.YtcmjpkfinbakkaaGreatDoor
open Go.RowKit Go.ChangeShapes Go.WideShapes
set_option linter.unusedVariables false
set_option maxRecDepth 100000

set_option maxHeartbeats 8000000 in
theorem echo_true_nil (a0 : Option Addr) (c0 : Nat) (W : World) (hT : Txt W (.slice a0 0 c0) []) :
    Calls Tryz.prog 6 #[.slice a0 0 c0, .bool true] W fun e w' => e = .returned (.bool true) ∧ Below W.heap.size W w' := by
  have HA := Lib.hid (alive_any W)
  have HT := Lib.hid hT
  clear hT
  go_enter Tryz.func6, Tryz.ntmps6
  go_wp2_with (go_at_call 22; refine HA.out.mono ?_; rintro e w5 ⟨rfl, h5⟩; have HB := Lib.hid h5; clear h5; simp only [])
  have HTX := Lib.hid (HT.out.below HB.out)
  go_loopw [6, 7] (fun x i wx => ∃ (S : ByteArray), x = .string S ∧ i = .int .i64 0 ∧ wx = w5 ∧ Hid (S.data.toList = [])) (fun _ _ _ => 0)
  case atStart => exact ⟨_, rfl, rfl, rfl, rfl⟩
  case round =>
    obtain ⟨S, rfl, rfl, rfl, HS⟩ := hrel
    have hS0 : S.size = 0 := by rw [← dl, HS.out]; rfl
    obtain ⟨v1, w7, hrun, r1, r2⟩ := app_strs (World.ownsRow_nil wr wr.heap.size 9 1) HTX.out (by decide) (Nat.le_refl _)
    have r1' : w7.ownsRow wr.heap.size 9 1 v1 0 [] := r1
    have hb7 : Below wr.heap.size wr w7 := ⟨r2.os, r2.tape, r2.output, r2.size, fun k hk => r2.block k hk (by simp [Value.ownBlock])⟩
    obtain ⟨a1, c1, rfl, hc1⟩ := own_slice r1'
    have HWN := Lib.hid (show Wn wr w7 (.slice a1 0 c1) [] from ⟨r1', hb7⟩)
    have HRUN : Hid ((Builtin.append_ #[22, 22] 22 #[.slice none 0 0, .slice a0 0 c0]).run Tryz.prog wr = .ok (.slice a1 0 c1) w7) := hrun
    have HB7 := Lib.hid (HB.out.trans (hb7.mono HB.out.size))
    have HNEW := Lib.hid (fun w => new_some 1 1 w)
    have hz1 : ¬ (9223372036854775807 < S.size + 1) := by omega
    have hSW : (S ++ (⟨#[10]⟩ : ByteArray)).data.toList = [10] := by rw [ba_app, HS.out]; rfl
    have HR : Hid (∀ (k : Option Addr) (z : Nat) (w8 : World), Below w7.heap.size w7 w8 → Calls Tryz.prog 23 #[.pointer k, .string ⟨#[47]⟩, .string ⟨#[101, 99, 104, 111]⟩, .slice a1 0 c1, .slice (some ⟨z, 0, none⟩) 2 2] w8 (RunP [10] w8)) := fun k z w8 hb8 =>
      run_echo (.pointer k) ⟨#[47]⟩ _ _ _ w8 ⟨k, rfl⟩ ⟨_, _, _, rfl⟩ ⟨_, _, _, rfl⟩ fun t w9 hb hTl =>
        echo_plain _ t _ _ _ _ _ _ _ _ [] w9 hTl ((HWN.out.txt.below hb8).below hb) (fun a c e => by injection e with _ _ e; simp) (by simp) (by decide) (by decide) (by have := hb.size; omega)
    have kc := fun (w : World) (C : Array Value) (n c : Nat) => Lib.run_convert_bytes_const (P := Tryz.prog) w 41 5 C n c Tryz.underlying41 Tryz.underlying5
    clear hrun r1 r1' r2 hb7 hS0
    go_wp2_with (first
      | (at_builtin; refine wpList_run_append _ rfl _ _ 22 22 rfl _ _ rfl rfl HRUN.out ?_)
      | (go_at_call 14; refine (HNEW.out _).mono ?_; rintro e w8 ⟨⟨kn, rfl⟩, h8⟩; have H8 := Lib.hid h8; have h82 : Below w7.heap.size w7 (w8.alloc (.cells #[.int .u8 105, .int .u8 110] 5 (2, 3))) := h8.alloc h8.size _; have H82 := Lib.hid h82; clear h8 h82; simp only [])
      | (go_at_call 23; refine (HR.out _ _ _ H82.out).mono ?_; rintro e w9 ⟨o', rfl, h2, h3⟩; obtain ⟨oa, oc, rfl, _⟩ := own_slice h2; have hcv : (convert 41 9 (.slice oa 1 oc)).run Tryz.prog (w9.alloc (.cells #[.int .i64 0, .slice oa 1 oc, .slice none 0 0] 43)) = .ok (.string (S ++ (⟨#[10]⟩ : ByteArray))) _ := conv_agg (own_below h2 ((Below.refl _ _).alloc (Nat.le_refl _) _)) hSW; have H3 := Lib.hid h3; clear h2 h3; simp only []))
    go_ret
    refine ⟨by simp, ?_⟩
    have hA := H82.out.trans (H3.out.mono H82.out.size)
    exact HB7.out.trans ((hA.alloc hA.size _).mono HB7.out.size)
set_option maxHeartbeats 8000000 in
theorem echo_true_row (v : Value) (l : List ByteArray) (W : World) (hT : Txt W v l) (hl2 : l.length ≤ 40) (h1 : 0 < l.length) (hne : ¬ l[0] = optN) :
    Calls Tryz.prog 6 #[v, .bool true] W fun e w' => e = .returned (.bool true) ∧ Below W.heap.size W w' := by
  have HA := Lib.hid (alive_any W)
  obtain ⟨a0, c0, rfl, _⟩ := hT.form
  have HT := Lib.hid hT
  have d2 : decide ((40 : Int) < (l.length : Int)) = false := decide_eq_false (by omega)
  clear hT
  go_enter Tryz.func6, Tryz.ntmps6
  go_wp2_with (go_at_call 22; refine HA.out.mono ?_; rintro e w5 ⟨rfl, h5⟩; have HB := Lib.hid h5; clear h5; simp only [])
  have HTX := Lib.hid (HT.out.below HB.out)
  go_loopw [6, 7] (fun x i wx => ∃ (k : Nat) (S : ByteArray), x = .string S ∧ i = .int .i64 k ∧ k ≤ l.length ∧ wx = w5 ∧ S.size ≤ 201 * k ∧ Hid (Ec l k S)) (fun _ i _ => l.length - (intOf i).toNat)
  case atStart => exact ⟨0, _, rfl, rfl, Nat.zero_le _, rfl, Nat.le_refl _, rfl⟩
  case round =>
    obtain ⟨k, S, rfl, rfl, hk, rfl, hS, HE⟩ := hrel
    by_cases hlt : k < l.length
    case neg =>
      have HKK : Hid (k = l.length) := (show k = l.length by omega)
      have hltd : decide ((k : Int) < (l.length : Int)) = false := decide_eq_false (by omega)
      obtain ⟨J, hJ⟩ : ∃ J, Lib.join (bsOf l) [32] = J := ⟨_, rfl⟩
      have hSJ : S.data.toList = J := by
        have h := HE.out
        unfold Ec at h
        rw [HKK.out, List.take_length] at h
        rw [h, hJ]
      have hSs : S.size ≤ 8100 := by omega
      have hJl : J.length = S.size := by rw [← hSJ, dl]
      obtain ⟨v1, w7, hrun, r1, r2⟩ := app_strs (World.ownsRow_nil wr wr.heap.size 9 1) HTX.out (by omega) (Nat.le_refl _)
      rw [Nat.zero_add, List.nil_append] at r1
      have hb7 : Below wr.heap.size wr w7 := ⟨r2.os, r2.tape, r2.output, r2.size, fun k hk => r2.block k hk (by simp [Value.ownBlock])⟩
      obtain ⟨a1, c1, rfl, hc1⟩ := own_slice r1
      have HWN := Lib.hid (show Wn wr w7 (.slice a1 l.length c1) l from ⟨r1, hb7⟩)
      have HRUN := Lib.hid hrun
      have HB7 := Lib.hid (HB.out.trans (hb7.mono HB.out.size))
      have HNEW := Lib.hid (fun w => new_some 1 1 w)
      have HT7 := Lib.hid (HTX.out.below hb7)
      have hz1 : ¬ (9223372036854775807 < S.size + 1) := by omega
      have kc := fun (w : World) (C : Array Value) (n c : Nat) => Lib.run_convert_bytes_const (P := Tryz.prog) w 41 5 C n c Tryz.underlying41 Tryz.underlying5
      clear hrun r1 r2 hb7 HE
      have HR : Hid (∀ (k : Option Addr) (z : Nat) (w8 : World), Below w7.heap.size w7 w8 → Calls Tryz.prog 23 #[.pointer k, .string ⟨#[47]⟩, .string ⟨#[101, 99, 104, 111]⟩, .slice a1 l.length c1, .slice (some ⟨z, 0, none⟩) 2 2] w8 (RunP (J ++ [10]) w8)) := fun k z w8 hb8 => by
        rw [← hJ]
        exact run_echo (.pointer k) ⟨#[47]⟩ _ _ _ w8 ⟨k, rfl⟩ ⟨_, _, _, rfl⟩ ⟨_, _, _, rfl⟩ fun t w9 hb hTl =>
          echo_plain _ t _ _ _ _ _ _ _ _ l w9 hTl ((HWN.out.txt.below hb8).below hb) (fun a c e => by injection e with _ _ e; omega) (by omega) (by rw [hJ]; omega) (by rw [List.head?_eq_getElem?, List.getElem?_eq_getElem h1]; exact fun e => hne (Option.some.inj e)) (by have := hb.size; omega)
      have hSW : (S ++ (⟨#[10]⟩ : ByteArray)).data.toList = J ++ [10] := by rw [ba_app, hSJ]
      have hlen : (J ++ [10]).length = J.length + 1 := by simp
      obtain ⟨bs, hbs⟩ : ∃ bs, J ++ [10] = bs := ⟨_, rfl⟩
      rw [hbs] at hSW hlen HR
      obtain ⟨T, hT2⟩ : ∃ T, S ++ (⟨#[10]⟩ : ByteArray) = T := ⟨_, rfl⟩
      have hSW2 := hSW
      rw [hT2] at hSW2
      obtain ⟨b, off, e0, hcl⟩ := Txt.lie HT7.out (k := 0) h1
      subst e0
      have hcx : w7.cell? ⟨b, off, none⟩ = some (.string l[0]) := hcl 0 h1
      have hhd : l.head? = some l[0] := by rw [List.head?_eq_getElem?, List.getElem?_eq_getElem h1]
      have dz : decide ((0 : Int) < (l.length : Int)) = true := decide_eq_true (by omega)
      have dzI : (0 : Int) < (l.length : Int) := by omega
      have g1 : (l[0].toList == [45, 110]) = false := opt_ne hne
      generalize l[0] = x at hcx g1
      clear hJ hSJ hbs hlen hJl
      go_wp2_with (first
        | (at_builtin; refine wpList_run_append _ rfl _ _ 22 22 rfl _ _ rfl rfl HRUN.out ?_)
        | (go_at_call 14; refine (HNEW.out _).mono ?_; rintro e w8 ⟨⟨kn, rfl⟩, h8⟩; have H8 := Lib.hid h8; have h82 : Below w7.heap.size w7 (w8.alloc (.cells #[.int .u8 105, .int .u8 110] 5 (2, 3))) := h8.alloc h8.size _; have H82 := Lib.hid h82; clear h8 h82; simp only [])
        | (go_at_call 23; refine (HR.out _ _ _ H82.out).mono ?_; rintro e w9 ⟨o', rfl, h2, h3⟩; obtain ⟨oa, oc, rfl, _⟩ := own_slice h2; have hcv : (convert 41 9 (.slice oa bs.length oc)).run Tryz.prog (w9.alloc (.cells #[.int .i64 0, .slice oa bs.length oc, .slice none 0 0] 43)) = .ok (.string (S ++ (⟨#[10]⟩ : ByteArray))) _ := conv_agg (own_below h2 ((Below.refl _ _).alloc (Nat.le_refl _) _)) hSW; have H3 := Lib.hid h3; clear h2 h3; simp only []))
      go_ret
      refine ⟨by simp, ?_⟩
      have hA := H82.out.trans (H3.out.mono H82.out.size)
      exact HB7.out.trans ((hA.alloc hA.size _).mono HB7.out.size)
    case pos =>
      have hltd : decide ((k : Int) < (l.length : Int)) = true := decide_eq_true (by omega)
      have hltI : (k : Int) < (l.length : Int) := by omega
      have hk0 : (0 : Int) ≤ (k : Int) := by omega
      have hb64 : IntKind.i64.wrap ((k : Int) + 1) = (k : Int) + 1 := IntWalk.i64_in _ (by omega)
      obtain ⟨b, off, rfl, hcl⟩ := Txt.lie HTX.out hlt
      have hcx := hcl k hlt
      have hadd := addn b off k
      have HNX : Hid (∀ S' : ByteArray, (S'.data.toList = if k = 0 then l[k].data.toList else S.data.toList ++ [32] ++ l[k].data.toList) → Ec l (k + 1) S') := fun S' h => HE.out.next hlt h
      obtain ⟨x, hx⟩ : ∃ x, l[k] = x := ⟨_, rfl⟩
      rw [hx] at hcx HNX
      clear hcl hx
      by_cases hx2 : 200 < x.size
      · have d6 : decide ((200 : Int) < (x.size : Int)) = true := decide_eq_true (by omega)
        go_wp2_with fail
        go_ret
        exact ⟨rfl, HB.out⟩
      have d6 : decide ((200 : Int) < (x.size : Int)) = false := decide_eq_false (by omega)
      by_cases hkz : k = 0
      · subst hkz
        have hcx0 : wr.cell? ⟨b, off, none⟩ = some (.string x) := hcx
        have hz1 : ¬ (9223372036854775807 < S.size + x.size) := by omega
        have hSe : S.data.toList = [] := List.length_eq_zero_iff.1 (by rw [dl]; omega)
        have HN : Hid (Ec l (0 + 1) (S ++ x)) := HNX.out _ (by rw [if_pos rfl, ba_app, hSe]; rfl)
        have hs1 : (S ++ x).size ≤ 201 * (0 + 1) := by rw [ByteArray.size_append]; omega
        clear hSe hcx
        go_wp2_with fail
        go_roundw
        case measure => simp [intOf]; omega
        case rel => exact ⟨0 + 1, _, rfl, by go_num, by omega, by simp, hs1, HN.out⟩
      · have hkd : decide ((0 : Int) < (k : Int)) = true := decide_eq_true (by omega)
        have hz1 : ¬ (9223372036854775807 < S.size + 1) := by omega
        have hz2 : ¬ (9223372036854775807 < S.size + 1 + x.size) := by omega
        have HN : Hid (Ec l (k + 1) (S ++ ⟨#[32]⟩ ++ x)) := HNX.out _ (by rw [if_neg hkz, ba_app, ba_app])
        have hs1 : (S ++ (⟨#[32]⟩ : ByteArray) ++ x).size ≤ 201 * (k + 1) := by rw [ByteArray.size_append, ByteArray.size_append]; have : (⟨#[32]⟩ : ByteArray).size = 1 := rfl; omega
        go_wp2_with fail
        go_roundw
        case measure => simp [intOf]; omega
        case rel => exact ⟨k + 1, _, rfl, by go_num, by omega, by simp, hs1, HN.out⟩
set_option maxHeartbeats 8000000 in
theorem echo_true_opt (v : Value) (l : List ByteArray) (W : World) (hT : Txt W v l) (hl2 : l.length ≤ 40) (h1 : 0 < l.length) (hy : l[0] = optN) :
    Calls Tryz.prog 6 #[v, .bool true] W fun e w' => e = .returned (.bool true) ∧ Below W.heap.size W w' := by
  have HA := Lib.hid (alive_any W)
  obtain ⟨a0, c0, rfl, _⟩ := hT.form
  have HT := Lib.hid hT
  have d2 : decide ((40 : Int) < (l.length : Int)) = false := decide_eq_false (by omega)
  clear hT
  go_enter Tryz.func6, Tryz.ntmps6
  go_wp2_with (go_at_call 22; refine HA.out.mono ?_; rintro e w5 ⟨rfl, h5⟩; have HB := Lib.hid h5; clear h5; simp only [])
  have HTX := Lib.hid (HT.out.below HB.out)
  go_loopw [6, 7] (fun x i wx => ∃ (k : Nat) (S : ByteArray), x = .string S ∧ i = .int .i64 k ∧ k ≤ l.length ∧ wx = w5 ∧ S.size ≤ 201 * k ∧ Hid (Ec l k S)) (fun _ i _ => l.length - (intOf i).toNat)
  case atStart => exact ⟨0, _, rfl, rfl, Nat.zero_le _, rfl, Nat.le_refl _, rfl⟩
  case round =>
    obtain ⟨k, S, rfl, rfl, hk, rfl, hS, HE⟩ := hrel
    by_cases hlt : k < l.length
    case neg =>
      have HKK : Hid (k = l.length) := (show k = l.length by omega)
      have hltd : decide ((k : Int) < (l.length : Int)) = false := decide_eq_false (by omega)
      obtain ⟨J, hJ⟩ : ∃ J, Lib.join (bsOf l) [32] = J := ⟨_, rfl⟩
      have hSJ : S.data.toList = J := by
        have h := HE.out
        unfold Ec at h
        rw [HKK.out, List.take_length] at h
        rw [h, hJ]
      have hSs : S.size ≤ 8100 := by omega
      have hJl : J.length = S.size := by rw [← hSJ, dl]
      obtain ⟨v1, w7, hrun, r1, r2⟩ := app_strs (World.ownsRow_nil wr wr.heap.size 9 1) HTX.out (by omega) (Nat.le_refl _)
      rw [Nat.zero_add, List.nil_append] at r1
      have hb7 : Below wr.heap.size wr w7 := ⟨r2.os, r2.tape, r2.output, r2.size, fun k hk => r2.block k hk (by simp [Value.ownBlock])⟩
      obtain ⟨a1, c1, rfl, hc1⟩ := own_slice r1
      have HWN := Lib.hid (show Wn wr w7 (.slice a1 l.length c1) l from ⟨r1, hb7⟩)
      have HRUN := Lib.hid hrun
      have HB7 := Lib.hid (HB.out.trans (hb7.mono HB.out.size))
      have HNEW := Lib.hid (fun w => new_some 1 1 w)
      have HT7 := Lib.hid (HTX.out.below hb7)
      have hz1 : ¬ (9223372036854775807 < S.size + 1) := by omega
      have kc := fun (w : World) (C : Array Value) (n c : Nat) => Lib.run_convert_bytes_const (P := Tryz.prog) w 41 5 C n c Tryz.underlying41 Tryz.underlying5
      clear hrun r1 r2 hb7 HE
      obtain ⟨b, off, e0, hcl⟩ := Txt.lie HT7.out (k := 0) h1
      subst e0
      have hcx : w7.cell? ⟨b, off, none⟩ = some (.string l[0]) := hcl 0 h1
      have hhd : l.head? = some l[0] := by rw [List.head?_eq_getElem?, List.getElem?_eq_getElem h1]
      have dz : decide ((0 : Int) < (l.length : Int)) = true := decide_eq_true (by omega)
      have dzI : (0 : Int) < (l.length : Int) := by omega
      have g1 : (l[0].toList == [45, 110]) = true := by rw [hy]; exact opt_yes
      generalize l[0] = x at hcx g1
      clear hJ hSJ
      go_wp2_with (at_builtin; refine wpList_run_append _ rfl _ _ 22 22 rfl _ _ rfl rfl HRUN.out ?_)
      go_ret
      exact ⟨rfl, HB7.out⟩
    case pos =>
      have hltd : decide ((k : Int) < (l.length : Int)) = true := decide_eq_true (by omega)
      have hltI : (k : Int) < (l.length : Int) := by omega
      have hk0 : (0 : Int) ≤ (k : Int) := by omega
      have hb64 : IntKind.i64.wrap ((k : Int) + 1) = (k : Int) + 1 := IntWalk.i64_in _ (by omega)
      obtain ⟨b, off, rfl, hcl⟩ := Txt.lie HTX.out hlt
      have hcx := hcl k hlt
      have hadd := addn b off k
      have HNX : Hid (∀ S' : ByteArray, (S'.data.toList = if k = 0 then l[k].data.toList else S.data.toList ++ [32] ++ l[k].data.toList) → Ec l (k + 1) S') := fun S' h => HE.out.next hlt h
      obtain ⟨x, hx⟩ : ∃ x, l[k] = x := ⟨_, rfl⟩
      rw [hx] at hcx HNX
      clear hcl hx
      by_cases hx2 : 200 < x.size
      · have d6 : decide ((200 : Int) < (x.size : Int)) = true := decide_eq_true (by omega)
        go_wp2_with fail
        go_ret
        exact ⟨rfl, HB.out⟩
      have d6 : decide ((200 : Int) < (x.size : Int)) = false := decide_eq_false (by omega)
      by_cases hkz : k = 0
      · subst hkz
        have hcx0 : wr.cell? ⟨b, off, none⟩ = some (.string x) := hcx
        have hz1 : ¬ (9223372036854775807 < S.size + x.size) := by omega
        have hSe : S.data.toList = [] := List.length_eq_zero_iff.1 (by rw [dl]; omega)
        have HN : Hid (Ec l (0 + 1) (S ++ x)) := HNX.out _ (by rw [if_pos rfl, ba_app, hSe]; rfl)
        have hs1 : (S ++ x).size ≤ 201 * (0 + 1) := by rw [ByteArray.size_append]; omega
        clear hSe hcx
        go_wp2_with fail
        go_roundw
        case measure => simp [intOf]; omega
        case rel => exact ⟨0 + 1, _, rfl, by go_num, by omega, by simp, hs1, HN.out⟩
      · have hkd : decide ((0 : Int) < (k : Int)) = true := decide_eq_true (by omega)
        have hz1 : ¬ (9223372036854775807 < S.size + 1) := by omega
        have hz2 : ¬ (9223372036854775807 < S.size + 1 + x.size) := by omega
        have HN : Hid (Ec l (k + 1) (S ++ ⟨#[32]⟩ ++ x)) := HNX.out _ (by rw [if_neg hkz, ba_app, ba_app])
        have hs1 : (S ++ (⟨#[32]⟩ : ByteArray) ++ x).size ≤ 201 * (k + 1) := by rw [ByteArray.size_append, ByteArray.size_append]; have : (⟨#[32]⟩ : ByteArray).size = 1 := rfl; omega
        go_wp2_with fail
        go_roundw
        case measure => simp [intOf]; omega
        case rel => exact ⟨k + 1, _, rfl, by go_num, by omega, by simp, hs1, HN.out⟩
set_option maxHeartbeats 8000000 in
theorem echo_false (v : Value) (l : List ByteArray) (W : World) (hT : Txt W v l) (hl2 : l.length ≤ 40) :
    Calls Tryz.prog 6 #[v, .bool false] W fun e w' => e = .returned (.bool true) ∧ Below W.heap.size W w' := by
  have HA := Lib.hid (alive_any W)
  obtain ⟨a0, c0, rfl, _⟩ := hT.form
  have HT := Lib.hid hT
  have d2 : decide ((40 : Int) < (l.length : Int)) = false := decide_eq_false (by omega)
  clear hT
  go_enter Tryz.func6, Tryz.ntmps6
  go_wp2_with (go_at_call 22; refine HA.out.mono ?_; rintro e w5 ⟨rfl, h5⟩; have HB := Lib.hid h5; clear h5; simp only [])
  have HTX := Lib.hid (HT.out.below HB.out)
  go_loopw [6, 7] (fun x i wx => ∃ (k : Nat) (S : ByteArray), x = .string S ∧ i = .int .i64 k ∧ k ≤ l.length ∧ wx = w5 ∧ S.size ≤ 201 * k ∧ Hid (Ec l k S)) (fun _ i _ => l.length - (intOf i).toNat)
  case atStart => exact ⟨0, _, rfl, rfl, Nat.zero_le _, rfl, Nat.le_refl _, rfl⟩
  case round =>
    obtain ⟨k, S, rfl, rfl, hk, rfl, hS, HE⟩ := hrel
    by_cases hlt : k < l.length
    case neg =>
      have HKK : Hid (k = l.length) := (show k = l.length by omega)
      have hltd : decide ((k : Int) < (l.length : Int)) = false := decide_eq_false (by omega)
      obtain ⟨J, hJ⟩ : ∃ J, Lib.join (bsOf l) [32] = J := ⟨_, rfl⟩
      have hSJ : S.data.toList = J := by
        have h := HE.out
        unfold Ec at h
        rw [HKK.out, List.take_length] at h
        rw [h, hJ]
      have hSs : S.size ≤ 8100 := by omega
      have hJl : J.length = S.size := by rw [← hSJ, dl]
      obtain ⟨v1, w7, hrun, r1, r2⟩ := app_strs (World.ownsRow_nil wr wr.heap.size 9 1) HTX.out (by omega) (Nat.le_refl _)
      rw [Nat.zero_add, List.nil_append] at r1
      have hb7 : Below wr.heap.size wr w7 := ⟨r2.os, r2.tape, r2.output, r2.size, fun k hk => r2.block k hk (by simp [Value.ownBlock])⟩
      obtain ⟨a1, c1, rfl, hc1⟩ := own_slice r1
      have HWN := Lib.hid (show Wn wr w7 (.slice a1 l.length c1) l from ⟨r1, hb7⟩)
      have HRUN := Lib.hid hrun
      have HB7 := Lib.hid (HB.out.trans (hb7.mono HB.out.size))
      have HNEW := Lib.hid (fun w => new_some 1 1 w)
      have HT7 := Lib.hid (HTX.out.below hb7)
      have hz1 : ¬ (9223372036854775807 < S.size + 1) := by omega
      have kc := fun (w : World) (C : Array Value) (n c : Nat) => Lib.run_convert_bytes_const (P := Tryz.prog) w 41 5 C n c Tryz.underlying41 Tryz.underlying5
      clear hrun r1 r2 hb7 HE
      obtain ⟨W8, hW8⟩ : ∃ W8, w7.alloc (.cells #[.string optN] 9) = W8 := ⟨_, rfl⟩
      have hb8 : Below w7.heap.size w7 W8 := by rw [← hW8]; exact (Below.refl _ _).alloc (Nat.le_refl _) _
      have hlit : W8.ownsRow w7.heap.size 9 1 (.slice (some ⟨w7.heap.size, 0, none⟩) 1 1) 1 [.string optN] := by
        rw [← hW8]; exact World.ownsRow_lit w7 #[.string optN] 1 (Nat.le_refl _) (by decide) rfl
      obtain ⟨v2, w9, hrun2, s1, s2⟩ := app_strs hlit (HWN.out.txt.below hb8) (by omega) hb8.size
      have hb9 : Below w7.heap.size w7 w9 := hb8.trans (Only.below (S := fun i => i = w7.heap.size) (Only.of_grown s2 (fun k hk => by simpa [Value.ownBlock] using hk.symm)) (fun k hk => by omega) hb8.size)
      have hwn9 : Wn w7 w9 v2 (optN :: l) := ⟨by rw [List.length_cons, Nat.add_comm]; exact s1, hb9⟩
      rw [show 1 + l.length = (optN :: l).length by rw [List.length_cons, Nat.add_comm]] at s1
      obtain ⟨a2, c2, rfl, hc2⟩ := own_slice s1
      have HR : Hid (∀ (k : Option Addr) (z : Nat) (w8 : World), Below w9.heap.size w9 w8 → Calls Tryz.prog 23 #[.pointer k, .string ⟨#[47]⟩, .string ⟨#[101, 99, 104, 111]⟩, .slice a2 (optN :: l).length c2, .slice (some ⟨z, 0, none⟩) 2 2] w8 (RunP J w8)) := fun k z w8 hb8 => by
        rw [← hJ]
        exact run_echo (.pointer k) ⟨#[47]⟩ _ _ _ w8 ⟨k, rfl⟩ ⟨_, _, _, rfl⟩ ⟨_, _, _, rfl⟩ fun t w9 hb hTl =>
          echo_bare _ t _ _ _ _ _ _ _ _ l w9 hTl ((hwn9.txt.below hb8).below hb) (fun a c e => by injection e with _ _ e; rw [List.length_cons] at hc2; omega) (by omega) (by rw [hJ]; omega) (by have := hb.size; omega)
      obtain ⟨n2, hn2⟩ : ∃ n2, (optN :: l).length = n2 := ⟨_, rfl⟩
      rw [hn2] at HR hrun2
      have HRUN2 := Lib.hid hrun2
      have HW8 := Lib.hid hW8
      have HB9 := Lib.hid (HB7.out.trans (hb9.mono HB7.out.size))
      unfold optN at HW8
      clear hJl hJ hW8 hb8 hlit hrun2 s1 s2 hb9 hwn9 hn2 hc2
      go_wp2_with (first
        | (at_builtin; rw [HW8.out]; refine wpList_run_append _ rfl _ _ 22 22 rfl _ _ rfl rfl HRUN2.out ?_)
        | (at_builtin; refine wpList_run_append _ rfl _ _ 22 22 rfl _ _ rfl rfl HRUN.out ?_)
        | (go_at_call 14; refine (HNEW.out _).mono ?_; rintro e w8 ⟨⟨kn, rfl⟩, h8⟩; have H8 := Lib.hid h8; have h82 : Below w9.heap.size w9 (w8.alloc (.cells #[.int .u8 105, .int .u8 110] 5 (2, 3))) := h8.alloc h8.size _; have H82 := Lib.hid h82; clear h8 h82; simp only [])
        | (go_at_call 23; refine (HR.out _ _ _ H82.out).mono ?_; rintro e w10 ⟨o', rfl, h2, h3⟩; obtain ⟨oa, oc, rfl, _⟩ := own_slice h2; have hcv : (convert 41 9 (.slice oa J.length oc)).run Tryz.prog (w10.alloc (.cells #[.int .i64 0, .slice oa J.length oc, .slice none 0 0] 43)) = .ok (.string S) _ := conv_agg (own_below h2 ((Below.refl _ _).alloc (Nat.le_refl _) _)) hSJ; have H3 := Lib.hid h3; clear h2 h3; simp only []))
      go_ret
      refine ⟨by simp, ?_⟩
      have hA := H82.out.trans (H3.out.mono H82.out.size)
      exact HB9.out.trans ((hA.alloc hA.size _).mono HB9.out.size)
    case pos =>
      have hltd : decide ((k : Int) < (l.length : Int)) = true := decide_eq_true (by omega)
      have hltI : (k : Int) < (l.length : Int) := by omega
      have hk0 : (0 : Int) ≤ (k : Int) := by omega
      have hb64 : IntKind.i64.wrap ((k : Int) + 1) = (k : Int) + 1 := IntWalk.i64_in _ (by omega)
      obtain ⟨b, off, rfl, hcl⟩ := Txt.lie HTX.out hlt
      have hcx := hcl k hlt
      have hadd := addn b off k
      have HNX : Hid (∀ S' : ByteArray, (S'.data.toList = if k = 0 then l[k].data.toList else S.data.toList ++ [32] ++ l[k].data.toList) → Ec l (k + 1) S') := fun S' h => HE.out.next hlt h
      obtain ⟨x, hx⟩ : ∃ x, l[k] = x := ⟨_, rfl⟩
      rw [hx] at hcx HNX
      clear hcl hx
      by_cases hx2 : 200 < x.size
      · have d6 : decide ((200 : Int) < (x.size : Int)) = true := decide_eq_true (by omega)
        go_wp2_with fail
        go_ret
        exact ⟨rfl, HB.out⟩
      have d6 : decide ((200 : Int) < (x.size : Int)) = false := decide_eq_false (by omega)
      by_cases hkz : k = 0
      · subst hkz
        have hcx0 : wr.cell? ⟨b, off, none⟩ = some (.string x) := hcx
        have hz1 : ¬ (9223372036854775807 < S.size + x.size) := by omega
        have hSe : S.data.toList = [] := List.length_eq_zero_iff.1 (by rw [dl]; omega)
        have HN : Hid (Ec l (0 + 1) (S ++ x)) := HNX.out _ (by rw [if_pos rfl, ba_app, hSe]; rfl)
        have hs1 : (S ++ x).size ≤ 201 * (0 + 1) := by rw [ByteArray.size_append]; omega
        clear hSe hcx
        go_wp2_with fail
        go_roundw
        case measure => simp [intOf]; omega
        case rel => exact ⟨0 + 1, _, rfl, by go_num, by omega, by simp, hs1, HN.out⟩
      · have hkd : decide ((0 : Int) < (k : Int)) = true := decide_eq_true (by omega)
        have hz1 : ¬ (9223372036854775807 < S.size + 1) := by omega
        have hz2 : ¬ (9223372036854775807 < S.size + 1 + x.size) := by omega
        have HN : Hid (Ec l (k + 1) (S ++ ⟨#[32]⟩ ++ x)) := HNX.out _ (by rw [if_neg hkz, ba_app, ba_app])
        have hs1 : (S ++ (⟨#[32]⟩ : ByteArray) ++ x).size ≤ 201 * (k + 1) := by rw [ByteArray.size_append, ByteArray.size_append]; have : (⟨#[32]⟩ : ByteArray).size = 1 := rfl; omega
        go_wp2_with fail
        go_roundw
        case measure => simp [intOf]; omega
        case rel => exact ⟨k + 1, _, rfl, by go_num, by omega, by simp, hs1, HN.out⟩
set_option maxHeartbeats 8000000 in
theorem toolsecho_walk (v : Value) (l : List ByteArray) (line : Bool) (W : World) (hT : Txt W v l) (hl : l.length ≤ maxLen) :
    Calls Tryz.prog 6 #[v, .bool line] W fun e w' => e = .returned (.bool true) ∧ Below W.heap.size W w' := by
  by_cases h40 : 40 < l.length
  · have HA := Lib.hid (alive_any W)
    obtain ⟨a0, c0, rfl, _⟩ := hT.form
    have d2 : decide ((40 : Int) < (l.length : Int)) = true := decide_eq_true (by omega)
    clear hT hl h40
    go_enter Tryz.func6, Tryz.ntmps6
    go_wp2_with (go_at_call 22; refine HA.out.mono ?_; rintro e w5 ⟨rfl, h5⟩; have HB := Lib.hid h5; clear h5; simp only [])
    go_ret
    exact ⟨rfl, HB.out⟩
  cases line
  · exact echo_false v l W hT (by omega)
  · by_cases h0 : l.length = 0
    · obtain rfl := List.eq_nil_of_length_eq_zero h0
      obtain ⟨a0, c0, rfl, _⟩ := hT.form
      exact echo_true_nil a0 c0 W hT
    · by_cases hy : l[0]'(by omega) = optN
      · exact echo_true_opt v l W hT (by omega) (by omega) hy
      · exact echo_true_row v l W hT (by omega) (by omega) hy
end Go.Proofs.YtcmjpkfinbakkaaGreatDoor
