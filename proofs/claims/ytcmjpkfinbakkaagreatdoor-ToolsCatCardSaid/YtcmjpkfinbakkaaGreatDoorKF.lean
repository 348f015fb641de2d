import Derived.Test.YtcmjpkfinbakkaaGreatDoorWVM
import Derived.Lib.SmallJoins
import Derived.Test.YtcmjpkfinbakkaaGreatDoorWVL
import Derived.OpenShut
import Derived.Test.YtcmjpkfinbakkaaGreatDoorWH
import Derived.Test.YtcmjpkfinbakkaaGreatDoorWN
import Derived.Lib.SlBytesConst
import Derived.Test.YtcmjpkfinbakkaaGreatDoorC
namespace Go.Proofs.YtcmjpkfinbakkaaGreatDoor
open Go.RowKit Go.ChangeShapes Go.WideShapes
set_option linter.unusedVariables false
set_option maxRecDepth 100000

def nCat : ByteArray := ⟨#[99, 97, 116]⟩
def dash : ByteArray := ⟨#[45]⟩
theorem dash_ne {x : ByteArray} (h : ¬ x = dash) : (x.toList == [45]) = false := by
  rw [beq_eq_false_iff_ne]
  intro e
  refine h (ByteArray.ext (Array.ext' ?_))
  rw [← Lib.toList_data, e]; rfl
theorem dash_yes : ((dash : ByteArray).toList == [45]) = true := by rw [Lib.toList_data]; rfl
theorem log_len (name x : ByteArray) (k : Nat) (hn : name.size ≤ 1000) (hx : x.size ≤ 1000) (hk : k < 100) : (logB name x k).data.toList.length ≤ 3000 := by
  have hdk := dec_short k hk
  have hsz : (logB name x k).size = name.size + 2 + x.size + 8 + (Lib.decDigits k).length + 1 := by
    unfold logB
    simp only [ByteArray.size_append]
    rfl
  rw [dl]; omega
theorem catS_len (name : ByteArray) (L : List ByteArray) (R : Nat → Bz × Nat) (hn : name.size ≤ 1000) : ∀ k, (∀ j < k, (R j).1.length ≤ 2000 ∧ (R j).2 < 100 ∧ (L.getD j ByteArray.empty).size ≤ 1000) → (catS name L R k).2.1.length ≤ 2000 * k ∧ (catS name L R k).2.2.length ≤ 3000 * k
  | 0, _ => ⟨Nat.le_refl _, Nat.le_refl _⟩
  | k + 1, h => by
    obtain ⟨h1, h2⟩ := catS_len name L R hn k (fun j hj => h j (by omega))
    obtain ⟨h3, h4, h5⟩ := h k (by omega)
    have h6 := log_len name (L.getD k ByteArray.empty) (R k).2 hn h5 h4
    unfold catS
    simp only
    refine ⟨by rw [List.length_append]; omega, ?_⟩
    split
    · omega
    · rw [List.length_append]; omega
set_option pp.maxSteps 4000 in
set_option maxHeartbeats 8000000 in
theorem cat_any (B t : Nat) (F : Value) (cwd : ByteArray) (inn : Value) (inb : Bz) (v : Value) (L : List ByteArray) (R : Nat → Bz × Nat) (W : World) (h : Tool W B t F cwd nCat inn 0 (.slice none 0 0) [] (.slice none 0 0) []) (hB : B ≤ W.heap.size)
    (hL0 : 0 < L.length) (hL : L.length ≤ 20) (HX : Hid (∀ wx, Below B W wx → Txt wx v L)) (HIN : Hid (∀ wx, Below B W wx → InB wx inn inb))
    (hdash : Hid (∀ k (hk : k < L.length), L[k] = dash → R k = (inb, 0)))
    (HR : Hid (∀ k (hk : k < L.length), ¬ L[k] = dash → ∀ wx st o s l m, Tool wx B t F cwd nCat inn st o s l m → Below B W wx → Calls Tryz.prog 103 #[.pointer (some ⟨t, 0, none⟩), .string L[k]] wx fun e w' => ∃ v', e = .returned (.tuple #[v', .int .i64 ((R k).2 : Nat)]) ∧ w'.ownsRow wx.heap.size 5 1 v' (R k).1.length (u8s (R k).1) ∧ Below wx.heap.size wx w'))
    (hsz : Hid (∀ k (hk : k < L.length), (R k).1.length ≤ 2000 ∧ (R k).2 < 100 ∧ L[k].size ≤ 1000)) :
    Calls Tryz.prog 54 #[.pointer (some ⟨t, 0, none⟩), v] W fun e w' => e = .returned (.tuple #[]) ∧ (∃ o l, Tool w' B t F cwd nCat inn (catS nCat L R L.length).1 o (catS nCat L R L.length).2.1 l (catS nCat L R L.length).2.2) ∧ Below B W w' := by
  obtain ⟨va, vc, rfl, _⟩ := (HX.out W (Below.refl B W)).form
  obtain ⟨ia, i_n, ic, hin⟩ : ∃ a n c, inn = .slice a n c := by
    rcases HIN.out W (Below.refl B W) with ⟨e, _⟩ | ⟨a, c, e, _⟩
    · exact ⟨_, _, _, e⟩
    · exact ⟨_, _, _, e⟩
  have HT0 := Lib.hid h
  have d0 : ((L.length : Int) == 0) = false := by rw [beq_eq_false_iff_ne]; omega
  have dn : ¬ ((L.length : Int) = 0) := by omega
  have hB0 : Hid (B ≤ W.heap.size) := hB
  clear h hB
  go_enter Tryz.func54, Tryz.ntmps54
  go_wp2_with fail
  go_loopw [19] (fun i wx => ∃ (k : Nat), i = .int .i64 k ∧ k ≤ L.length ∧ Hid (Below B W wx) ∧ Hid (∃ o l, Tool wx B t F cwd nCat inn (catS nCat L R k).1 o (catS nCat L R k).2.1 l (catS nCat L R k).2.2)) (fun i _ => L.length - (intOf i).toNat)
  case atStart => exact ⟨0, rfl, Nat.zero_le _, Below.refl B W, ⟨_, _, HT0.out⟩⟩
  case round =>
    obtain ⟨k, rfl, hk, HB, HK⟩ := hrel
    by_cases hlt : k < L.length
    case neg =>
      have hkk : k = L.length := by omega
      have HKK : Hid (∃ o l, Tool wr B t F cwd nCat inn (catS nCat L R L.length).1 o (catS nCat L R L.length).2.1 l (catS nCat L R L.length).2.2) := by rw [← hkk]; exact HK.out
      have hltd : decide ((k : Int) < (L.length : Int)) = false := decide_eq_false (by omega)
      clear hkk HK
      go_wp2_with fail
      go_end0
      exact ⟨rfl, HKK.out, HB.out⟩
    case pos =>
      have hltd : decide ((k : Int) < (L.length : Int)) = true := decide_eq_true (by omega)
      have hltI : (k : Int) < (L.length : Int) := by omega
      have hk0 : (0 : Int) ≤ (k : Int) := by omega
      have hb64 : IntKind.i64.wrap ((k : Int) + 1) = (k : Int) + 1 := IntWalk.i64_in _ (by omega)
      obtain ⟨b, off, rfl, hcl⟩ := Txt.lie (HX.out wr HB.out) hlt
      have hcx := hcl k hlt
      have hadd := addn b off k
      obtain ⟨o, l, hT⟩ := HK.out
      have hBr : B ≤ wr.heap.size := Nat.le_trans hB0.out (by have := HB.out.size; omega)
      have hlen := catS_len nCat L R (by decide) k (fun j hj => by
        have := hsz.out j (by omega)
        rw [List.getD_eq_getElem?_getD, List.getElem?_eq_getElem (by omega)]
        exact this)
      have hsk := hsz.out k hlt
      have hnext : catS nCat L R (k + 1) = (if (R k).2 = 0 then (catS nCat L R k).1 else 1, (catS nCat L R k).2.1 ++ (R k).1, if (R k).2 = 0 then (catS nCat L R k).2.2 else (catS nCat L R k).2.2 ++ (logB nCat L[k] (R k).2).data.toList) := by
        show (if (R k).2 = 0 then _ else _, _, _) = _
        rw [List.getD_eq_getElem?_getD, List.getElem?_eq_getElem hlt]; rfl
      have hHR := HR.out k hlt
      have hda := hdash.out k hlt
      generalize catS nCat L R k = cs at hT hlen hnext
      obtain ⟨st, s, m⟩ := cs
      simp only at hT hlen hnext
      have p3 : wr.cell? ⟨t, 3, none⟩ = some inn := cell_of hT.blk 3
      rw [hin] at p3
      generalize hRk : R k = rk at hsk hnext hHR hda
      obtain ⟨d, er⟩ := rk
      simp only at hsk hnext hHR
      generalize L[k] = x at hcx hsk hnext hHR hda
      have HN := Lib.hid hnext
      by_cases hx : x = dash
      · have hd2 := hda hx
        injection hd2 with e1 e2
        subst e2
        have g1 : (x.toList == [45]) = true := by rw [hx]; exact dash_yes
        have HW := Lib.hid (write_in B t F cwd nCat inn st o s l m inb inn wr hT (HIN.out wr HB.out) (by rw [← e1]; omega) hBr)
        rw [hin] at HW
        clear hHR hda hx hnext hT hlen hsk hcl
        go_wp2_with (go_at_call 102; refine HW.out.mono ?_; rintro e w5 ⟨rfl, ⟨o5, h5⟩, hb5⟩; have H5 := Lib.hid h5; have HB5 := Lib.hid (HB.out.trans hb5); clear h5 hb5; simp only [])
        go_roundw
        case measure => simp [intOf]; omega
        case rel => exact ⟨k + 1, by go_num, by omega, HB5.out, ⟨o5, l, by rw [HN.out, e1, if_pos rfl, if_pos rfl, hin]; exact H5.out⟩⟩
      · have g1 := dash_ne hx
        have HRD := Lib.hid (hHR hx wr st o s l m hT HB.out)
        have HWR : Hid (∀ w1 v', Below wr.heap.size wr w1 → InB w1 v' d → Calls Tryz.prog 102 #[.pointer (some ⟨t, 0, none⟩), v'] w1 fun e w' => e = .returned (.tuple #[]) ∧ (∃ o', Tool w' B t F cwd nCat inn st o' (s ++ d) l m) ∧ Below B w1 w') := fun w1 v' hb hv =>
          write_in B t F cwd nCat inn st o s l m d v' w1 (hT.below hb) hv (by omega) (Nat.le_trans hBr hb.size)
        by_cases her : er = 0
        · subst her
          have HC := Lib.hid (fun w => complain_none t x w)
          clear hHR hda hx hnext hT hlen hsk hcl
          go_wp2_with (first
            | (go_at_call 103; refine HRD.out.mono ?_; rintro e w5 ⟨v', rfl, r5, h5⟩; obtain ⟨oa, oc, rfl, _⟩ := own_slice r5; have HV := Lib.hid (HWR.out w5 _ h5 (in_own r5)); have H5 := Lib.hid h5; clear r5 h5; simp only [])
            | (go_at_call 102; refine HV.out.mono ?_; rintro e w6 ⟨rfl, ⟨o6, h6⟩, hb6⟩; have H6 := Lib.hid h6; have HB6 := Lib.hid ((HB.out.trans (H5.out.mono hBr)).trans hb6); clear h6 hb6; simp only [])
            | (go_at_call 99; refine (HC.out _).mono ?_; rintro e w7 ⟨rfl, h7⟩; obtain rfl := h7.symm; simp only []))
          go_roundw
          case measure => simp [intOf]; omega
          case rel => exact ⟨k + 1, by go_num, by omega, HB6.out, ⟨o6, l, by rw [HN.out, if_pos rfl, if_pos rfl]; exact H6.out⟩⟩
        · have HC : Hid (∀ w1 o', B ≤ w1.heap.size → Tool w1 B t F cwd nCat inn st o' (s ++ d) l m → Calls Tryz.prog 99 #[.pointer (some ⟨t, 0, none⟩), .string x, .int .i64 (er : Int)] w1 fun e w' => e = .returned (.tuple #[]) ∧ (∃ l', Tool w' B t F cwd nCat inn 1 o' (s ++ d) l' (m ++ (logB nCat x er).data.toList)) ∧ Below B w1 w') := fun w1 o' hb ht =>
            complain_one B t F cwd nCat inn st o' (s ++ d) l m x er w1 ht (by decide) (by omega) (by omega) (by omega) (by omega) hb
          have HER : Hid (er ≠ 0) := her
          clear hHR hda hx hnext hT hlen hsk hcl her
          go_wp2_with (first
            | (go_at_call 103; refine HRD.out.mono ?_; rintro e w5 ⟨v', rfl, r5, h5⟩; obtain ⟨oa, oc, rfl, _⟩ := own_slice r5; have HV := Lib.hid (HWR.out w5 _ h5 (in_own r5)); have H5 := Lib.hid h5; clear r5 h5; simp only [])
            | (go_at_call 102; refine HV.out.mono ?_; rintro e w6 ⟨rfl, ⟨o6, h6⟩, hb6⟩; have HB6 := Lib.hid ((HB.out.trans (H5.out.mono hBr)).trans hb6); have HCC := Lib.hid (HC.out w6 o6 (Nat.le_trans hBr (Nat.le_trans H5.out.size hb6.size)) h6); clear h6 hb6; simp only [])
            | (go_at_call 99; refine HCC.out.mono ?_; rintro e w7 ⟨rfl, ⟨l7, h7⟩, hb7⟩; have H7 := Lib.hid h7; have HB7 := Lib.hid (HB6.out.trans hb7); clear h7 hb7; simp only []))
          go_roundw
          case measure => simp [intOf]; omega
          case rel => exact ⟨k + 1, by go_num, by omega, HB7.out, ⟨_, l7, by rw [HN.out, if_neg HER.out, if_neg HER.out]; exact H7.out⟩⟩
end Go.Proofs.YtcmjpkfinbakkaaGreatDoor

namespace Go.Proofs.YtcmjpkfinbakkaaGreatDoor
open Go.RowKit Go.ChangeShapes Go.WideShapes
set_option linter.unusedVariables false
set_option maxRecDepth 100000

set_option maxHeartbeats 8000000 in
theorem run_cat (f : Value) (cwd : ByteArray) (v inn : Value) (st : Int) (bs ms : Bz) (w : World) (hf : ∃ k, f = .pointer k) (hv : ∃ a n c, v = .slice a n c) (hi : ∃ a n c, inn = .slice a n c)
    (HE : ∀ (t : Nat) (w1 : World), Below w.heap.size w w1 → w.heap.size + 1 ≤ w1.heap.size → Tool w1 (w.heap.size + 1) t f cwd nCat inn 0 (.slice none 0 0) [] (.slice none 0 0) [] → Calls Tryz.prog 54 #[.pointer (some ⟨t, 0, none⟩), v] w1 (fun e w' => e = .returned (.tuple #[]) ∧ (∃ o l, Tool w' (w.heap.size + 1) t f cwd nCat inn st o bs l ms) ∧ Below (w.heap.size + 1) w1 w')) :
    Calls Tryz.prog 23 #[f, .string cwd, .string nCat, v, inn] w (RunU st bs ms w) := by
  obtain ⟨fk, rfl⟩ := hf
  obtain ⟨va, vn, vc, rfl⟩ := hv
  obtain ⟨ia, i_n, ic, rfl⟩ := hi
  obtain ⟨Q', hQ⟩ : ∃ Q', RunU st bs ms w = Q' := ⟨_, rfl⟩
  rw [hQ]
  have HQ := Lib.hid hQ
  obtain ⟨W0, hW0⟩ : ∃ W0, w.alloc (.cells #[.int .i64 0, .slice none 0 0, .slice none 0 0] 43) = W0 := ⟨_, rfl⟩
  obtain ⟨W1, hW1⟩ : ∃ W1, W0.alloc (.cells #[.pointer fk, .string cwd, .string nCat, .slice ia i_n ic, .int .i64 0, .slice none 0 0, .slice none 0 0] 98) = W1 := ⟨_, rfl⟩
  have hs0 : W0.heap.size = w.heap.size + 1 := by rw [← hW0]; simp
  have hb0 : Below w.heap.size w W0 := by rw [← hW0]; exact (Below.refl _ _).alloc (Nat.le_refl _) _
  have hb1 : Below w.heap.size w W1 := by rw [← hW1]; exact hb0.alloc (by omega) _
  have hk0 : W0.heap[w.heap.size]? = some (.cells [.int .i64 0, .slice none 0 0, .slice none 0 0].toArray 43 (0, 0)) := by rw [← hW0]; exact heap_alloc_new _ _
  have hk1 : W1.heap[w.heap.size]? = some (.cells [.int .i64 0, .slice none 0 0, .slice none 0 0].toArray 43 (0, 0)) := by
    rw [← hW1, (MapKept.heap_alloc _ _).2 _ (by omega)]; exact hk0
  have ht1 : W1.heap[w.heap.size + 1]? = some (.cells (tlC (.pointer fk) cwd nCat (.slice ia i_n ic) 0 (.slice none 0 0) (.slice none 0 0)).toArray 98 (0, 0)) := by
    rw [← hW1, ← hs0]; exact heap_alloc_new _ _
  have HW1 := Lib.hid hW1
  have HW0 := Lib.hid hW0
  have hsz1 : w.heap.size + 1 < W1.heap.size := blk_lt ht1
  have HC := Lib.hid (HE (w.heap.size + 1) W1 hb1 (by omega) ⟨ht1, by omega, World.ownsRow_nil _ _ _ _, World.ownsRow_nil _ _ _ _, (fun e => by cases e), (fun e => by cases e), (fun k e => by cases e)⟩)
  have HK1 := Lib.hid hk1
  have HB1 := Lib.hid hb1
  clear hQ HE hW0 hW1 hs0 hb0 hb1 hk0 hk1 ht1
  unfold nCat at HC HW1 ⊢
  go_enter Tryz.func23, Tryz.ntmps23
  go_wp2_with (go_at_call 54; rw [HW0.out, HW1.out]; refine HC.out.mono ?_; rintro e w2 ⟨rfl, ⟨o', l', h2⟩, hb2⟩; obtain ⟨oa, oc, rfl, _⟩ := own_slice h2.out; obtain ⟨la, lc, rfl, _⟩ := own_slice h2.log; have hk2 := (hb2.block w.heap.size (by omega)).trans HK1.out; have c0 : w2.cell? ⟨w.heap.size, 0, none⟩ = some (.int .i64 0) := cell_of hk2 0; have c1 : w2.cell? ⟨w.heap.size, 1, none⟩ = some (.slice none 0 0) := cell_of hk2 1; have c2 : w2.cell? ⟨w.heap.size, 2, none⟩ = some (.slice none 0 0) := cell_of hk2 2; have f0 := free_of hk2 0; have f1 := free_of hk2 1; have f2 := free_of hk2 2; have c4 : w2.cell? ⟨w.heap.size + 1, 4, none⟩ = some (.int .i64 st) := cell_of h2.blk 4; have c5 : w2.cell? ⟨w.heap.size + 1, 5, none⟩ = some (.slice oa bs.length oc) := cell_of h2.blk 5; have c6 : w2.cell? ⟨w.heap.size + 1, 6, none⟩ = some (.slice la ms.length lc) := cell_of h2.blk 6; have H2 := Lib.hid h2; have H3 := Lib.hid hb2; have HK2 := Lib.hid hk2; clear h2 hb2 hk2; simp only [])
  have hs := set_of (set_of (set_of HK2.out 0 (.int .i64 st)) 1 (.slice oa bs.length oc)) 2 (.slice la ms.length lc)
  have hb3 : Below w.heap.size w (((w2.setCell ⟨w.heap.size, 0, none⟩ (.int .i64 st)).setCell ⟨w.heap.size, 1, none⟩ (.slice oa bs.length oc)).setCell ⟨w.heap.size, 2, none⟩ (.slice la ms.length lc)) := by
    have hb2 : Below w.heap.size w w2 := HB1.out.trans (H3.out.mono (by omega))
    exact ((hb2.setCell (Nat.le_refl _) _).setCell (Nat.le_refl _) _).setCell (Nat.le_refl _) _
  have hw3 : ∀ g, g ≠ w.heap.size → (((w2.setCell ⟨w.heap.size, 0, none⟩ (.int .i64 st)).setCell ⟨w.heap.size, 1, none⟩ (.slice oa bs.length oc)).setCell ⟨w.heap.size, 2, none⟩ (.slice la ms.length lc)).heap[g]? = w2.heap[g]? := fun g hne => by
    rw [Below.heap_setCell _ _ _ _ hne, Below.heap_setCell _ _ _ _ hne, Below.heap_setCell _ _ _ _ hne]
  have hrow := Go.Joins.ownsRow_le (row_43 H2.out.out HK2.out hw3) (base' := w.heap.size) (by omega)
  have hrow2 := Go.Joins.ownsRow_le (row_43 H2.out.log HK2.out hw3) (base' := w.heap.size) (by omega)
  generalize (((w2.setCell ⟨w.heap.size, 0, none⟩ (.int .i64 st)).setCell ⟨w.heap.size, 1, none⟩ (.slice oa bs.length oc)).setCell ⟨w.heap.size, 2, none⟩ (.slice la ms.length lc)) = w3 at *
  have d0 : w3.cell? ⟨w.heap.size, 0, none⟩ = some (.int .i64 st) := cell_of hs 0
  have d1 : w3.cell? ⟨w.heap.size, 1, none⟩ = some (.slice oa bs.length oc) := cell_of hs 1
  have d2 : w3.cell? ⟨w.heap.size, 2, none⟩ = some (.slice la ms.length lc) := cell_of hs 2
  refine bodyPost_ret (v := .agg #[.int .i64 st, .slice oa bs.length oc, .slice la ms.length lc]) ?_ rfl ?_
  · simp [results, Tryz.results23, go_sem, d0, d1, d2]
  · rw [← HQ.out]
    exact ⟨_, _, rfl, hrow, hrow2, hb3⟩
end Go.Proofs.YtcmjpkfinbakkaaGreatDoor

namespace Go.Proofs.YtcmjpkfinbakkaaGreatDoor
open Go.RowKit Go.ChangeShapes Go.WideShapes
set_option linter.unusedVariables false
set_option maxRecDepth 100000

theorem byts_of_trod {H : Type} {enc : TypeId × Value → H} {W : World} {v : Value} {d : DataW H} {p : List MemPlace} {fuel : Nat}
    (hf2 : DataW.trod enc Tryz.prog W 0 (fun _ => true) true fuel 41 [v] = some (d, p)) : ∃ l : Bz, Vf.Bin W v l ∧ InB W v l ∧ l.length ≤ maxLen := by
  have c5 : Tryz.prog.cellsOf 5 = 1 := by kernel_rfl
  rcases Go.Deep.open_slice Tryz.underlying41 hf2 with ⟨h0, _⟩ | ⟨a, len, cap, m, n, D, Pl, h0, hb, hl, hm, hmm, _, hx⟩
  · simp at h0
    subst h0
    exact ⟨[], ⟨none, 0, rfl, fun i hi => absurd hi (by simp)⟩, .inl ⟨rfl, rfl⟩, by simp⟩
  · simp at h0
    subst h0
    have each : ∀ i, i < len → ∃ q : UInt8, W.cell? (a.add i) = some (.int .u8 (q.toNat : Int)) := by
      intro i hi
      have him : i < m := by rw [hmm]; split <;> omega
      obtain ⟨cs', h1, h2⟩ := hx i him
      rw [c5, Nat.mul_one] at h1
      obtain ⟨_, hlen, hcell⟩ := World.cells?_some h1
      match cs', hlen with
      | [u], _ =>
        obtain ⟨s1, e1, _, z1⟩ := DataW.trod_int Tryz.underlying5 h2
        have := hcell 0 (by omega)
        simp at e1
        subst e1
        have hz : 0 ≤ s1 ∧ s1 ≤ 255 := bounds_u8 z1
        refine ⟨UInt8.ofNat s1.toNat, ?_⟩
        have e2 : ((UInt8.ofNat s1.toNat).toNat : Int) = s1 := by
          rw [UInt8.toNat_ofNat']
          omega
        rw [e2]
        simpa [Addr.add] using this
    obtain ⟨q, hq⟩ := Go.Deep.choose_lt each
    have hlen : ((List.range len).map q).length = len := by simp
    have hel : ∀ k (hk : k < ((List.range len).map q).length), ((List.range len).map q)[k] = q k := fun k hk => by simp
    refine ⟨(List.range len).map q, ⟨some a, cap, by rw [hlen], fun k hk => ?_⟩, .inr ⟨a, cap, by rw [hlen], fun j u hj => ?_, by rw [hlen]; omega⟩, by rw [hlen]; omega⟩
    · rw [hlen] at hk
      have h1 := hq k hk
      have hb : a.block < W.heap.size := by
        have := World.block_lt_of_cell? W _ h1
        revert this
        unfold Addr.add
        split <;> exact id
      have hs : a.spot = none := World.cell?_spot (a := a) (by simpa [Addr.add] using (hq 0 (by omega)))
      obtain ⟨b, off, sp⟩ := a
      simp only at hs
      subst hs
      rw [addn] at h1
      rw [hel k (by rw [hlen]; exact hk)]
      exact ⟨b, off, rfl, hb, h1⟩
    · have hjl : j < ((List.range len).map q).length := by
        by_cases hh : j < ((List.range len).map q).length
        · exact hh
        · rw [List.getElem?_eq_none (by rw [u8s_len]; omega)] at hj; cases hj
      rw [u8s_at hjl] at hj
      injection hj with hj
      rw [← hj, hel j hjl]
      exact hq j (by rw [hlen] at hjl; exact hjl)
theorem open_byts {H : Type} {enc : TypeId × Value → H} {base : Nat} {W : World} {v : Value} {d : DataW H} {p : List MemPlace}
    (hv : Value.okWide Tryz.prog W .any base 41 v) (h : DataW.Trod enc Tryz.prog W 0 (fun _ => true) true 41 v d p) : ∃ l : Bz, Vf.Bin W v l ∧ InB W v l ∧ l.length ≤ maxLen := by
  obtain ⟨a0, len, cap, rfl⟩ := okWide_slice Tryz.underlying41 hv
  obtain ⟨fuel, hf⟩ := h
  exact byts_of_trod hf
/-- Rows of bytes, to be read behind v. -/
structure Bss (w : World) (v : Value) (n : Nat) (ls : Nat → Bz) : Prop where
  form : ∃ a c, v = .slice a n c ∧ ∀ i, i < n → ∃ b off u, a = some ⟨b, off, none⟩ ∧ b < w.heap.size ∧ w.cell? ⟨b, off + i, none⟩ = some u ∧ Vf.Bin w u (ls i) ∧ InB w u (ls i) ∧ (ls i).length ≤ maxLen
theorem open_bytss {H : Type} {enc : TypeId × Value → H} {base : Nat} {W : World} {v : Value} {d : DataW H} {p : List MemPlace}
    (hv : Value.okWide Tryz.prog W .any base 61 v) (h : DataW.Trod enc Tryz.prog W 0 (fun _ => true) true 61 v d p) : ∃ n ls, Bss W v n ls ∧ n ≤ maxLen := by
  obtain ⟨a0, len, cap, rfl⟩ := okWide_slice Tryz.underlying61 hv
  obtain ⟨fuel, hf⟩ := h
  have hf2 : DataW.trod enc Tryz.prog W 0 (fun _ => true) true fuel 61 [.slice a0 len cap] = some (d, p) := hf
  have c41 : Tryz.prog.cellsOf 41 = 1 := by kernel_rfl
  rcases Go.Deep.open_slice1 Tryz.underlying61 c41 hf2 with ⟨h0, _⟩ | ⟨a, len', cap', m, n, V, D, Pl, h0, hb, hl, hm, hmm, _, hx⟩
  · simp at h0
    obtain ⟨rfl, rfl, rfl⟩ := h0
    exact ⟨0, fun _ => [], ⟨none, 0, rfl, fun i hi => absurd hi (by omega)⟩, by unfold maxLen; omega⟩
  · simp at h0
    obtain ⟨rfl, rfl, rfl⟩ := h0
    have each : ∀ i, i < len → ∃ q : Bz, Vf.Bin W (V i) q ∧ InB W (V i) q ∧ q.length ≤ maxLen := by
      intro i hi
      have him : i < m := by rw [hmm]; split <;> omega
      exact byts_of_trod (hx i him).2
    obtain ⟨q, hq⟩ := Go.Deep.choose_lt each
    refine ⟨len, q, ⟨some a, cap, rfl, fun k hk => ?_⟩, by omega⟩
    have him : ∀ i, i < len → i < m := fun i hi => by rw [hmm]; split <;> omega
    have h1 := (hx k (him k hk)).1
    have hb : a.block < W.heap.size := by
      have := World.block_lt_of_cell? W _ h1
      revert this
      unfold Addr.add
      split <;> exact id
    have hs : a.spot = none := World.cell?_spot (a := a) (by simpa [Addr.add] using (hx 0 (him 0 (by omega))).1)
    obtain ⟨b, off, sp⟩ := a
    have hs : sp = none := hs
    subst hs
    rw [addn] at h1
    exact ⟨b, off, V k, rfl, hb, h1, (hq k hk).1, (hq k hk).2.1, (hq k hk).2.2⟩
/-- Bools, to be read behind v. -/
structure Bls (w : World) (v : Value) (l : List Bool) : Prop where
  form : ∃ a c, v = .slice a l.length c ∧ ∀ i (h : i < l.length), ∃ b off, a = some ⟨b, off, none⟩ ∧ b < w.heap.size ∧ w.cell? ⟨b, off + i, none⟩ = some (.bool l[i])
theorem Bls.below {w w' : World} {v : Value} {l : List Bool} (h : Bls w v l) (hb : Below w.heap.size w w') : Bls w' v l := by
  obtain ⟨a, c, h1, h2⟩ := h.form
  refine ⟨a, c, h1, fun i hi => ?_⟩
  obtain ⟨b, off, e1, e2, e3⟩ := h2 i hi
  exact ⟨b, off, e1, Nat.lt_of_lt_of_le e2 hb.size, (hb.cell (p := ⟨b, _, none⟩) e2).trans e3⟩
set_option maxRecDepth 10000 in
theorem open_bools {H : Type} {enc : TypeId × Value → H} {base : Nat} {W : World} {v : Value} {d : DataW H} {p : List MemPlace}
    (hv : Value.okWide Tryz.prog W .any base 62 v) (h : DataW.Trod enc Tryz.prog W 0 (fun _ => true) true 62 v d p) : ∃ l, Bls W v l ∧ l.length ≤ maxLen := by
  obtain ⟨a0, len, cap, rfl⟩ := okWide_slice Tryz.underlying62 hv
  obtain ⟨fuel, hf⟩ := h
  have hf2 : DataW.trod enc Tryz.prog W 0 (fun _ => true) true fuel 62 [.slice a0 len cap] = some (d, p) := hf
  have c4 : Tryz.prog.cellsOf 4 = 1 := by kernel_rfl
  have u4 : Tryz.prog.underlying 4 = some .bool := by kernel_rfl
  rcases Go.Deep.open_slice Tryz.underlying62 hf2 with ⟨h0, _⟩ | ⟨a, len', cap', m, n, D, Pl, h0, hb, hl, hm, hmm, _, hx⟩
  · simp at h0
    obtain ⟨rfl, rfl, rfl⟩ := h0
    exact ⟨[], ⟨none, 0, rfl, fun i hi => absurd hi (by simp)⟩, by simp⟩
  · simp at h0
    obtain ⟨rfl, rfl, rfl⟩ := h0
    have each : ∀ i, i < len → ∃ q : Bool, W.cell? (a.add i) = some (.bool q) := by
      intro i hi
      have him : i < m := by rw [hmm]; split <;> omega
      obtain ⟨cs', h1, h2⟩ := hx i him
      rw [c4, Nat.mul_one] at h1
      obtain ⟨_, hlen, hcell⟩ := World.cells?_some h1
      match cs', hlen with
      | [u], _ =>
        obtain ⟨s1, e1, _⟩ := DataW.trod_bool u4 h2
        have := hcell 0 (by omega)
        simp at e1
        subst e1
        exact ⟨s1, by simpa [Addr.add] using this⟩
    obtain ⟨q, hq⟩ := Go.Deep.choose_lt each
    have hlen : ((List.range len).map q).length = len := by simp
    refine ⟨(List.range len).map q, ⟨some a, cap, by rw [hlen], fun k hk => ?_⟩, by rw [hlen]; omega⟩
    · rw [hlen] at hk
      have h1 := hq k hk
      have hb : a.block < W.heap.size := by
        have := World.block_lt_of_cell? W _ h1
        revert this
        unfold Addr.add
        split <;> exact id
      have hs : a.spot = none := World.cell?_spot (a := a) (by simpa [Addr.add] using hq 0 (by omega))
      obtain ⟨b, off, sp⟩ := a
      simp only at hs
      subst hs
      rw [addn] at h1
      have e : ((List.range len).map q)[k]'(by rw [hlen]; exact hk) = q k := by simp
      rw [e]
      exact ⟨b, off, rfl, hb, h1⟩
end Go.Proofs.YtcmjpkfinbakkaaGreatDoor

namespace Go.Proofs.YtcmjpkfinbakkaaGreatDoor.Vf
set_option maxRecDepth 100000
open Go.RowKit Go.Maps Go.ChangeMaps
set_option linter.unusedVariables false
theorem root_no : ¬ (0 ≤ at_ root1 0 (root1.size + 1) 0) := by decide
theorem path_of {p : ByteArray} {L : Pth} (h : parts root1 p = L) (hG : Good L) (hs : ∀ x ∈ L, x.length ≤ 60) (hf : L.length ≤ 20) (hw : (written L).length ≤ 200) (hp0 : p.size ≠ 0) (hps : p.size ≤ 30000) (hz : ∀ c ∈ p.data.toList, c ≠ 0) :
    findL p = L ∧ (∀ T, findE T p = (wayE T [] L : Nat)) ∧ PathOk p := by
  have ha : abs_ root1 p = (written L, 0) := by
    unfold abs_
    rw [if_neg, h, if_neg, if_neg]
    · omega
    · rintro ⟨x, hx, g⟩; have := hs x hx; omega
    · rintro (g | g | g)
      · exact hp0 g
      · exact hz 0 ((at_mem p 0).1 g) rfl
      · exact root_no g
  have hL : findL p = L := by
    unfold findL
    rw [ha]
    show parts root1 ⟨(written L).toArray⟩ = L
    rw [parts_eq]
    have : (⟨(written L).toArray⟩ : ByteArray).data.toList = written L := by simp
    rw [this]
    exact partsL_written _ hG
  refine ⟨hL, fun T => ?_, hps, by rw [ha]; show (written L).length ≤ 40000; omega, by rw [hL]; omega, fun x hx => ?_⟩
  · unfold findE
    rw [ha, hL]; rfl
  · rw [hL] at hx
    have := hs x hx
    unfold maxLen; omega
/-- A name that a directory may hold. -/
structure Nm (s : Bz) : Prop where
  ne : s ≠ []
  dot : s ≠ [46]
  dots : s ≠ [46, 46]
  no : ∀ c ∈ s, c ≠ 47
  nul : ∀ c ∈ s, c ≠ 0
  le : s.length ≤ 60
theorem push_nm {s : Bz} (h : Nm s) (l : List Bs) : push l s = l ++ [s] := by
  unfold push
  rw [if_neg (by rintro (e | e); exact h.ne e; exact h.dot e), if_neg h.dots]
theorem parts_of (p : ByteArray) : parts root1 p = (sp p.data.toList).foldl push [] := by
  unfold parts
  by_cases h : 0 < p.size ∧ gb p 0 = 47
  · rw [if_pos h]
  · rw [if_neg h]; rfl
theorem nm_parts {s : ByteArray} (h : Nm s.data.toList) : parts root1 (⟨#[47, 100, 47]⟩ ++ s) = [[100], s.data.toList] ∧ parts root1 (⟨#[100, 47]⟩ ++ s) = [[100], s.data.toList] := by
  have e1 : ((⟨#[47, 100, 47]⟩ : ByteArray) ++ s).data.toList = [] ++ 47 :: ([100] ++ 47 :: s.data.toList) := by simp
  have e2 : ((⟨#[100, 47]⟩ : ByteArray) ++ s).data.toList = [100] ++ 47 :: s.data.toList := by simp
  have hn : ∀ c ∈ ([100] : Bz), c ≠ 47 := by decide
  have hd : push ([] : List Bs) [100] = [[100]] := by decide
  constructor
  · rw [parts_of, e1, sp_cut [] _ (by simp), sp_cut [100] _ hn, sp_all _ h.no]
    show List.foldl push (push (push (push [] []) [100]) s.data.toList) [] = _
    rw [show push ([] : List Bs) [] = [] from rfl, hd, push_nm h]; rfl
  · rw [parts_of, e2, sp_cut [100] _ hn, sp_all _ h.no]
    show List.foldl push (push (push [] [100]) s.data.toList) [] = _
    rw [hd, push_nm h]; rfl
theorem nm_good {s : Bz} (h : Nm s) : Good [[100], s] := by
  intro x hx
  simp at hx
  rcases hx with rfl | rfl
  · decide
  · exact ⟨h.ne, h.dot, h.dots, h.no⟩
theorem nm_path {s : ByteArray} (h : Nm s.data.toList) (p : ByteArray) (hp : p = ⟨#[47, 100, 47]⟩ ++ s ∨ p = ⟨#[100, 47]⟩ ++ s) : findL p = [[100], s.data.toList] ∧ (∀ T, findE T p = (wayE T [] [[100], s.data.toList] : Nat)) ∧ PathOk p := by
  have hl : s.data.toList.length = s.size := Array.length_toList
  have hle := h.le
  have hsz : p.size = p.data.toList.length := Array.length_toList.symm
  have hdl : p.data.toList = 47 :: 100 :: 47 :: s.data.toList ∨ p.data.toList = 100 :: 47 :: s.data.toList := by
    rcases hp with rfl | rfl
    · exact .inl (by simp)
    · exact .inr (by simp)
  have hw : (written [[100], s.data.toList]).length ≤ 200 := by simp [written, joined]; omega
  refine path_of ?_ (nm_good h) (fun x hx => ?_) (by simp) hw ?_ ?_ ?_
  · rcases hp with rfl | rfl
    · exact (nm_parts h).1
    · exact (nm_parts h).2
  · simp at hx
    rcases hx with rfl | rfl
    · simp
    · exact hle
  · rw [hsz]; rcases hdl with e | e <;> rw [e] <;> simp
  · rw [hsz]; rcases hdl with e | e <;> rw [e] <;> simp only [List.length_cons] <;> omega
  · intro c hc
    rcases hdl with e | e
    · rw [e] at hc
      simp at hc
      rcases hc with rfl | rfl | rfl | hc
      · decide
      · decide
      · decide
      · exact h.nul c (by simpa using hc)
    · rw [e] at hc
      simp at hc
      rcases hc with rfl | rfl | hc
      · decide
      · decide
      · exact h.nul c (by simpa using hc)
theorem path_d : findL ⟨#[47, 100]⟩ = [[100]] ∧ (∀ T, findE T ⟨#[47, 100]⟩ = (wayE T [] [[100]] : Nat)) ∧ PathOk ⟨#[47, 100]⟩ :=
  path_of (by decide) (by unfold Good; decide) (by decide) (by decide) (by decide) (by decide) (by decide) (by decide)
theorem path_x : findL ⟨#[47, 120]⟩ = [[120]] ∧ (∀ T, findE T ⟨#[47, 120]⟩ = (wayE T [] [[120]] : Nat)) ∧ PathOk ⟨#[47, 120]⟩ :=
  path_of (by decide) (by unfold Good; decide) (by decide) (by decide) (by decide) (by decide) (by decide) (by decide)
theorem path_a : findL ⟨#[47, 97]⟩ = [[97]] ∧ (∀ T, findE T ⟨#[47, 97]⟩ = (wayE T [] [[97]] : Nat)) ∧ PathOk ⟨#[47, 97]⟩ :=
  path_of (by decide) (by unfold Good; decide) (by decide) (by decide) (by decide) (by decide) (by decide) (by decide)
end Go.Proofs.YtcmjpkfinbakkaaGreatDoor.Vf

namespace Go.Proofs.YtcmjpkfinbakkaaGreatDoor
open Go.RowKit
set_option linter.unusedVariables false
set_option maxRecDepth 100000

/-- The name of a file of ToolsCat, and its path. -/
def fN (i : Nat) : ByteArray := ⟨#[102, UInt8.ofNat (48 + i)]⟩
def fP (i : Nat) : ByteArray := ⟨#[47, 102, UInt8.ofNat (48 + i)]⟩
theorem fN_abs (i : Nat) (h : i < 10) : Vf.abs_ ⟨#[47]⟩ (fN i) = ([47, 102, UInt8.ofNat (48 + i)], 0) := by
  match i, h with
  | 0, _ | 1, _ | 2, _ | 3, _ | 4, _ | 5, _ | 6, _ | 7, _ | 8, _ | 9, _ => decide +kernel
theorem fP_path (i : Nat) (h : i < 10) : Vf.findL (fP i) = [[102, UInt8.ofNat (48 + i)]] ∧ (∀ T, Vf.findE T (fP i) = (Vf.wayE T [] [[102, UInt8.ofNat (48 + i)]] : Nat)) ∧ Vf.PathOk (fP i) := by
  match i, h with
  | 0, _ | 1, _ | 2, _ | 3, _ | 4, _ | 5, _ | 6, _ | 7, _ | 8, _ | 9, _ =>
    exact Vf.path_of (by decide +kernel) (by unfold Vf.Good; decide +kernel) (by decide +kernel) (by decide) (by decide +kernel) (by decide +kernel) (by decide +kernel) (by decide +kernel)
end Go.Proofs.YtcmjpkfinbakkaaGreatDoor

namespace Go.Proofs.YtcmjpkfinbakkaaGreatDoor.Vf
set_option maxRecDepth 100000
open Go.RowKit Go.Maps Go.ChangeMaps
set_option linter.unusedVariables false
theorem Fs.cap {w : World} {B N f : Nat} {c : Cn} {T : Tr} {F : Nat → Prop} (h : Fs w B N f c T F) : Fs w B N f c T (fun j => F j ∧ j < w.heap.size) := by
  obtain ⟨A, M, V, h1, h2, h3⟩ := h
  exact ⟨A, M, V, h1, fun j hj => ⟨h2 j hj, h1.lt hj⟩, h3⟩
theorem Fs.imp {w : World} {B N f : Nat} {c : Cn} {T : Tr} {F F' : Nat → Prop} (h : Fs w B N f c T F) (hF : ∀ j, F j → F' j) : Fs w B N f c T F' := by
  obtain ⟨A, M, V, h1, h2, h3⟩ := h
  exact ⟨A, M, V, h1, fun j hj => hF j (h2 j hj), h3⟩
section
variable {w : World} {B N f : Nat} {c : Cn} {T : Tr} {F : Nat → Prop} {p : ByteArray}
set_option maxRecDepth 100000 in
set_option maxHeartbeats 4000000 in
theorem Time_ok {n : Nd} (hF : Fs w B N f c T F) (hp : PathOk p) (hE : findE T p = 0) (hn : T (findL p) = some n) :
    Calls Tryz.prog 242 #[.pointer (some ⟨f, 0, none⟩), .string p] w fun e w' => e = .returned (.int .i64 n.time) ∧ Below w.heap.size w w' := by
  obtain ⟨A, M, V, hT, hft, r0, h0, hr0⟩ := hF
  have HB := Lib.hid (present_ok hT h0 hr0 hp hE hn)
  have HT := Lib.hid hT
  have HN := Lib.hid hn
  obtain ⟨L, hL⟩ : ∃ L, findL p = L := ⟨_, rfl⟩
  rw [hL] at HB HN
  clear hT hft h0 hr0 hp hE hn hL
  go_enter Tryz.func242, Tryz.ntmps242
  go_wp2_with (go_at_call 37; refine HB.out.mono ?_; rintro e w1 ⟨⟨a, b, c, d, l, rfl⟩, h1⟩; have H1 := Lib.hid h1; have h2 := (HT.out.only (X := fun _ => False) (Only.of_below (h1.alloc h1.size (.cells #[.pointer a, .string b, .pointer (some ⟨A L, 0, none⟩), .slice c l d] 74))) (fun _ h => h.elim)).blk _ n HN.out; have q0 : (w1.alloc (.cells #[.pointer a, .string b, .pointer (some ⟨A L, 0, none⟩), .slice c l d] 74)).cell? ⟨A L, 2, none⟩ = some (.int .i64 n.time) := cell_of h2 2; clear h1 h2; simp only [])
  go_ret
  exact ⟨rfl, H1.out.alloc H1.out.size _⟩
end
end Go.Proofs.YtcmjpkfinbakkaaGreatDoor.Vf

namespace Go.Proofs.YtcmjpkfinbakkaaGreatDoor.Vf
set_option maxRecDepth 100000
open Go.RowKit Go.Maps Go.ChangeMaps
set_option linter.unusedVariables false
theorem new_at {w w' : World} {B N f : Nat} {c c' : Cn} {F : Nat → Prop} (h : Fs w B N f c newT F) (hc : c = c') : Fs w B N f c' newT F := hc ▸ h
end Go.Proofs.YtcmjpkfinbakkaaGreatDoor.Vf

namespace Go.Proofs.YtcmjpkfinbakkaaGreatDoor.Vf
set_option maxRecDepth 100000
open Go.RowKit Go.Maps Go.ChangeMaps
set_option linter.unusedVariables false
theorem New_small (n m : Int) (hn0 : 0 ≤ n) (hn : n ≤ 10000) (hm0 : 0 ≤ m) (hm : m ≤ 1048576) (w : World) {B : Nat} (hB : B ≤ w.heap.size) : Calls Tryz.prog 14 #[.int .i64 n, .int .i64 m] w fun e w1 => ∃ f, e = .returned (.pointer (some ⟨f, 0, none⟩)) ∧ Fs w1 B 0 f ⟨n, m, 0, 0, 0⟩ newT (fun j => w.heap.size ≤ j ∧ j < w1.heap.size) ∧ Below w.heap.size w w1 := by
  refine (New_any n m w (B := B) (N := 0) hB).mono ?_
  rintro e w1 ⟨f, h1, h2, h3⟩
  rw [show min (max n 0) 10000 = n by omega, show min (max m 0) 1048576 = m by omega] at h2
  exact ⟨f, h1, h2.cap, h3⟩
theorem MutP.fs {w w' : World} {B N f : Nat} {F : Nat → Prop} {er : Int} {T : Tr} {c : Cn} {e : Ending} (h : MutP w B N f F er T c e w') : e = .returned (.int .i64 er) ∧ Fs w' B (N + 1) f c T (fun j => (F j ∨ w.heap.size ≤ j) ∧ j < w'.heap.size) ∧ Only F w w' :=
  ⟨h.1, h.2.1.cap, h.2.2⟩
structure Sx (B : Nat) (w : World) (N f : Nat) (c : Cn) (T : Tr) : Prop where
  fs : ∃ F : Nat → Prop, Fs w B N f c T F ∧ ∀ j, F j → B ≤ j ∧ j < w.heap.size
  le : B ≤ w.heap.size
theorem Sx.below {B : Nat} {w w' : World} {N f : Nat} {c : Cn} {T : Tr} (h : Sx B w N f c T) (hb : Below w.heap.size w w') : Sx B w' N f c T := by
  obtain ⟨⟨F, h1, h2⟩, h3⟩ := h
  exact ⟨⟨F, h1.below hb, fun j hj => ⟨(h2 j hj).1, Nat.lt_of_lt_of_le (h2 j hj).2 hb.size⟩⟩, Nat.le_trans h3 hb.size⟩
theorem New_sx (n m : Int) (hn0 : 0 ≤ n) (hn : n ≤ 10000) (hm0 : 0 ≤ m) (hm : m ≤ 1048576) (w : World) : Calls Tryz.prog 14 #[.int .i64 n, .int .i64 m] w fun e w1 => ∃ f, e = .returned (.pointer (some ⟨f, 0, none⟩)) ∧ Sx w.heap.size w1 0 f ⟨n, m, 0, 0, 0⟩ newT ∧ Below w.heap.size w w1 := by
  refine (New_small n m hn0 hn hm0 hm w (B := w.heap.size) (Nat.le_refl _)).mono ?_
  rintro e w1 ⟨f, h1, h2, h3⟩
  exact ⟨f, h1, ⟨⟨_, h2, fun j hj => hj⟩, h3.size⟩, h3⟩
theorem Sx.mut {B : Nat} {w w' : World} {N f : Nat} {c c' : Cn} {T T' : Tr} {F : Nat → Prop} {er : Int} {e : Ending} (h1 : Fs w B N f c T F) (h2 : ∀ j, F j → B ≤ j ∧ j < w.heap.size) (h3 : B ≤ w.heap.size) (h : MutP w B N f F er T' c' e w') :
    e = .returned (.int .i64 er) ∧ Sx B w' (N + 1) f c' T' ∧ Below B w w' := by
  obtain ⟨e1, e2, e3⟩ := h.fs
  refine ⟨e1, ⟨⟨_, e2, fun j hj => ⟨?_, hj.2⟩⟩, Nat.le_trans h3 e3.size⟩, e3.below (fun k hk => (h2 k hk).1) h3⟩
  rcases hj.1 with h | h
  · exact (h2 j h).1
  · exact Nat.le_trans h3 h
/-- A file that is not there is written. -/
theorem Write_sx {B : Nat} {w : World} {N f : Nat} {c : Cn} {T : Tr} (h : Sx B w N f c T) (p : ByteArray) (hp : PathOk p) (hE : findE T p = 0) (hn : T (findL p) = none) (hc : c.Ok) (hN : N < maxLen) (bl : Bz) (ba : Option Addr) (bc : Nat) (hb : Bin w (.slice ba bl.length bc) bl) (hba : ∀ a, ba = some a → 0 < bl.length → a.block < B) (hbl : bl.length ≤ 1000000) (hfull : ¬ c.nodes ≤ c.count) (hroom : ¬ c.bytes - c.size < bl.length) :
    Calls Tryz.prog 17 #[.pointer (some ⟨f, 0, none⟩), .string p, .slice ba bl.length bc, .bool false] w fun e w' => e = .returned (.int .i64 0) ∧ Sx B w' (N + 1) f { c with count := c.count + 1, size := c.size + bl.length, clock := c.clock + 1 } (setF T (findL p) (some ⟨true, bl, c.clock + 1⟩)) ∧ Below B w w' := by
  obtain ⟨⟨F, h1, h2⟩, h3⟩ := h
  refine (Write_new w p false h1 hp hc hN h3 hE hn bl ba bc hb (fun a ha h0 hF => by have := (h2 _ hF).1; have := hba a ha h0; omega) hbl hfull hroom).mono ?_
  intro e w' hm
  exact Sx.mut h1 h2 h3 hm
end Go.Proofs.YtcmjpkfinbakkaaGreatDoor.Vf

namespace Go.Proofs.YtcmjpkfinbakkaaGreatDoor.Vf
set_option maxRecDepth 100000
open Go.RowKit Go.Maps Go.ChangeMaps
set_option linter.unusedVariables false
theorem Read_sx {B : Nat} {w : World} {N f : Nat} {c : Cn} {T : Tr} {p : ByteArray} {n : Nd} (h : Sx B w N f c T) (hp : PathOk p) (hE : findE T p = 0) (hn : T (findL p) = some n) (hnf : n.file = true) (hl : n.data.length ≤ 1000000) :
    Calls Tryz.prog 24 #[.pointer (some ⟨f, 0, none⟩), .string p] w fun e w' => ∃ a n' c', e = .returned (.tuple #[.slice a n' c', .int .i64 0]) ∧ w'.ownsRow w.heap.size 5 1 (.slice a n' c') n.data.length (u8s n.data) ∧ Below w.heap.size w w' := by
  obtain ⟨⟨F, ⟨A, M, V, hT, hft, r0, h0, hr0⟩, h2⟩, h3⟩ := h
  refine (Read_file hT h0 hr0 hp hE hn hnf hl).mono ?_
  rintro e w' ⟨v', rfl, k1, k2⟩
  obtain ⟨a, c', rfl, _⟩ := own_slice k1
  exact ⟨_, _, _, rfl, k1, k2⟩
theorem Read_sx_err {B : Nat} {w : World} {N f : Nat} {c : Cn} {T : Tr} {p : ByteArray} (h : Sx B w N f c T) (hp : PathOk p) (hE : presE T p ≠ 0) :
    Calls Tryz.prog 24 #[.pointer (some ⟨f, 0, none⟩), .string p] w fun e w' => ∃ a n' c', e = .returned (.tuple #[.slice a n' c', .int .i64 (presE T p)]) ∧ w'.ownsRow w.heap.size 5 1 (.slice a n' c') ([] : Bz).length (u8s []) ∧ Below w.heap.size w w' := by
  obtain ⟨⟨F, ⟨A, M, V, hT, hft, r0, h0, hr0⟩, h2⟩, h3⟩ := h
  refine (Read_err hT h0 hr0 hp hE).mono ?_
  rintro e w' ⟨rfl, k2⟩
  exact ⟨none, 0, 0, rfl, World.ownsRow_nil _ _ _ _, k2⟩
end Go.Proofs.YtcmjpkfinbakkaaGreatDoor.Vf

namespace Go.Proofs.YtcmjpkfinbakkaaGreatDoor
open Go.RowKit Go.ChangeShapes Go.WideShapes
set_option linter.unusedVariables false
set_option maxRecDepth 100000

theorem join_snoc (xs : List Bz) (x sep : Bz) : Lib.join (xs ++ [x]) sep = if xs = [] then x else Lib.join xs sep ++ sep ++ x := by
  cases xs with
  | nil => rw [if_pos rfl]; exact Lib.join_one x sep
  | cons y r =>
    rw [if_neg (by simp), List.cons_append, Lib.join_cons, Lib.join_cons]
    simp [Lib.joinTail, List.append_assoc]
theorem ba_ext {a b : ByteArray} (h : a.data.toList = b.data.toList) : a = b := ByteArray.ext (Array.ext' h)
/-- What the first k arguments are, joined. -/
def Ec (l : List ByteArray) (k : Nat) (S : ByteArray) : Prop := S.data.toList = Lib.join (bsOf (l.take k)) [32]
theorem Ec.next {l : List ByteArray} {k : Nat} {S S' : ByteArray} (h : Ec l k S) (hk : k < l.length) (hS : S'.data.toList = if k = 0 then l[k].data.toList else S.data.toList ++ [32] ++ l[k].data.toList) : Ec l (k + 1) S' := by
  have ht : l.take (k + 1) = l.take k ++ [l[k]] := by rw [List.take_add_one, List.getElem?_eq_getElem hk]; rfl
  have he : (bsOf (l.take k) = []) ↔ k = 0 := by
    unfold bsOf
    rw [List.map_eq_nil_iff]
    constructor
    · intro e
      have := congrArg List.length e
      rw [List.length_take, List.length_nil] at this
      omega
    · intro e; rw [e]; rfl
  unfold Ec
  rw [ht, show bsOf (l.take k ++ [l[k]]) = bsOf (l.take k) ++ [l[k].data.toList] from List.map_append, join_snoc, hS]
  by_cases h0 : k = 0
  · rw [if_pos h0, if_pos (he.2 h0)]
  · rw [if_neg h0, if_neg (fun e => h0 (he.1 e)), h]
/-- append of strings to an own row, whatever they are. -/
theorem app_strs {w : World} {B n : Nat} {v u : Value} {xs : List Value} {L : List ByteArray} (h : w.ownsRow B 9 1 v n xs) (hT : Txt w u L) (hn : n + L.length ≤ 100000) (hB : B ≤ w.heap.size) :
    ∃ v' w', (Builtin.append_ #[22, 22] 22 #[v, u]).run Tryz.prog w = .ok v' w' ∧ w'.ownsRow B 9 1 v' (n + L.length) (xs ++ L.map .string) ∧ w.grownBy w' v.ownBlock := by
  obtain ⟨i0, hi, hz0, hz1, hz2⟩ := info_parts info9
  obtain ⟨a, c, rfl, hx⟩ := hT.form
  have low : ∀ ad, a = some ad → (∀ j x, (L.map Value.string)[j]? = some x → w.cell? (ad.add j) = some x) → ∃ v' w', (Builtin.append_ #[22, 22] 22 #[v, .slice a L.length c]).run Tryz.prog w = .ok v' w' ∧ w'.ownsRow B 9 1 v' (n + L.length) (xs ++ L.map .string) ∧ w.grownBy w' v.ownBlock := by
    rintro ad rfl hc
    obtain ⟨v', w', hrun, r1, r2, _⟩ := run_append_own (P := Tryz.prog) w B 22 22 9 i0 (.string ⟨#[]⟩) 1 16 Tryz.underlying22 hi hz0 hz1 hz2 rfl (by decide) v n xs h ad L.length c (L.map .string) (by simp) hc (fun u hu => by
      obtain ⟨x, _, rfl⟩ := List.mem_map.1 hu
      rfl) (by unfold maxLen; omega) (by omega) hB
    exact ⟨v', w', hrun, r1, r2⟩
  cases L with
  | nil =>
    cases a with
    | some ad => exact low ad rfl (fun j x hj => by simp at hj)
    | none =>
      refine ⟨v, w, ?_, by simpa using h, ⟨rfl, rfl, rfl, Nat.le_refl _, fun _ _ _ => rfl⟩⟩
      rcases h.2 with ⟨rfl, rfl⟩ | ⟨g, cap, cur, rfl, _, _, hnc, _⟩
      · simp [Builtin.append_, run_underlying Tryz.underlying22, sizeOf, typeInfo, hi, Builtin.lenOf, Builtin.firstCells]
      · simp [Builtin.append_, run_underlying Tryz.underlying22, sizeOf, typeInfo, hi, Builtin.lenOf, Builtin.firstCells, hnc, storeCells]
  | cons x r =>
    obtain ⟨b, off, rfl, _, _⟩ := hx 0 (by simp)
    refine low _ rfl fun j y hj => ?_
    have hjl : j < (x :: r).length := by
      by_cases hh : j < (x :: r).length
      · exact hh
      · rw [List.getElem?_eq_none (by simpa using hh)] at hj; cases hj
    obtain ⟨b', off', e1, _, e2⟩ := hx j hjl
    injection e1 with e1
    injection e1 with e3 e4 _
    subst e3; subst e4
    rw [List.getElem?_map, List.getElem?_eq_getElem hjl] at hj
    injection hj with hj
    rw [addn, e2, ← hj]
end Go.Proofs.YtcmjpkfinbakkaaGreatDoor
