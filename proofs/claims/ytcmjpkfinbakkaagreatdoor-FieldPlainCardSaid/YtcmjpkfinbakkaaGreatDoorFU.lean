import Derived.Test.YtcmjpkfinbakkaaGreatDoorFG
import Derived.Test.YtcmjpkfinbakkaaGreatDoorRows
import Derived.WalkKit
import Derived.OwnWalk
import Derived.Lib.Builder
import Derived.Lib.FrozenHead
import Derived.Lib.OthersKept
import Derived.Laws.Externs
import Derived.Lib.Hide
import Derived.Lib.AppendStr
import Derived.WalkSpells
import Derived.WalkLawsBesides
import Derived.RegionTactic
import Derived.ChangeAlike
import Derived.BigRegion
import Derived.Deep.CutBlock
import Derived.Deep.DeepCutAuto
import Derived.Deep.LoopGhost
import Derived.Deep.QuietTactic
import Derived.BigQuiet
import Derived.Laws.BitsAllLaws
namespace Go.Proofs.YtcmjpkfinbakkaaGreatDoor.Fd
open Go.RowKit
set_option linter.unusedVariables false

/-- One part under the walk: its six cells. -/
theorem Sl.at {w : World} {a : Option Addr} {n c : Nat} {L : List Pt} (h : Sl w (.slice a n c) L) {k : Nat} (hk : k < L.length) :
    ∃ b off wa wc, a = some ⟨b, off, none⟩ ∧ n = L.length ∧ b < w.heap.size ∧ w.cell? ⟨b, off + k * 6, none⟩ = some (.int .i64 L[k].k) ∧ w.cell? ⟨b, off + k * 6 + 1, none⟩ = some (.string L[k].t) ∧ w.cell? ⟨b, off + k * 6 + 2, none⟩ = some (.string ⟨#[]⟩) ∧
      w.cell? ⟨b, off + k * 6 + 3, none⟩ = some (.string ⟨#[]⟩) ∧ w.cell? ⟨b, off + k * 6 + 4, none⟩ = some (.slice wa 0 wc) ∧ w.cell? ⟨b, off + k * 6 + 5, none⟩ = some (.bool false) := by
  obtain ⟨a', c', e1, e2⟩ := h.form
  obtain ⟨b, off, e3, hb, hc⟩ := e2 k hk
  injection e1 with e4 e5 e6
  subst e4
  subst e3
  obtain ⟨wa, wc, hwv⟩ := h.ok L[k] (List.getElem_mem hk)
  refine ⟨b, off, wa, wc, rfl, e5, hb, hc 0 _ rfl, hc 1 _ rfl, hc 2 _ rfl, hc 3 _ rfl, ?_, hc 5 _ rfl⟩
  rw [← hwv]; exact hc 4 _ rfl
/-- The pattern that a word is. -/
def patL (l : List P2) : Bs := l.flatMap fun p => if p.1 = 1 then p.2 else qt p.2
theorem patL_take {L : List Pt} {k : Nat} (h : k < L.length) : patL (p2s (L.take (k + 1))) = patL (p2s (L.take k)) ++ (if L[k].k = 1 then L[k].t.data.toList else qt L[k].t.data.toList) := by
  rw [take_p2 h]; unfold patL; rw [List.flatMap_append]; simp [Pt.p2]
theorem patL_le (L : List Pt) (k : Nat) : (patL (p2s (L.take k))).length ≤ (patL (p2s L)).length := by
  conv => rhs; rw [← List.take_append_drop k L]
  unfold p2s patL
  rw [List.map_append, List.flatMap_append, List.length_append]; omega
set_option maxRecDepth 100000 in
set_option maxHeartbeats 8000000 in
theorem Pattern_any (v : Value) (L : List Pt) (w : World) (hL : L.length ≤ 100000) (hT : (patL (p2s L)).length ≤ 1000000) (hZ : ∀ p ∈ L, p.t.size ≤ 100000) (hS : Sl w v L) :
    Calls Tryz.prog 39 #[v] w fun e w' => e = .returned (.string ⟨(patL (p2s L)).toArray⟩) ∧ Below w.heap.size w w' := by
  obtain ⟨a0, c0, hv, _⟩ := hS.form
  subst hv
  have HS := Lib.hid hS
  have HZ := Lib.hid hZ
  have hlI : (L.length : Int) ≤ 100000 := by omega
  have HB0 := Lib.hid (Bd.new w)
  clear hS hZ
  go_enter Tryz.func39, Tryz.ntmps39
  go_wp2_with fail
  go_loopw [8] (fun i wx => ∃ k : Nat, k ≤ L.length ∧ i = .int .i64 k ∧ Hid (Bd w wx w.heap.size (patL (p2s (L.take k))))) (fun i _ => L.length - (intOf i).toNat)
  case atStart => exact ⟨0, by omega, rfl, HB0.out⟩
  case round =>
    obtain ⟨k, hk, rfl, HB⟩ := hrel
    by_cases hlt : k < L.length
    · have hltI : (k : Int) < (L.length : Int) := by omega
      have hk0 : (0 : Int) ≤ (k : Int) := by omega
      obtain ⟨b, off, wa, wc, e1, e8, hb, q0, q1, q2, q3, q4, q5⟩ := (HS.out.below HB.out.old).at hlt
      subst e1
      have HT := Lib.hid (patL_take hlt)
      have hle := patL_le L (k + 1)
      rw [HT.out, List.length_append] at hle
      have hz := HZ.out _ (List.getElem_mem hlt)
      obtain ⟨kd, hkd⟩ : ∃ kd, L[k].k = kd := ⟨_, rfl⟩
      obtain ⟨t, ht⟩ : ∃ t, L[k].t = t := ⟨_, rfl⟩
      rw [ht] at q1 HT hle hz
      rw [hkd] at q0 HT hle
      have HB1 : Hid (Bd w (wr.alloc (.cells #[.int .i64 kd, .string t, .string ⟨#[]⟩, .string ⟨#[]⟩, .slice wa 0 wc, .bool false] 36)) w.heap.size (patL (p2s (L.take k)))) := HB.out.below ((Below.refl _ _).alloc (Nat.le_refl _) _)
      have ad := add6 b off k
      by_cases h1 : kd = 1
      · subst h1
        rw [if_pos rfl, show t.data.toList.length = t.size from Array.length_toList] at hle
        have HW := Lib.hid (HB1.out.write t (by omega))
        rw [if_pos rfl] at HT
        rw [← HT.out] at HW
        clear e8 hkd ht hle HB HB1 HT
        go_wp2_with (go_at_call 81; refine HW.out.mono ?_; rintro e w5 ⟨rfl, h5⟩; have HC := Lib.hid h5; clear h5; simp only [])
        go_roundw
        case measure => simp [intOf]; omega
        case rel => exact ⟨k + 1, by omega, rfl, HC.out⟩
      · have h1' : (kd == 1) = false := by simpa using h1
        rw [if_neg h1] at hle HT
        obtain ⟨q, hq⟩ : ∃ q : ByteArray, (⟨(qt t.data.toList).toArray⟩ : ByteArray) = q := ⟨_, rfl⟩
        have hql : q.data.toList = qt t.data.toList := by rw [← hq]
        have hqs : (qt t.data.toList).length = q.size := by rw [← hql]; exact Array.length_toList
        rw [hqs] at hle
        rw [← hql] at HT
        have HQ : Hid (∀ w', Calls Tryz.prog 82 #[.string t] w' fun e w2 => e = .returned (.string q) ∧ Below w'.heap.size w' w2) := fun w' => by rw [← hq]; exact Quote_any t w' hz
        have HW : Hid (∀ w', Bd w w' w.heap.size (patL (p2s (L.take k))) → Calls Tryz.prog 81 #[.pointer (some ⟨w.heap.size, 0, none⟩), .string q] w' fun e w2 => e = .returned (.tuple #[.int .i64 q.size, .nilIface]) ∧ Bd w w2 w.heap.size (patL (p2s (L.take (k + 1))))) := fun w' h => by
          rw [HT.out]; exact h.write q (by omega)
        clear e8 hkd ht hle HB HT hql hqs hq
        go_wp2_with (first
          | (go_at_call 82; refine (HQ.out _).mono ?_; rintro e w5 ⟨rfl, h5⟩; have HB5 := Lib.hid (HB1.out.below h5); clear h5; simp only [])
          | (go_at_call 81; refine (HW.out _ HB5.out).mono ?_; rintro e w6 ⟨rfl, h6⟩; have HC := Lib.hid h6; clear h6; simp only []))
        go_roundw
        case measure => simp [intOf]; omega
        case rel => exact ⟨k + 1, by omega, rfl, HC.out⟩
    · obtain rfl : k = L.length := by omega
      rw [List.take_length] at HB
      have HF := Lib.hid (HB.out.str)
      clear HB
      go_wp2_with (go_at_call 83; refine HF.out.mono ?_; rintro e w5 ⟨rfl, h5⟩; have HC := Lib.hid h5; clear h5; simp only [])
      go_ret
      exact ⟨rfl, HC.out⟩
end Go.Proofs.YtcmjpkfinbakkaaGreatDoor.Fd

namespace Go.Proofs.YtcmjpkfinbakkaaGreatDoor.Gb
open Go.RowKit

theorem bd_size : (Tryz.prog.info? 121).map (·.size) = some 2 := by kernel_rfl
theorem bd_lies : liesAt Tryz.prog Tryz.prog.depth 121 (2 / Tryz.prog.cellsOf 121) 0 121 1 = true := by kernel_rfl
theorem bd_byte : (Tryz.prog.info? 5).map (fun i => (i.zero, i.size, i.bytes)) = some (some (.int .u8 0), 1, 1) := by kernel_rfl

set_option maxHeartbeats 1000000 in
set_option maxRecDepth 100000 in
/-- The check ahead of each write: behind it the builder knows its own address. -/
theorem bd_check (B b : Nat) (bs : List Value) (w : World) (h : Lib.IsBuilder 121 5 B b bs w) :
    Calls Tryz.prog 127 #[.pointer (some ⟨b, 0, none⟩)] w fun e w' => e = .returned (.tuple #[]) ∧ Lib.BuilderAt 121 5 B b (.pointer (some ⟨b, 0, none⟩)) bs w' ∧ Below B w w' ∧ Lib.OthersKept 5 (some b) w w' := by
  obtain ⟨j, hj, hjs⟩ := Option.map_eq_some_iff.1 bd_size
  rcases h with h | h
  · have h0 := h.cell0
    have hsh := h.shape
    have hfz := h.frozen0
    have HA := Lib.hid h
    clear h
    go_enter Tryz.func127, Tryz.ntmps127
    go_wp2
    rw [Lib.run_to_unsafe w ⟨b, 0, none⟩ Tryz.underlying119 Tryz.underlying209 hj (by rw [hjs]; decide) hsh (Nat.zero_lt_succ 1)]
    simp only [Result.andThen]
    rw [Oper.upon_value]
    go_wp2
    rw [run_callFunc_extern Tryz.func183 (by kernel_rfl) (by kernel_rfl) (by kernel_rfl) (e := Extern.AbiNoEscape.same) (by kernel_rfl), Lib.run_noEscape]
    simp only [Result.andThen]
    rw [Oper.upon_value]
    go_wp2
    rw [Lib.run_from_unsafe w ⟨b, 0, none⟩ Tryz.underlying209 Tryz.underlying119 hj hsh bd_lies]
    simp only [Result.andThen]
    rw [Oper.upon_value]
    go_wp2
    go_end0
    exact ⟨rfl, HA.out.used _, (Below.refl B w).setCell (p := ⟨b, 0, none⟩) HA.out.1 _, (Lib.OthersKept.refl 5 (some b) w).setCell ⟨b, 0, none⟩ rfl _⟩
  · have h0 := h.cell0
    have HA := Lib.hid h
    clear h
    go_enter Tryz.func127, Tryz.ntmps127
    go_wp2
    rw [Lib.run_neq_ptr_same w _ Tryz.underlying119 hj]
    go_wp2
    go_end0
    exact ⟨rfl, HA.out, Below.refl B w, Lib.OthersKept.refl 5 (some b) w⟩

set_option maxHeartbeats 2000000 in
set_option maxRecDepth 100000 in
theorem bd_writeByte (B b : Nat) (bs : List Value) (c : Int) (w : World) (h : Lib.IsBuilder 121 5 B b bs w) (hlen : bs.length + 1 ≤ 140737488355328) (hBw : B ≤ w.heap.size) :
    Calls Tryz.prog 85 #[.pointer (some ⟨b, 0, none⟩), .int .u8 c] w fun e w' => e = .returned .nilIface ∧ Lib.IsBuilder 121 5 B b (bs ++ [.int .u8 c]) w' ∧ Below B w w' ∧ Lib.OthersKept 5 (some b) w w' := by
  obtain ⟨i0, hi, hz0, hz1, hz2⟩ := info_parts bd_byte
  go_enter Tryz.func85, Tryz.ntmps85
  go_wp2_with (go_at_call 127; refine (bd_check B b bs _ h).mono ?_)
  rintro e w1 ⟨rfl, ⟨hB, v, hbk, hown, hne⟩, hb1, hk1⟩
  have c0 : w1.cell? ⟨b, 0, none⟩ = some (.pointer (some ⟨b, 0, none⟩)) := by rw [Lib.cell_of_heap hbk]; rfl
  have c1 : w1.cell? ⟨b, 1, none⟩ = some v := by rw [Lib.cell_of_heap hbk]; rfl
  go_wp2_with (at_builtin; refine wpList_append_own _ rfl _ _ 41 rfl B 5 i0 (.int .u8 0) 1 1 Tryz.underlying41 hi hz0 hz1 hz2 rfl (by decide) _ _ _ rfl (hown.alloc _) ⟨w1.heap.size, 0, none⟩ 1 1 [.int .u8 c] rfl rfl ?c1 ?c2 ?c3 ?c4 ?c5 ?_)
  case c1 =>
    intro j u hj
    match j, hj with
    | 0, hj => simp at hj; subst hj; simp [Addr.add]
  case c2 => intro u hu; simp at hu; subst hu; rfl
  case c3 => unfold maxLen; omega
  case c4 => omega
  case c5 => have := hb1.size; simp; omega
  intro v' w2 hown' hgrow _
  have hlt : b < w1.heap.size := by
    rcases Nat.lt_or_ge b w1.heap.size with h' | h'
    · exact h'
    · simp [Array.getElem?_eq_none h'] at hbk
  have hb2 : w2.heap[b]? = some (.cells #[.pointer (some ⟨b, 0, none⟩), v] 121 (0, 0)) := by
    rw [hgrow.block b (by simp; omega) (fun e => hne e.symm), Lib.alloc_old w1 _ b hlt]
    exact hbk
  have d0 : w2.cell? ⟨b, 0, none⟩ = some (.pointer (some ⟨b, 0, none⟩)) := by rw [Lib.cell_of_heap hb2]; rfl
  have d1 : w2.cell? ⟨b, 1, none⟩ = some v := by rw [Lib.cell_of_heap hb2]; rfl
  have f1 : w2.frozen? ⟨b, 1, none⟩ = false := Lib.frozen_of_heap hb2 1
  obtain ⟨g, cap, rfl⟩ : ∃ g cap, v' = .slice (some ⟨g, 0, none⟩) (bs.length + 1) cap := by
    rcases hown'.2 with ⟨_, h0⟩ | ⟨g, cap, cur, hv, _⟩
    · omega
    · exact ⟨g, cap, hv⟩
  go_wp2
  go_ret
  refine ⟨rfl, .inr ?_, ?_, ((hk1.alloc _).grown hgrow (Lib.ownsRowF_kind (World.ownsRowF_of (hown.alloc _)))).setCell ⟨b, 1, none⟩ rfl _⟩
  · exact Lib.BuilderAt.put (T := 121) (e := 5) hB hb2 (bs' := bs ++ [.int .u8 c]) (by simpa using hown') (by decide)
  · exact ((hb1.alloc (by have := hb1.size; omega) _).grown hgrow (by have := hb1.size; simp; omega) (fun k hk => (hown.lt k hk).1)).setCell (p := ⟨b, 1, none⟩) hB _


set_option maxHeartbeats 2000000 in
set_option maxRecDepth 100000 in
theorem bd_writeString (B b : Nat) (bs : List Value) (s : ByteArray) (w : World) (h : Lib.IsBuilder 121 5 B b bs w) (hs : 0 < s.size) (hlen : bs.length + s.size ≤ 140737488355328) (hBw : B ≤ w.heap.size) :
    Calls Tryz.prog 81 #[.pointer (some ⟨b, 0, none⟩), .string s] w fun e w' => e = .returned (.tuple #[.int .i64 s.size, .nilIface]) ∧ Lib.IsBuilder 121 5 B b (bs ++ Lib.strCells s) w' ∧ Below B w w' ∧ Lib.OthersKept 5 (some b) w w' := by
  obtain ⟨i0, hi, hz0, hz1, hz2⟩ := info_parts bd_byte
  go_enter Tryz.func81, Tryz.ntmps81
  go_wp2_with (go_at_call 127; refine (bd_check B b bs _ h).mono ?_)
  rintro e w1 ⟨rfl, ⟨hB, v, hbk, hown, hne⟩, hb1, hk1⟩
  have c0 : w1.cell? ⟨b, 0, none⟩ = some (.pointer (some ⟨b, 0, none⟩)) := by rw [Lib.cell_of_heap hbk]; rfl
  have c1 : w1.cell? ⟨b, 1, none⟩ = some v := by rw [Lib.cell_of_heap hbk]; rfl
  go_wp2_with (at_builtin; refine Lib.wpList_append_own_string _ rfl _ _ 41 9 rfl B 5 i0 Tryz.underlying41 Tryz.underlying9 hi hz0 hz1 hz2 _ _ _ rfl hown s rfl (by unfold maxLen; omega) hlen (by have := hb1.size; omega) ?_)
  intro v' w2 hown' hgrow _
  have hb2 : w2.heap[b]? = some (.cells #[.pointer (some ⟨b, 0, none⟩), v] 121 (0, 0)) := by
    rw [hgrow.block b (Array.getElem?_eq_some_iff.1 hbk).1 (fun e => hne e.symm)]
    exact hbk
  have d0 : w2.cell? ⟨b, 0, none⟩ = some (.pointer (some ⟨b, 0, none⟩)) := by rw [Lib.cell_of_heap hb2]; rfl
  have d1 : w2.cell? ⟨b, 1, none⟩ = some v := by rw [Lib.cell_of_heap hb2]; rfl
  have f1 : w2.frozen? ⟨b, 1, none⟩ = false := Lib.frozen_of_heap hb2 1
  obtain ⟨g, cap, rfl⟩ : ∃ g cap, v' = .slice (some ⟨g, 0, none⟩) (bs.length + s.size) cap := by
    rcases hown'.2 with ⟨_, h0⟩ | ⟨g, cap, cur, hv, _⟩
    · omega
    · exact ⟨g, cap, hv⟩
  go_wp2
  go_ret2
  refine ⟨rfl, .inr ?_, ?_, (hk1.grown hgrow (Lib.ownsRowF_kind (World.ownsRowF_of hown))).setCell ⟨b, 1, none⟩ rfl _⟩
  · exact Lib.BuilderAt.put (T := 121) (e := 5) hB hb2 (bs' := bs ++ Lib.strCells s) (by rw [List.length_append, Lib.strCells_length]; exact hown') (by decide)
  · exact (hb1.grown hgrow (by have := hb1.size; omega) (fun k hk => (hown.lt k hk).1)).setCell (p := ⟨b, 1, none⟩) hB _

/-- A builder that has just been made. -/
theorem bd_new (w : World) (B : Nat) (hB : B ≤ w.heap.size) : Lib.IsBuilder 121 5 B w.heap.size [] (w.alloc (.cells #[.pointer none, .slice none 0 0] 121)) :=
  .inl ⟨hB, _, heap_alloc_new _ _, ⟨rfl, .inl ⟨rfl, rfl⟩⟩, by simp [Value.ownBlock]⟩
/-- What is made elsewhere leaves a builder as it was. -/
theorem bd_below {B b : Nat} {bs : List Value} {w w' : World} (h : Lib.IsBuilder 121 5 B b bs w) (hb : Below w.heap.size w w') : Lib.IsBuilder 121 5 B b bs w' := by
  have key : ∀ p, Lib.BuilderAt 121 5 B b p bs w → Lib.BuilderAt 121 5 B b p bs w' := by
    rintro p ⟨hB, v, hbk, hown, hne⟩
    refine ⟨hB, v, ?_, hown.kept (row := none) ⟨hb.os, hb.tape, hb.output, hb.size, fun k hk _ => hb.block k hk⟩ (Classical.em _), hne⟩
    rw [hb.block b (Array.getElem?_eq_some_iff.1 hbk).1, hbk]
  exact h.elim (fun x => .inl (key _ x)) (fun x => .inr (key _ x))
end Go.Proofs.YtcmjpkfinbakkaaGreatDoor.Gb

namespace Go.Proofs.YtcmjpkfinbakkaaGreatDoor.Gb
open Go.RowKit

theorem gb_trans {a w w' : World} {row : Option Nat} (h : a.grownBy w row) (k : w.grownBy w' row) : a.grownBy w' row :=
  ⟨k.os.trans h.os, k.tape.trans h.tape, k.output.trans h.output, Nat.le_trans h.size k.size, fun i hi hr => (k.block i (Nat.lt_of_lt_of_le hi h.size) hr).trans (h.block i hi hr)⟩

theorem gb_set {a w : World} {b : Nat} (h : a.grownBy w (some b)) (i : Nat) (v : Value) : a.grownBy (w.setCell ⟨b, i, none⟩ v) (some b) :=
  gb_trans h ⟨rfl, rfl, rfl, by simp, fun k _ hr => heap_setCell_other _ _ _ _ (fun e => hr (by rw [e]))⟩

theorem gb_drew {a w : World} {row : Option Nat} (h : a.grownBy w row) : a.grownBy w.drew row := ⟨h.os, h.tape, h.output, h.size, h.block⟩

theorem gb_refl (w : World) (row : Option Nat) : w.grownBy w row := ⟨rfl, rfl, rfl, Nat.le_refl _, fun _ _ _ => rfl⟩

/-- The four words of a set lie in block b. -/
def SetAt (w : World) (b : Nat) (v : Nat → Nat) : Prop :=
  w.heap[b]? = some (.cells #[.int .u64 (v 0), .int .u64 (v 1), .int .u64 (v 2), .int .u64 (v 3)] 131 (0, 0)) ∧ ∀ j, v j < 18446744073709551616

theorem SetAt.cell {w : World} {b : Nat} {v : Nat → Nat} (h : SetAt w b v) {q : Nat} (hq : q < 4) : w.cell? ⟨b, q, none⟩ = some (.int .u64 (v q)) := by
  simp only [World.cell?, h.1]
  match q, hq with
  | 0, _ => rfl
  | 1, _ => rfl
  | 2, _ => rfl
  | 3, _ => rfl

theorem SetAt.free {w : World} {b : Nat} {v : Nat → Nat} (h : SetAt w b v) (q : Nat) : w.frozen? ⟨b, q, none⟩ = false := by
  simp [World.frozen?, h.1]

def upd (v : Nat → Nat) (q x : Nat) : Nat → Nat := fun j => if j = q then x else v j

theorem SetAt.set {w : World} {b : Nat} {v : Nat → Nat} (h : SetAt w b v) {q : Nat} (hq : q < 4) {x : Nat} (hx : x < 18446744073709551616) :
    SetAt (w.setCell ⟨b, q, none⟩ (.int .u64 x)) b (upd v q x) := by
  refine ⟨?_, fun j => by unfold upd; split; exact hx; exact h.2 j⟩
  have h1 := h.1
  simp only [World.setCell, Array.getElem?_modify, h1]
  match q, hq with
  | 0, _ => simp [upd]
  | 1, _ => simp [upd]
  | 2, _ => simp [upd]
  | 3, _ => simp [upd]

theorem SetAt.drew {w : World} {b : Nat} {v : Nat → Nat} (h : SetAt w b v) : SetAt w.drew b v := h

/-- Is byte c in the set? -/
def sbit (v : Nat → Nat) (c : Nat) : Bool := (v (c / 64)).testBit (c % 64)

theorem and63 (n : Nat) : bits .and .i64 (n : Int) 63 = ((n % 64 : Nat) : Int) := by
  have h127 : (BitVec.ofInt 64 63).toNat = 2 ^ 6 - 1 := by decide
  have key : (BitVec.ofInt 64 n &&& BitVec.ofInt 64 63).toNat = ((n : Int) % ((2 ^ 64 : Nat) : Int)).toNat % 2 ^ 6 := by
    rw [BitVec.toNat_and, BitVec.toNat_ofInt, h127, Nat.and_two_pow_sub_one_eq_mod]
  show IntKind.i64.wrap ((BitVec.ofInt 64 n &&& BitVec.ofInt 64 63).toNat : Nat) = ((n % 64 : Nat) : Int)
  rw [key, IntKind.wrap_i64]
  omega

theorem pow_lt64 {r : Nat} (hr : r < 64) : (2 : Nat) ^ r < 18446744073709551616 := by
  have := Nat.pow_lt_pow_right (a := 2) (by decide) hr
  omega

theorem or_pow (a r : Nat) (ha : a < 18446744073709551616) (hr : r < 64) :
    bits .or .u64 (a : Int) (IntKind.u64.wrap (2 ^ r)) = ((a ||| 2 ^ r : Nat) : Int) := by
  have h2 := pow_lt64 hr
  have hw : IntKind.u64.wrap ((2 : Int) ^ r) = ((2 ^ r : Nat) : Int) := by
    rw [show ((2 : Int) ^ r) = ((2 ^ r : Nat) : Int) from by simp]
    exact IntWalk.u64_in _ ⟨Int.natCast_nonneg _, by have := Int.ofNat_lt.2 h2; omega⟩
  rw [hw]
  exact u64_or_nat a (2 ^ r) ha h2

theorem or_lt (a r : Nat) (ha : a < 18446744073709551616) (hr : r < 64) : a ||| 2 ^ r < 18446744073709551616 :=
  Nat.or_lt_two_pow (n := 64) ha (pow_lt64 hr)

theorem sbit_upd (v : Nat → Nat) (k c : Nat) : sbit (upd v (k / 64) (v (k / 64) ||| 2 ^ (k % 64))) c = (sbit v c || decide (c = k)) := by
  unfold sbit upd
  by_cases h : c / 64 = k / 64
  · rw [if_pos h, Nat.testBit_or, Nat.testBit_two_pow, ← h]
    congr 1
    rw [Bool.eq_iff_iff]; simp
    omega
  · rw [if_neg h]
    have : c ≠ k := by intro e; exact h (by rw [e])
    simp [this]

set_option maxHeartbeats 400000 in
theorem add_any (b : Nat) (v : Nat → Nat) (lo hi : Nat) (w : World) (hlo : lo < 256) (hhi : hi < 256) (hs : SetAt w b v) :
    Calls Tryz.prog 185 #[.pointer (some ⟨b, 0, none⟩), .int .u8 lo, .int .u8 hi] w fun e w' => e = .returned (.tuple #[]) ∧
      w.grownBy w' (some b) ∧ ∃ v', SetAt w' b v' ∧ ∀ c, sbit v' c = (sbit v c || (decide (lo ≤ c) && decide (c ≤ hi))) := by
  go_enter Tryz.func185, Tryz.ntmps185
  go_wp2
  go_loopw [6] (fun x wr => ∃ k : Nat, x = .int .i64 k ∧ lo ≤ k ∧ k ≤ 256 ∧ w.grownBy wr (some b) ∧ ∃ v', SetAt wr b v' ∧ ∀ c, sbit v' c = (sbit v c || (decide (lo ≤ c) && decide (c < k) && decide (c ≤ hi)))) (fun i _ => hi + 1 - (intOf i).toNat)
  case atStart => exact ⟨lo, rfl, Nat.le_refl _, by omega, gb_refl _ _, v, hs, fun c => by
    have : (decide (lo ≤ c) && decide (c < lo)) = false := by rw [Bool.eq_false_iff]; simp
    rw [this]; simp⟩
  case round =>
    obtain ⟨k, rfl, hlk, hk6, hg, v', hs', hb⟩ := hrel
    have HB := Lib.hid hb
    clear hb
    by_cases hk : k ≤ hi
    · obtain ⟨q, hq⟩ : ∃ q, q = k / 64 := ⟨_, rfl⟩
      obtain ⟨r, hr⟩ : ∃ r, r = k % 64 := ⟨_, rfl⟩
      have hq4 : q < 4 := by omega
      have hcell := hs'.cell hq4
      have hfree := hs'.free q
      have hdiv : (k : Int) / 64 = (q : Int) := by omega
      have hand : bits .and .i64 (k:Int) 63 = (r:Int) := by rw [and63, hr]
      have hr64 : r < 64 := by omega
      have hor := or_pow (v' q) r (hs'.2 q) hr64
      have HQ := Lib.hid hq
      have HR := Lib.hid hr
      clear hq hr
      go_wp2
      go_region
      go_wp2
      go_roundw
      case rel => 
        refine ⟨k + 1, by go_num, by omega, by omega, gb_drew (gb_set hg _ _), _, (hs'.set hq4 (or_lt _ _ (hs'.2 q) hr64)).drew, fun c => ?_⟩
        have h1 := sbit_upd v' k c
        rw [← HQ.out, ← HR.out] at h1
        rw [h1, HB.out c]
        cases sbit v c with
        | true => simp
        | false => rw [Bool.eq_iff_iff]; simp; omega
      case measure => simp [intOf]; omega
    · go_wp2
      go_end0
      refine ⟨rfl, hg, v', hs', fun c => ?_⟩
      rw [HB.out c]
      cases sbit v c with
      | true => simp
      | false => rw [Bool.eq_iff_iff]; simp; omega
end Go.Proofs.YtcmjpkfinbakkaaGreatDoor.Gb

namespace Go.Proofs.YtcmjpkfinbakkaaGreatDoor.Gb
open Go.RowKit

def allOnes : Nat := 18446744073709551615
theorem testBit_allOnes (i : Nat) : allOnes.testBit i = decide (i < 64) := Nat.testBit_two_pow_sub_one 64 i
theorem xor_not (x : Nat) (hx : x < 18446744073709551616) :
    bits BinOp.xor IntKind.u64 (if IntKind.u64.signed = true then -1 else IntKind.u64.max) (x : Int) = ((allOnes ^^^ x : Nat) : Int) := by
  have : (if IntKind.u64.signed = true then -1 else IntKind.u64.max) = ((18446744073709551615 : Nat) : Int) := by decide
  rw [this, u64_xor_nat _ _ (by decide) hx]; rfl
theorem xor_lt (x : Nat) (hx : x < 18446744073709551616) : allOnes ^^^ x < 18446744073709551616 :=
  Nat.xor_lt_two_pow (n := 64) (by decide) hx

set_option maxHeartbeats 400000 in
theorem invert_any (b : Nat) (v : Nat → Nat) (w : World) (hs : SetAt w b v) :
    Calls Tryz.prog 184 #[.pointer (some ⟨b, 0, none⟩)] w fun e w' => e = .returned (.tuple #[]) ∧
      w.grownBy w' (some b) ∧ ∃ v', SetAt w' b v' ∧ ∀ c, c < 256 → sbit v' c = !(sbit v c) := by
  go_enter Tryz.func184, Tryz.ntmps184
  go_wp2
  go_loopw [3] (fun x wr => ∃ k : Nat, x = .int .i64 k ∧ k ≤ 4 ∧ w.grownBy wr (some b) ∧ ∃ v', SetAt wr b v' ∧ (∀ j, j < k → v' j = allOnes ^^^ v j) ∧ (∀ j, k ≤ j → v' j = v j)) (fun i _ => 4 - (intOf i).toNat)
  case atStart => exact ⟨0, rfl, by omega, gb_refl _ _, v, hs, fun j h => by omega, fun j _ => rfl⟩
  case round =>
    obtain ⟨k, rfl, hk6, hg, v', hs', h1, h2⟩ := hrel
    have H1 := Lib.hid h1
    have H2 := Lib.hid h2
    clear h1 h2
    by_cases hk : k < 4
    · have hcell := hs'.cell hk
      have hfree := hs'.free k
      have hx := xor_not (v' k) (hs'.2 k)
      go_wp2
      go_region
      go_wp2
      go_roundw
      case rel => 
        refine ⟨k + 1, by go_num, by omega, gb_drew (gb_set hg _ _), _, (hs'.set hk (xor_lt _ (hs'.2 k))).drew, fun j hj => ?_, fun j hj => ?_⟩
        · unfold upd
          split
          · next h => subst h; rw [H2.out _ (Nat.le_refl _)]
          · exact H1.out j (by omega)
        · unfold upd
          rw [if_neg (by omega)]
          exact H2.out j (by omega)
      case measure => simp [intOf]; omega
    · go_wp2
      go_end0
      refine ⟨rfl, hg, v', hs', fun c hc => ?_⟩
      unfold sbit
      rw [H1.out _ (by omega), Nat.testBit_xor, testBit_allOnes]
      have : c % 64 < 64 := by omega
      simp [this]

theorem shr_bit (x r : Nat) (hx : x < 18446744073709551616) : bits BinOp.and IntKind.u64 ((x : Int) / 2 ^ r) 1 = (if x.testBit r = true then 1 else 0) := by
  have h : ((x : Int) / 2 ^ r) = ((x / 2 ^ r : Nat) : Int) := by simp
  rw [h]
  have := u64_and_nat (x / 2 ^ r) 1 (Nat.lt_of_le_of_lt (Nat.div_le_self _ _) hx) (by decide)
  rw [show ((1 : Nat) : Int) = 1 from rfl] at this
  rw [this, Nat.and_one_is_mod, Nat.testBit_eq_decide_div_mod_eq]
  have := Nat.mod_lt (x / 2 ^ r) (show 2 > 0 by decide)
  split
  · next h => simp at h; rw [h]; rfl
  · next h => simp at h; rw [h]; rfl

set_option maxHeartbeats 400000 in
theorem has_any (b : Nat) (v : Nat → Nat) (c : Nat) (o : Nat) (w : World) (hc : c < 256) (hv : ∀ q, v q < 18446744073709551616) (hs : ∀ q, q < 4 → w.cell? ⟨b, o + q, none⟩ = some (.int .u64 (v q))) :
    Calls Tryz.prog 267 #[.pointer (some ⟨b, o, none⟩), .int .u8 c] w fun e w' => e = .returned (.bool (sbit v c)) ∧ w = w' := by
  obtain ⟨q, hq⟩ : ∃ q, q = c / 64 := ⟨_, rfl⟩
  have hq4 : q < 4 := by omega
  have hcell := hs q hq4
  have HS := Lib.hid hs
  clear hs
  have hdiv : (c : Int) / 64 = (q : Int) := by omega
  have hand : bits .and .u8 (c : Int) 63 = ((c % 64 : Nat) : Int) := by rw [u8_and63 _ (by omega) (by omega)]; omega
  have hbit := shr_bit (v q) (c % 64) (hv q)
  have hsb : sbit v c = (v q).testBit (c % 64) := by unfold sbit; rw [hq]
  clear hq hv
  cases hx : (v q).testBit (c % 64)
  all_goals
    rw [hx] at hbit hsb
    have HX := Lib.hid hx
    have HSB := Lib.hid hsb
    clear hx hsb
    simp only [reduceIte, Bool.false_eq_true] at hbit
    go_enter Tryz.func267, Tryz.ntmps267
    go_wp2
    go_ret
    refine ⟨?_, rfl⟩
    rw [HSB.out]; rfl

def gb (s : ByteArray) (i : Nat) : UInt8 := s.data.toList.getD i 0
theorem gb_eq (s : ByteArray) (i : Nat) (h : i < s.size) : s[i] = gb s i := by
  have : i < s.data.toList.length := by simpa using h
  unfold gb
  rw [List.getD_eq_getElem?_getD, List.getElem?_eq_getElem this]; rfl

/-- The byte that stands at i, behind a backslash or not; and the place behind it. -/
def rb (s : ByteArray) (i : Nat) : UInt8 := if gb s i = 92 ∧ i + 1 < s.size then gb s (i + 1) else gb s i
def rbn (s : ByteArray) (i : Nat) : Nat := if gb s i = 92 ∧ i + 1 < s.size then i + 2 else i + 1

theorem ret2_ints {k k' : IntKind} {a b a' b' : Int} (h1 : a = a') (h2 : b = b') : Ending.returned (.tuple #[.int k a, .int k' b]) = .returned (.tuple #[.int k a', .int k' b']) := by rw [h1, h2]

theorem u8_eq {x : UInt8} {n : Nat} (hn : n < 256) : ((x.toNat : Int) = n) ↔ x = UInt8.ofNat n := by
  constructor
  · intro h
    apply UInt8.toNat.inj
    simp
    omega
  · intro h; subst h; simp; omega

set_option maxHeartbeats 400000 in
theorem readByte_any (s : ByteArray) (i : Nat) (w : World) (hs : s.size ≤ 100000) (hi : i < s.size) :
    Calls Tryz.prog 129 #[.string s, .int .i64 i] w fun e w' => e = .returned (.tuple #[.int .u8 (rb s i).toNat, .int .i64 (rbn s i)]) ∧ w = w' := by
  have hb0 := gb_eq s i hi
  by_cases h1 : gb s i = 92
  · by_cases h2 : i + 1 < s.size
    · have hb1 := gb_eq s (i+1) h2
      have HR1 : Hid (rb s i = gb s (i+1)) := by unfold Hid rb; rw [if_pos ⟨h1, h2⟩]
      have HR2 : Hid (rbn s i = i + 2) := by unfold Hid rbn; rw [if_pos ⟨h1, h2⟩]
      go_enter Tryz.func129, Tryz.ntmps129
      go_wp2
      go_ret2
      exact ⟨ret2_ints (by rw [HR1.out]) (by rw [HR2.out]; omega), rfl⟩
    · have HR1 : Hid (rb s i = gb s i) := by unfold Hid rb; rw [if_neg (fun h => h2 h.2)]
      have HR2 : Hid (rbn s i = i + 1) := by unfold Hid rbn; rw [if_neg (fun h => h2 h.2)]
      go_enter Tryz.func129, Tryz.ntmps129
      go_wp2
      go_ret2
      exact ⟨ret2_ints (by rw [HR1.out, h1]; rfl) (by rw [HR2.out]; omega), rfl⟩
  · have HR1 : Hid (rb s i = gb s i) := by unfold Hid rb; rw [if_neg (fun h => h1 h.1)]
    have HR2 : Hid (rbn s i = i + 1) := by unfold Hid rbn; rw [if_neg (fun h => h1 h.1)]
    have h1' : (((gb s i).toNat : Int) == 92) = false := by
      rw [beq_eq_false_iff_ne]; intro h; exact h1 ((u8_eq (n := 92) (by decide)).1 h)
    clear h1
    go_enter Tryz.func129, Tryz.ntmps129
    go_wp2
    go_ret2
    exact ⟨ret2_ints (by rw [HR1.out]) (by rw [HR2.out]; omega), rfl⟩
end Go.Proofs.YtcmjpkfinbakkaaGreatDoor.Gb
