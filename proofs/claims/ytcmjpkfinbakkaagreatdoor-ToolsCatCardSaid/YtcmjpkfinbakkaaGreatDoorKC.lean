import Derived.Test.YtcmjpkfinbakkaaGreatDoorK
import Derived.Laws.OwnMore
import Derived.Test.YtcmjpkfinbakkaaGreatDoorRows
import Derived.WalkKit
import Derived.Lib.Hide
import Derived.Lib.Strings
import Derived.Sort.EncStr
import Derived.Maps.OwnSet
import Derived.Maps.Views
import Derived.OwnWalk
import Derived.Laws.AppendOwn
import Derived.StringKeys
import Derived.WalkSpells
import Derived.WalkLawsBesides
namespace Go.Proofs.YtcmjpkfinbakkaaGreatDoor
open Go.RowKit Go.ChangeShapes Go.WideShapes
set_option linter.unusedVariables false
set_option maxRecDepth 100000

/-- append of a text's bytes to an own row. -/
theorem app_str {w : World} {B : Nat} {o : Value} {s : Bz} (h : w.ownsRow B 5 1 o s.length (u8s s)) (x : ByteArray) (h0 : 0 < x.size) (hs : s.length + x.size ≤ 1000000) (hB : B ≤ w.heap.size) :
    ∃ o' w', (Builtin.append_ #[41, 9] 41 #[o, .string x]).run Tryz.prog w = .ok o' w' ∧ w'.ownsRow B 5 1 o' (s ++ x.data.toList).length (u8s (s ++ x.data.toList)) ∧ w.grownBy w' o.ownBlock ∧ (o'.ownBlock = o.ownBlock ∨ o'.ownBlock = some w.heap.size ∨ o'.ownBlock = none) := by
  obtain ⟨i0, hi, hz0, hz1, hz2⟩ := info_parts info5
  obtain ⟨v', w', hrun, r1, r2, r4⟩ := Lib.run_append_own_string (P := Tryz.prog) (w := w) B 41 9 41 5 i0 Tryz.underlying41 Tryz.underlying9 hi hz0 hz1 hz2 o s.length (u8s s) h x (by unfold maxLen; omega) (by omega) hB
  refine ⟨v', w', hrun, by rw [u8s_app, List.length_append, dl, ← str_u8]; exact r1, r2, ?_⟩
  rcases h.2 with ⟨rfl, h1⟩ | ⟨g, cap, cur, rfl, hbg, hg, hnc, hcm, hcs, htake⟩
  · have hr := run_append_nil_string (P := Tryz.prog) (w := w) 41 9 41 5 i0 (.int .u8 0) Tryz.underlying41 Tryz.underlying9 hi hz0 x h0 (by omega) (by rw [hz2]; omega)
    rw [hr] at hrun
    injection hrun with e _
    right; left
    rw [← e]; rfl
  · by_cases hroom : s.length + x.size ≤ cap
    · have hr := Lib.run_append_room_string (P := Tryz.prog) (w := w) 41 9 41 5 i0 Tryz.underlying41 Tryz.underlying9 hi hz1 g s.length cap cur hg x hroom (by rw [hcs]; omega)
      rw [hr] at hrun
      injection hrun with e _
      left
      rw [← e]; rfl
    · have holds : ∀ j y, (u8s s)[j]? = some y → w.cell? ((⟨g, 0, none⟩ : Addr).add j) = some y := h.cells (g := g) rfl
      have hr := Lib.run_append_grow_string (P := Tryz.prog) (w := w) 41 9 41 5 i0 (.int .u8 0) Tryz.underlying41 Tryz.underlying9 hi hz0 ⟨g, 0, none⟩ s.length cap (u8s s) (by rw [hz1]; exact h.1) holds x (by omega) (by omega) (growslice_fits (by omega) (by rw [hz2]; omega))
      rw [hr] at hrun
      injection hrun with e _
      right; left
      rw [← e]; rfl
theorem own_new {w w' : World} {B : Nat} {v : Value} {s : Bz} {k : Nat} (h : w.ownsRow B 5 1 v s.length (u8s s)) (hw : ∀ g, g < w.heap.size → g ≠ k → w'.heap[g]? = w.heap[g]?) (hk : v.ownBlock ≠ some k) : w'.ownsRow B 5 1 v s.length (u8s s) :=
  row_only h fun g hg hl => hw g hl (fun e => hk (by rw [hg, e]))
/-- A complaint behind others: what lies behind the append and the store. -/
theorem Tool.noted {w W w' : World} {B t : Nat} {f : Value} {cwd name : ByteArray} {inn : Value} {st : Int} {o l l' : Value} {s m x : Bz} (h : Tool w B t f cwd name inn st o s l m) (hW : W.heap = w.heap)
    (r1 : w'.ownsRow B 5 1 l' (m ++ x).length (u8s (m ++ x))) (r2 : W.grownBy w' l.ownBlock) (r3 : l'.ownBlock = l.ownBlock ∨ l'.ownBlock = some W.heap.size ∨ l'.ownBlock = none) (hos : W.os = w.os) (htp : W.tape = w.tape) (hou : W.output = w.output) :
    w'.heap[t]? = some (.cells (tlC f cwd name inn st o l).toArray 98 (0, 0)) ∧ Tool (w'.setCell ⟨t, 6, none⟩ l') B t f cwd name inn st o s l' (m ++ x) ∧ Only (fun k => k = t ∨ l.ownBlock = some k) w (w'.setCell ⟨t, 6, none⟩ l') := by
  have ht : t < w.heap.size := blk_lt h.blk
  have h1 : w'.heap[t]? = some (.cells (tlC f cwd name inn st o l).toArray 98 (0, 0)) := by
    rw [r2.block t (by rw [hW]; exact ht) (fun e => h.nl e.symm), hW]; exact h.blk
  have hlt : l'.ownBlock ≠ some t := by
    rcases r3 with e | e | e
    · rw [e]; exact h.nl
    · rw [e, hW]; intro e; injection e with e; omega
    · rw [e]; intro e; cases e
  refine ⟨h1, ⟨set_of h1 6 l', h.base, row_only h.out fun g hg hl => ?_, row_only r1 fun g hg _ => ?_, h.no, hlt, fun k hk hl => ?_⟩, ?_⟩
  · rw [Below.heap_setCell _ _ _ _ (fun e => h.no (by rw [hg]; exact congrArg some e)), r2.block g (by rw [hW]; exact hl) (fun e => h.ap g hg e.symm), hW]
  · exact Below.heap_setCell _ _ _ _ (fun e => hlt (by rw [hg]; exact congrArg some e))
  · have hkl := (own_lt h.out hk).2
    rcases r3 with e | e | e
    · exact h.ap k hk (e ▸ hl)
    · rw [e, hW] at hl; injection hl with hl; omega
    · rw [e] at hl; cases hl
  · have hO : Only (fun k => k = t ∨ l.ownBlock = some k) w w' := ⟨r2.os.trans hos, r2.tape.trans htp, r2.output.trans hou, by rw [← hW]; exact r2.size, fun i hi hn => by
      rw [r2.block i (by rw [hW]; exact hi) (fun e => hn (.inr e.symm)), hW]⟩
    exact hO.set (.inl (.inl rfl)) 6 l'
def NoteP (B t : Nat) (f : Value) (cwd name : ByteArray) (inn : Value) (st : Int) (o : Value) (s : Bz) (l : Value) (m : Bz) (w : World) (e : Ending) (w' : World) : Prop :=
  e = .returned (.tuple #[]) ∧ ∃ l', Tool w' B t f cwd name inn st o s l' m ∧ Only (fun k => k = t ∨ l.ownBlock = some k) w w'
theorem dec_short (k : Nat) (hk : k < 100) : (Lib.decDigits k).length ≤ 100 := by
  have hd : ∀ n, (Lib.decDigits n).length ≤ n + 1 := by
    intro n
    induction n using Nat.strongRecOn with
    | ind n ih =>
      rw [Lib.decDigits]
      split
      · simp
      · have := ih (n / 10) (by omega)
        rw [List.length_append]
        simp
        omega
  have := hd k
  omega
set_option maxHeartbeats 8000000 in
theorem complain_more (B t : Nat) (f : Value) (cwd name : ByteArray) (inn : Value) (st st0 : Int) (o : Value) (s : Bz) (l : Value) (m : Bz) (x : ByteArray) (k : Nat) (w : World) (h : Tool w B t f cwd name inn st0 o s l m) (hn : name.size ≤ 1000) (hx : x.size ≤ 1000) (hm : m.length ≤ 100000) (hk1 : 1 ≤ k) (hk : k < 100) (hB : B ≤ w.heap.size) :
    Calls Tryz.prog 113 #[.pointer (some ⟨t, 0, none⟩), .int .i64 st, .string x, .int .i64 (k : Int)] w (NoteP B t f cwd name inn st o s l (m ++ (logB name x k).data.toList) w) := by
  obtain ⟨Q', hQ⟩ : ∃ Q', NoteP B t f cwd name inn st o s l (m ++ (logB name x k).data.toList) w = Q' := ⟨_, rfl⟩
  rw [hQ]
  have hdk := dec_short k hk
  have hsz : (logB name x k).size = name.size + 2 + x.size + 8 + (Lib.decDigits k).length + 1 := by
    unfold logB
    simp only [ByteArray.size_append]
    rfl
  have h4 := h.stat st
  obtain ⟨w1, hw1⟩ : ∃ w1, w.setCell ⟨t, 4, none⟩ (.int .i64 st) = w1 := ⟨_, rfl⟩
  have hs1 : w1.heap.size = w.heap.size := by rw [← hw1]; simp
  rw [hw1] at h4
  have hO1 : Only (fun k => k = t) w w1 := by rw [← hw1]; exact (Only.refl (fun k => k = t) w).set (.inl rfl) 4 _
  obtain ⟨l', w', hrun, r1, r2, r3⟩ := app_str (w := w1.drew) (own_below h4.log ((Below.refl _ _).drew)) (logB name x k) (by omega) (by omega) (by show B ≤ w1.heap.size; omega)
  obtain ⟨g1, g2, g3⟩ := h4.noted (W := w1.drew) rfl r1 r2 r3 rfl rfl rfl
  obtain ⟨la, lc, rfl, _⟩ := own_slice h4.log
  obtain ⟨oa, oc, rfl, _⟩ := own_slice r1
  have p4 : w.cell? ⟨t, 4, none⟩ = some (.int .i64 st0) := cell_of h.blk 4
  have e4 := free_of h.blk 4
  have p6 : w1.cell? ⟨t, 6, none⟩ = some (.slice la m.length lc) := cell_of h4.blk 6
  have p2 : w1.cell? ⟨t, 2, none⟩ = some (.string name) := cell_of h4.blk 2
  have q6 : w'.cell? ⟨t, 6, none⟩ = some (.slice la m.length lc) := cell_of g1 6
  have q2 : w'.cell? ⟨t, 2, none⟩ = some (.string name) := cell_of g1 2
  have e6 := free_of g1 6
  have kne : ¬ ((k : Int) = 0) := by omega
  have kbe : ((k : Int) == 0) = false := by rw [beq_eq_false_iff_ne]; exact kne
  have HI := Lib.hid (fun w => Tryz.strconv_Itoa_small k hk w)
  have HRUN := Lib.hid hrun
  have H2 : Hid (Q' (.returned (.tuple #[])) (w'.setCell ⟨t, 6, none⟩ (.slice oa (m ++ (logB name x k).data.toList).length oc))) := by
    rw [← hQ]; exact ⟨rfl, _, g2, hO1.trans g3 (fun _ h => .inl h) (fun _ _ h => h)⟩
  have z1 : ¬ (9223372036854775807 < name.size + 2) := by omega
  have z2 : ¬ (9223372036854775807 < name.size + 2 + x.size) := by omega
  have z3 : ¬ (9223372036854775807 < name.size + 2 + x.size + 8) := by omega
  have z4 : ¬ (9223372036854775807 < name.size + 2 + x.size + 8 + (Lib.decDigits k).length) := by omega
  have z5 : ¬ (9223372036854775807 < name.size + 2 + x.size + 8 + (Lib.decDigits k).length + 1) := by omega
  have hDs : (⟨(Lib.decDigits k).toArray⟩ : ByteArray).size = (Lib.decDigits k).length := rfl
  generalize (m ++ (logB name x k).data.toList).length = nn at HRUN H2
  unfold logB at HRUN
  generalize (⟨(Lib.decDigits k).toArray⟩ : ByteArray) = D at HRUN HI hDs
  have HW1 := Lib.hid hw1
  generalize m.length = mn at p6 q6 HRUN
  clear hrun r1 r2 r3 g1 g2 g3 h4 h hQ hsz hdk hw1 hO1 hn hx hm hs1
  go_enter Tryz.func113, Tryz.ntmps113
  go_wp2_with fail
  rw [HW1.out]
  refine wp_region_made 18 4 37 _ (by kernel_rfl) (by kernel_rfl) (by kernel_rfl) (Nat.le_refl 37) rfl ?_
  have p6d : w1.drew.cell? ⟨t, 6, none⟩ = some (.slice la mn lc) := p6
  have p2d : w1.drew.cell? ⟨t, 2, none⟩ = some (.string name) := p2
  generalize w1.drew = wz at p6d p2d HRUN ⊢
  have r6 : ∀ b : One wz, b.v.cell? ⟨t, 6, none⟩ = some (.slice la mn lc) := fun b => by rw [b.h]; exact p6d
  have r2 : ∀ b : One wz, b.v.cell? ⟨t, 2, none⟩ = some (.string name) := fun b => by rw [b.h]; exact p2d
  have HC1 : Hid (∀ b : One wz, Calls Tryz.prog 147 #[.int .i64 k] b.v fun e w' => e = .returned (.string D) ∧ ∃ b' : One wz, w' = b'.v) := fun b => (HI.out b.v).mono fun e w' ⟨he, hw⟩ => ⟨he, b, hw⟩
  clear p6 p6d p2 p2d
  unfold isOne
  simp only [List.take_succ_cons, List.take_zero, List.drop_succ_cons, List.drop_zero]
  repeat (go_big_quiet_step (with_reducible exact HC1.out _))
  refine wpQuiet_nil ?_
  refine ⟨by kernel_rfl, .slice oa nn oc, w', ?_, ?_, ?_⟩
  · have hR := HRUN.out
    simp [execOp, resolve, invoke, builtin, Act.eval, hR, Result.andThen]
  · clear r6 r2 HC1
    have r6 : ∀ b : One w', b.v.cell? ⟨t, 6, none⟩ = some (.slice la mn lc) := fun b => by rw [b.h]; exact q6
    have r2 : ∀ b : One w', b.v.cell? ⟨t, 2, none⟩ = some (.string name) := fun b => by rw [b.h]; exact q2
    have HC1 : Hid (∀ b : One w', Calls Tryz.prog 147 #[.int .i64 k] b.v fun e w' => e = .returned (.string D) ∧ ∃ b' : One _, w' = b'.v) := fun b => (HI.out b.v).mono fun e w' ⟨he, hw⟩ => ⟨he, b, hw⟩
    repeat (go_big_quiet_step (with_reducible exact HC1.out _))
    exact wpQuiet_nil rfl
  · clear r6 r2 HC1
    go_wp2_with fail
    refine wpQuiet_nil ?_
    go_end0
    exact H2.out
end Go.Proofs.YtcmjpkfinbakkaaGreatDoor

namespace Go.Proofs.YtcmjpkfinbakkaaGreatDoor
open Go.RowKit Go.ChangeShapes Go.WideShapes
set_option linter.unusedVariables false
set_option maxRecDepth 100000

def KeepP (B t : Nat) (f : Value) (cwd name : ByteArray) (inn : Value) (st : Int) (o : Value) (s : Bz) (l : Value) (m : Bz) (w : World) (e : Ending) (w' : World) : Prop :=
  e = .returned (.tuple #[]) ∧ Tool w' B t f cwd name inn st o s l m ∧ Only (fun k => k = t) w w'
set_option maxHeartbeats 8000000 in
theorem write_none (B t : Nat) (f : Value) (cwd name : ByteArray) (inn : Value) (st : Int) (o : Value) (s : Bz) (l : Value) (m : Bz) (w : World) (h : Tool w B t f cwd name inn st o s l m) (hs : s.length ≤ 65536) (hB : B ≤ w.heap.size) :
    Calls Tryz.prog 102 #[.pointer (some ⟨t, 0, none⟩), .slice none 0 0] w (KeepP B t f cwd name inn st o s l m w) := by
  obtain ⟨Q', hQ⟩ : ∃ Q', KeepP B t f cwd name inn st o s l m w = Q' := ⟨_, rfl⟩
  rw [hQ]
  obtain ⟨i0, hi, hz0, hz1, hz2⟩ := info_parts info5
  have hrun := run_append_owned_none (P := Tryz.prog) (w := w.drew) B 41 41 5 i0 1 Tryz.underlying41 hi o s.length (u8s s) (own_below h.out ((Below.refl _ _).drew))
  have h1 : w.drew.heap[t]? = some (.cells (tlC f cwd name inn st o l).toArray 98 (0, 0)) := h.blk
  obtain ⟨oa, oc, rfl, hoc⟩ := own_slice h.out
  have hq : Tool (w.drew.setCell ⟨t, 5, none⟩ (.slice oa s.length oc)) B t f cwd name inn st (.slice oa s.length oc) s l m := by
    have hd := h.below ((Below.refl _ _).drew)
    exact ⟨set_of hd.blk 5 _, hd.base, row_only hd.out fun g hg _ => Below.heap_setCell _ _ _ _ (fun e => h.no (by rw [hg]; exact congrArg some e)), row_only hd.log fun g hg _ => Below.heap_setCell _ _ _ _ (fun e => h.nl (by rw [hg]; exact congrArg some e)), h.no, h.nl, h.ap⟩
  have ho : Only (fun k => k = t) w (w.drew.setCell ⟨t, 5, none⟩ (.slice oa s.length oc)) := (Only.of_below (S := fun k => k = t) ((Below.refl w.heap.size w).drew)).set (.inl rfl) 5 _
  have p5 : w.cell? ⟨t, 5, none⟩ = some (.slice oa s.length oc) := cell_of h.blk 5
  have q5 : w.drew.cell? ⟨t, 5, none⟩ = some (.slice oa s.length oc) := cell_of h1 5
  have e5 := free_of h1 5
  have hmin : min (0 : Int) (65536 - (s.length : Int)) = 0 := by omega
  have hsub : IntKind.i64.wrap (65536 - (s.length : Int)) = 65536 - (s.length : Int) := IntWalk.i64_in _ (by omega)
  have HRUN := Lib.hid hrun
  have H2 : Hid (Q' (.returned (.tuple #[])) (w.drew.setCell ⟨t, 5, none⟩ (.slice oa s.length oc))) := by rw [← hQ]; exact ⟨rfl, hq, ho⟩
  clear hrun h1 h hs hQ hoc hq ho
  generalize s.length = sn at *
  go_enter Tryz.func102, Tryz.ntmps102
  go_wp2_with fail
  refine wp_region_made 12 4 28 _ (by kernel_rfl) (by kernel_rfl) (by kernel_rfl) (Nat.le_refl 28) rfl ?_
  have p5d : w.drew.cell? ⟨t, 5, none⟩ = some (.slice oa sn oc) := p5
  generalize w.drew = wz at p5d q5 e5 H2 HRUN ⊢
  have r5 : ∀ b : One wz, b.v.cell? ⟨t, 5, none⟩ = some (.slice oa sn oc) := fun b => by rw [b.h]; exact p5d
  clear p5 p5d
  unfold isOne
  simp only [List.take_succ_cons, List.take_zero, List.drop_succ_cons, List.drop_zero]
  repeat (go_big_quiet_step (fail))
  refine wpQuiet_nil ?_
  refine ⟨by kernel_rfl, .slice oa sn oc, wz, ?_, ?_, ?_⟩
  · have hR := HRUN.out
    simp [execOp, resolve, invoke, builtin, Act.eval, hR, Result.andThen]
  · clear r5
    have r5 : ∀ b : One wz, b.v.cell? ⟨t, 5, none⟩ = some (.slice oa sn oc) := fun b => by rw [b.h]; exact q5
    repeat (go_big_quiet_step (fail))
    exact wpQuiet_nil rfl
  · clear r5
    go_wp2_with fail
    refine wpQuiet_nil ?_
    go_end0
    exact H2.out
end Go.Proofs.YtcmjpkfinbakkaaGreatDoor

namespace Go.Proofs.YtcmjpkfinbakkaaGreatDoor.Vf
set_option maxRecDepth 100000
open Go.RowKit Go.Maps Go.ChangeMaps
set_option linter.unusedVariables false

abbrev Bz := List UInt8
abbrev Pth := List Bz
/-- A node: a file with its bytes, or a directory; and its time. -/
structure Nd where
  file : Bool
  data : Bz
  time : Int
abbrev Tr := Pth → Option Nd
/-- How an element reads: where it points to. -/
def ptrR : Value → Option (DataW Unit × List MemPlace)
  | .pointer none => some (.nil, [])
  | .pointer (some ⟨b, 0, none⟩) => some (.lit (.int .i64 b), [])
  | _ => none
def ptrV : Option Nat → Value
  | none => .pointer none
  | some b => .pointer (some ⟨b, 0, none⟩)
def ptrD : Option Nat → DataW Unit
  | none => .nil
  | some b => .lit (.int .i64 b)
theorem ptrR_V (o : Option Nat) : ptrR (ptrV o) = some (ptrD o, []) := by cases o <;> rfl
theorem ptrR_inv {v : Value} {o : Option Nat} {ps : List MemPlace} (h : ptrR v = some (ptrD o, ps)) : v = ptrV o := by
  unfold ptrR at h
  split at h
  · cases o with
    | none => rfl
    | some b => simp [ptrD] at h
  · rename_i b
    cases o with
    | none => simp [ptrD] at h
    | some c =>
      simp [ptrD] at h
      have hb : b = c := by have := h.1; omega
      rw [hb]; rfl
  · cases h
theorem keyedS : Keyed Tryz.prog 9 := string_keyed Tryz.underlying9
/-- A directory's map: which block its names lead to. -/
structure Kids (w : World) (N : Nat) (m : Option Nat) (g : Bz → Option Nat) : Prop where
  no : m = none → ∀ k, g k = none
  yes : ∀ b, m = some b → ∃ nn D, nn ≤ N ∧ w.ownsMap Tryz.prog 9 ptrR b nn D ∧ ∀ k : Bz, D.atKey (.string k) .nil = ptrD (g k) ∧ Maps.has D (.string k) = (g k).isSome
theorem zero50 (w : World) : (zeroValue 72).run Tryz.prog w = .ok (.pointer none) w := by kernel_rfl
theorem Kids.look {w : World} {N : Nat} {m : Option Nat} {g : Bz → Option Nat} (h : Kids w N m g) (s : ByteArray) (hs : s.size ≤ maxLen) : (Instr.lookup 67 (.map m) (.string s) false).run Tryz.prog w = .ok (ptrV (g s.data.toList)) w := by
  have hk := Go.WideMaps.keyOf_string_mk Tryz.underlying9 hs
  cases m with
  | none =>
    rw [h.no rfl]
    have := Maps.look_nil (w := w) false keyedS Tryz.underlying67 (zero50 w) hk
    simpa [ptrV] using this
  | some b =>
    obtain ⟨nn, D, _, hown, hg⟩ := h.yes b rfl
    obtain ⟨v, ps, hrun, hv⟩ := hown.lookup keyedS Tryz.underlying67 (zero50 w) (zd := .nil) (zp := []) rfl hk
    rw [(hg _).1] at hv
    rw [hrun, ptrR_inv hv]
theorem Kids.only {w w' : World} {N : Nat} {m : Option Nat} {g : Bz → Option Nat} (h : Kids w N m g) (hb : ∀ b, m = some b → b < w.heap.size → w'.heap[b]? = w.heap[b]?) : Kids w' N m g := by
  refine ⟨h.no, fun b hm => ?_⟩
  obtain ⟨nn, D, h1, hown, hg⟩ := h.yes b hm
  have hlt := hown.lt
  obtain ⟨es, clock, h2, F, hs, hD⟩ := hown
  exact ⟨nn, D, h1, ⟨es, clock, (hb b hm hlt).trans h2, F, hs, hD⟩, hg⟩
theorem Kids.lt {w : World} {N : Nat} {m : Option Nat} {g : Bz → Option Nat} (h : Kids w N m g) {b : Nat} (hm : m = some b) : b < w.heap.size := by
  obtain ⟨nn, D, h1, hown, hg⟩ := h.yes b hm
  exact hown.lt
theorem Kids.mono {w : World} {N N' : Nat} {m : Option Nat} {g : Bz → Option Nat} (h : Kids w N m g) (hN : N ≤ N') : Kids w N' m g := by
  refine ⟨h.no, fun b hm => ?_⟩
  obtain ⟨nn, D, h1, r⟩ := h.yes b hm
  exact ⟨nn, D, by omega, r⟩
theorem Kids.congr {w : World} {N : Nat} {m : Option Nat} {g g' : Bz → Option Nat} (h : Kids w N m g) (hg : ∀ k, g' k = g k) : Kids w N m g' := by
  have : g' = g := funext hg
  rw [this]; exact h
theorem keyLit (k : Bz) : WideAt.IsKeyLit (.string k) := trivial
theorem Kids.of_put {w : World} {N nn b : Nat} {D : DataW Unit} {g g' : Bz → Option Nat} {k : Bz} {a : Nat} (h : w.ownsMap Tryz.prog 9 ptrR b nn (D.put (.string k) (.lit (.int .i64 a)))) (hn : nn ≤ N) (hD : IsMap D)
    (hg : ∀ x : Bz, D.atKey (.string x) .nil = ptrD (g x) ∧ Maps.has D (.string x) = (g x).isSome) (hg' : ∀ x, g' x = if x = k then some a else g x) : Kids w N (some b) g' := by
  refine ⟨fun e => by (cases e), fun b' e => ?_⟩
  cases e
  refine ⟨nn, _, hn, h, fun x => ?_⟩
  rw [hg']
  by_cases hx : x = k
  · subst hx
    rw [if_pos rfl]
    exact ⟨atKey_put_same hD (keyLit _) _ _, Maps.has_put_same hD (keyLit _) _⟩
  · rw [if_neg hx]
    have hne : (Lit.string x) ≠ .string k := fun e => hx (by injection e)
    exact ⟨(atKey_put_other hne _ _).trans (hg x).1, (Maps.has_put_other hne _).trans (hg x).2⟩
theorem Kids.of_del {w : World} {N nn b : Nat} {D : DataW Unit} {g g' : Bz → Option Nat} {k : Bz} (h : w.ownsMap Tryz.prog 9 ptrR b nn (D.del (.string k))) (hn : nn ≤ N)
    (hg : ∀ x : Bz, D.atKey (.string x) .nil = ptrD (g x) ∧ Maps.has D (.string x) = (g x).isSome) (hg' : ∀ x, g' x = if x = k then none else g x) : Kids w N (some b) g' := by
  refine ⟨fun e => by (cases e), fun b' e => ?_⟩
  cases e
  refine ⟨nn, _, hn, h, fun x => ?_⟩
  rw [hg']
  by_cases hx : x = k
  · subst hx
    rw [if_pos rfl]
    exact ⟨atKey_del_same _, Maps.has_del_same⟩
  · rw [if_neg hx]
    have hne : (Lit.string x) ≠ .string k := fun e => hx (by injection e)
    exact ⟨(atKey_del_other hne _).trans (hg x).1, (Maps.has_del_other hne).trans (hg x).2⟩
theorem kids_made (w : World) (N : Nat) (g : Bz → Option Nat) (hg : ∀ k, g k = none) : (w.alloc (.map #[] 0)).ownsMap Tryz.prog 9 ptrR w.heap.size 0 (.map []) ∧ ∀ x : Bz, (DataW.map (H := Unit) []).atKey (.string x) .nil = ptrD (g x) ∧ Maps.has (DataW.map (H := Unit) []) (.string x) = (g x).isSome :=
  ⟨World.ownsMap_made w _ _ _, fun x => by rw [hg x]; exact ⟨rfl, rfl⟩⟩
end Go.Proofs.YtcmjpkfinbakkaaGreatDoor.Vf

namespace Go.Proofs.YtcmjpkfinbakkaaGreatDoor.Vf
set_option maxRecDepth 100000
open Go.RowKit Go.Maps Go.ChangeMaps
set_option linter.unusedVariables false

/-- Of what was there nothing but the blocks of S has turned. -/
structure Only (S : Nat → Prop) (w w' : World) : Prop where
  os : w'.os = w.os
  tape : w'.tape = w.tape
  output : w'.output = w.output
  size : w.heap.size ≤ w'.heap.size
  block : ∀ k, k < w.heap.size → ¬ S k → w'.heap[k]? = w.heap[k]?
theorem Only.refl (S : Nat → Prop) (w : World) : Only S w w := ⟨rfl, rfl, rfl, Nat.le_refl _, fun _ _ _ => rfl⟩
theorem Only.trans {S S' T : Nat → Prop} {a b c : World} (h : Only S a b) (k : Only S' b c) (hS : ∀ i, S i → T i) (hS' : ∀ i, i < a.heap.size → S' i → T i) : Only T a c :=
  ⟨k.os.trans h.os, k.tape.trans h.tape, k.output.trans h.output, Nat.le_trans h.size k.size, fun i hi hn =>
    (k.block i (Nat.lt_of_lt_of_le hi h.size) (fun e => hn (hS' i hi e))).trans (h.block i hi (fun e => hn (hS i e)))⟩
theorem Only.mono {S T : Nat → Prop} {a b : World} (h : Only S a b) (hS : ∀ i, S i → T i) : Only T a b := ⟨h.os, h.tape, h.output, h.size, fun i hi hn => h.block i hi (fun e => hn (hS i e))⟩
theorem Only.of_below {S : Nat → Prop} {a b : World} (h : Below a.heap.size a b) : Only S a b := ⟨h.os, h.tape, h.output, h.size, fun i hi _ => h.block i hi⟩
theorem Only.of_grown {S : Nat → Prop} {a b : World} {row : Option Nat} (h : a.grownBy b row) (hr : ∀ k, row = some k → S k) : Only S a b :=
  ⟨h.os, h.tape, h.output, h.size, fun i hi hn => h.block i hi (fun e => hn (hr i e.symm))⟩
theorem Only.below {S : Nat → Prop} {a b : World} {B : Nat} (h : Only S a b) (hS : ∀ k, S k → B ≤ k) (hB : B ≤ a.heap.size) : Below B a b :=
  ⟨h.os, h.tape, h.output, h.size, fun i hi => h.block i (by omega) (fun e => by have := hS i e; omega)⟩
theorem Only.set {S : Nat → Prop} {a w : World} (h : Only S a w) {g : Nat} (hg : S g ∨ a.heap.size ≤ g) (i : Nat) (u : Value) : Only S a (w.setCell ⟨g, i, none⟩ u) :=
  ⟨h.os, h.tape, h.output, by simpa using h.size, fun k hk hn => (Below.heap_setCell _ _ _ _ (by intro e; have e : k = g := e; subst e; rcases hg with e | e; exact hn e; omega)).trans (h.block k hk hn)⟩

theorem row_only {w w' : World} {B n : Nat} {v : Value} {xs : List Value} (h : w.ownsRow B 5 1 v n xs) (hb : ∀ g, v.ownBlock = some g → g < w.heap.size → w'.heap[g]? = w.heap[g]?) : w'.ownsRow B 5 1 v n xs := by
  refine ⟨h.1, ?_⟩
  rcases h.2 with hn | ⟨g, cap, cur, rfl, h1, h2, r⟩
  · exact .inl hn
  · exact .inr ⟨g, cap, cur, rfl, h1, (hb g rfl (Array.getElem?_eq_some_iff.1 h2).1).trans h2, r⟩
theorem row_lt {w : World} {B n : Nat} {v : Value} {xs : List Value} (h : w.ownsRow B 5 1 v n xs) {g : Nat} (hg : v.ownBlock = some g) : g < w.heap.size := by
  rcases h.2 with ⟨rfl, _⟩ | ⟨g', cap, cur, rfl, h1, h2, r⟩
  · cases hg
  · cases hg
    exact (Array.getElem?_eq_some_iff.1 h2).1

def u8s (l : Bz) : List Value := l.map fun c => .int .u8 c.toNat
theorem u8s_len (l : Bz) : (u8s l).length = l.length := List.length_map ..
def ndC (n : Nd) (v : Value) (m : Option Nat) : List Value := [.bool n.file, v, .int .i64 n.time, .map m]
def tlOf (tl : List Value) : Pth → List Value
  | [] => tl
  | _ => []
def tyOf (ty : TypeId) : Pth → TypeId
  | [] => ty
  | _ => 69
def kidsOf (T : Tr) (A : Pth → Nat) (p : Pth) (k : Bz) : Option Nat := if (T (p ++ [k])).isSome then some (A (p ++ [k])) else none
/-- A tree of nodes lies at block f. -/
structure TreeAt (w : World) (B N f : Nat) (ty : TypeId) (tl : List Value) (T : Tr) (A : Pth → Nat) (M : Pth → Option Nat) (V : Pth → Value) : Prop where
  a0 : A [] = f
  root : ∃ n, T [] = some n
  up : ∀ p k, (T (p ++ [k])).isSome → ∃ n, T p = some n ∧ n.file = false
  blk : ∀ p n, T p = some n → w.heap[A p]? = some (.cells (ndC n (V p) (M p) ++ tlOf tl p).toArray (tyOf ty p) (0, 0))
  data : ∀ p n, T p = some n → w.ownsRow B 5 1 (V p) n.data.length (u8s n.data)
  kids : ∀ p n, T p = some n → Kids w N (M p) (kidsOf T A p)
  base : ∀ p n, T p = some n → B ≤ A p ∧ ∀ b, M p = some b → B ≤ b
  injA : ∀ p q, (T p).isSome → (T q).isSome → A p = A q → p = q
  injM : ∀ p q b, (T p).isSome → (T q).isSome → M p = some b → M q = some b → p = q
  injV : ∀ p q b, (T p).isSome → (T q).isSome → (V p).ownBlock = some b → (V q).ownBlock = some b → p = q
/-- The blocks of a tree. -/
def foot (T : Tr) (A : Pth → Nat) (M : Pth → Option Nat) (V : Pth → Value) (k : Nat) : Prop := ∃ p n, T p = some n ∧ (A p = k ∨ M p = some k ∨ (V p).ownBlock = some k)
section
variable {w w' : World} {B N f : Nat} {ty : TypeId} {tl : List Value} {T : Tr} {A : Pth → Nat} {M : Pth → Option Nat} {V : Pth → Value}
theorem TreeAt.lt (h : TreeAt w B N f ty tl T A M V) {k : Nat} (hk : foot T A M V k) : k < w.heap.size := by
  obtain ⟨p, n, hp, e | e | e⟩ := hk
  · have := h.blk p n hp
    rw [e] at this
    exact (Array.getElem?_eq_some_iff.1 this).1
  · exact (h.kids p n hp).lt e
  · exact row_lt (h.data p n hp) e
theorem TreeAt.ge (h : TreeAt w B N f ty tl T A M V) {k : Nat} (hk : foot T A M V k) : B ≤ k := by
  obtain ⟨p, n, hp, e | e | e⟩ := hk
  · rw [← e]; exact (h.base p n hp).1
  · exact (h.base p n hp).2 k e
  · rcases (h.data p n hp).2 with ⟨e1, _⟩ | ⟨g, cap, cur, e1, h1, h2, r⟩
    · rw [e1] at e; cases e
    · rw [e1] at e; cases e; exact h1
theorem TreeAt.only {X : Nat → Prop} (h : TreeAt w B N f ty tl T A M V) (ho : Only X w w') (hd : ∀ k, X k → ¬ foot T A M V k) : TreeAt w' B N f ty tl T A M V := by
  have hb : ∀ k, foot T A M V k → w'.heap[k]? = w.heap[k]? := fun k hk => ho.block k (h.lt hk) (fun e => hd k e hk)
  exact ⟨h.a0, h.root, h.up, fun p n hp => (hb _ ⟨p, n, hp, .inl rfl⟩).trans (h.blk p n hp), fun p n hp => row_only (h.data p n hp) (fun g hg _ => hb g ⟨p, n, hp, .inr (.inr hg)⟩),
    fun p n hp => (h.kids p n hp).only (fun b hm _ => hb b ⟨p, n, hp, .inr (.inl hm)⟩), h.base, h.injA, h.injM, h.injV⟩
theorem TreeAt.mono (h : TreeAt w B N f ty tl T A M V) {N' : Nat} (hN : N ≤ N') : TreeAt w B N' f ty tl T A M V :=
  ⟨h.a0, h.root, h.up, h.blk, h.data, fun p n hp => (h.kids p n hp).mono hN, h.base, h.injA, h.injM, h.injV⟩
/-- The blocks of the three sorts differ. -/
theorem TreeAt.neAM (h : TreeAt w B N f ty tl T A M V) {p q : Pth} {b : Nat} (hp : (T p).isSome) (hq : (T q).isSome) (hm : M q = some b) : A p ≠ b := by
  obtain ⟨n, hn⟩ := Option.isSome_iff_exists.1 hp
  obtain ⟨n', hn'⟩ := Option.isSome_iff_exists.1 hq
  intro e
  obtain ⟨nn, D, _, hown, _⟩ := (h.kids q n' hn').yes b hm
  obtain ⟨es, clock, h2, _⟩ := hown
  have := h.blk p n hn
  rw [e, h2] at this
  cases this
theorem tyOf_ne (hty : ty ≠ 5) (p : Pth) : tyOf ty p ≠ 5 := by
  cases p with
  | nil => exact hty
  | cons => exact show (69 : Nat) ≠ 5 by decide
theorem TreeAt.neAV (h : TreeAt w B N f ty tl T A M V) (hty : ty ≠ 5) {p q : Pth} {b : Nat} (hp : (T p).isSome) (hq : (T q).isSome) (hm : (V q).ownBlock = some b) : A p ≠ b := by
  obtain ⟨n, hn⟩ := Option.isSome_iff_exists.1 hp
  obtain ⟨n', hn'⟩ := Option.isSome_iff_exists.1 hq
  intro e
  rcases (h.data q n' hn').2 with ⟨e1, _⟩ | ⟨g, cap, cur, e1, h1, h2, r⟩
  · rw [e1] at hm; cases hm
  · rw [e1] at hm
    cases hm
    have := h.blk p n hn
    rw [e] at this
    have h3 := h2.symm.trans this
    injection h3 with h3
    injection h3 with _ h3 _
    exact tyOf_ne hty p h3.symm
theorem TreeAt.neMV (h : TreeAt w B N f ty tl T A M V) {p q : Pth} {b c : Nat} (hp : (T p).isSome) (hq : (T q).isSome) (hc : M p = some c) (hm : (V q).ownBlock = some b) : c ≠ b := by
  obtain ⟨n, hn⟩ := Option.isSome_iff_exists.1 hp
  obtain ⟨n', hn'⟩ := Option.isSome_iff_exists.1 hq
  intro e
  obtain ⟨nn, D, _, hown, _⟩ := (h.kids p n hn).yes c hc
  obtain ⟨es, clock, hx, _⟩ := hown
  rcases (h.data q n' hn').2 with ⟨e1, _⟩ | ⟨g, cap, cur, e1, h1, h2, r⟩
  · rw [e1] at hm; cases hm
  · rw [e1] at hm
    cases hm
    rw [e, h2] at hx
    cases hx
end
end Go.Proofs.YtcmjpkfinbakkaaGreatDoor.Vf

namespace Go.Proofs.YtcmjpkfinbakkaaGreatDoor.Vf
set_option maxRecDepth 100000
open Go.RowKit Go.Maps Go.ChangeMaps
set_option linter.unusedVariables false

def setF {α : Type} (F : Pth → α) (p : Pth) (x : α) (q : Pth) : α := if q = p then x else F q
theorem setF_same {α : Type} (F : Pth → α) (p : Pth) (x : α) : setF F p x p = x := if_pos rfl
theorem setF_other {α : Type} (F : Pth → α) {p q : Pth} (x : α) (h : q ≠ p) : setF F p x q = F q := if_neg h
def graftF {α : Type} (F : Pth → α) (p : Pth) (G : Pth → α) (q : Pth) : α := if p.isPrefixOf q = true then G (q.drop p.length) else F q
theorem graftF_in {α : Type} (F : Pth → α) (p : Pth) (G : Pth → α) (r : Pth) : graftF F p G (p ++ r) = G r := by
  have h : p.isPrefixOf (p ++ r) = true := List.isPrefixOf_iff_prefix.2 ⟨r, rfl⟩
  unfold graftF; rw [if_pos h]; simp
theorem graftF_out {α : Type} (F : Pth → α) (p : Pth) (G : Pth → α) {q : Pth} (h : ¬ p <+: q) : graftF F p G q = F q := by
  unfold graftF; rw [if_neg (fun e => h (List.isPrefixOf_iff_prefix.1 e))]
theorem graft_self {α : Type} (F : Pth → α) (p : Pth) (G : Pth → α) : graftF F p G p = G [] := by have := graftF_in F p G []; simpa using this
theorem not_pre_self (d : Pth) (k : Bz) : ¬ (d ++ [k]) <+: d := fun h => by have := h.length_le; simp at this; omega
section
variable {w w' : World} {B N f : Nat} {ty : TypeId} {tl : List Value} {T : Tr} {A : Pth → Nat} {M : Pth → Option Nat} {V : Pth → Value}
theorem TreeAt.setTl (h : TreeAt w B N f ty tl T A M V) {n0 : Nd} (h0 : T [] = some n0) (tl' : List Value) (ho : Only (fun k => k = f) w w') (hb : w'.heap[f]? = some (.cells (ndC n0 (V []) (M []) ++ tl').toArray ty (0, 0))) (hty : ty ≠ 5) :
    TreeAt w' B N f ty tl' T A M V := by
  have hs : (T []).isSome := by rw [h0]; rfl
  have hof : ∀ k, foot T A M V k → k ≠ f → w'.heap[k]? = w.heap[k]? := fun k hk hne => ho.block k (h.lt hk) hne
  refine ⟨h.a0, h.root, h.up, fun p n hp => ?_, fun p n hp => ?_, fun p n hp => ?_, h.base, h.injA, h.injM, h.injV⟩
  · cases p with
    | nil =>
      rw [h0] at hp; cases hp
      rw [h.a0]; exact hb
    | cons a p =>
      have hne : A (a :: p) ≠ f := fun e => by
        have := h.injA (a :: p) [] (by rw [hp]; rfl) hs (e.trans h.a0.symm)
        cases this
      exact (hof _ ⟨_, n, hp, .inl rfl⟩ hne).trans (h.blk _ n hp)
  · refine row_only (h.data p n hp) fun g hg _ => hof g ⟨p, n, hp, .inr (.inr hg)⟩ fun e => ?_
    exact h.neAV hty hs (by rw [hp]; rfl) hg (h.a0.trans e.symm)
  · refine (h.kids p n hp).only fun b hm _ => hof b ⟨p, n, hp, .inr (.inl hm)⟩ fun e => ?_
    exact h.neAM hs (by rw [hp]; rfl) hm (h.a0.trans e.symm)
theorem TreeAt.setNode (h : TreeAt w B N f ty tl T A M V) (hty : ty ≠ 5) {p : Pth} {n n' : Nd} (hp : T p = some n) (hf : n'.file = n.file) (v' : Value) {X : Nat → Prop} (ho : Only X w w') (hX : ∀ k, X k → k = A p ∨ (V p).ownBlock = some k)
    (hb : w'.heap[A p]? = some (.cells (ndC n' v' (M p) ++ tlOf tl p).toArray (tyOf ty p) (0, 0))) (hd : w'.ownsRow B 5 1 v' n'.data.length (u8s n'.data)) (hv : ∀ b, v'.ownBlock = some b → (V p).ownBlock = some b ∨ w.heap.size ≤ b) :
    TreeAt w' B N f ty tl (setF T p (some n')) A M (setF V p v') := by
  have hs : (T p).isSome := by rw [hp]; rfl
  have hT : ∀ q, (setF T p (some n') q).isSome = (T q).isSome := fun q => by
    by_cases e : q = p
    · rw [e, setF_same, hp]; rfl
    · rw [setF_other _ _ e]
  have hof : ∀ k, foot T A M V k → k ≠ A p → (V p).ownBlock ≠ some k → w'.heap[k]? = w.heap[k]? := fun k hk h1 h2 => ho.block k (h.lt hk) fun e => by
    rcases hX k e with e | e
    · exact h1 e
    · exact h2 e
  have hin : ∀ q m, setF T p (some n') q = some m → ∃ m0, T q = some m0 ∧ m0.file = m.file := fun q m e => by
    by_cases hq : q = p
    · subst hq; rw [setF_same] at e; cases e; exact ⟨n, hp, hf.symm⟩
    · rw [setF_other _ _ hq] at e; exact ⟨m, e, rfl⟩
  have hkk : ∀ q, kidsOf (setF T p (some n')) A q = kidsOf T A q := fun q => funext fun k => by unfold kidsOf; rw [hT]
  refine ⟨h.a0, ?_, fun q k hq => ?_, fun q m hq => ?_, fun q m hq => ?_, fun q m hq => ?_, fun q m hq => ?_, fun a b ha hb' => ?_, fun a b c ha hb' => ?_, fun a b c ha hb' h1 h2 => ?_⟩
  · obtain ⟨n0, h0⟩ := h.root
    exact Option.isSome_iff_exists.1 (by rw [hT, h0]; rfl)
  · rw [hT] at hq
    obtain ⟨m, h1, h2⟩ := h.up q k hq
    by_cases e : q = p
    · subst e; rw [hp] at h1; cases h1; exact ⟨n', setF_same _ _ _, hf.trans h2⟩
    · exact ⟨m, (setF_other _ _ e).trans h1, h2⟩
  · by_cases e : q = p
    · subst e; rw [setF_same] at hq; cases hq; rw [setF_same]; exact hb
    · rw [setF_other _ _ e] at hq
      rw [setF_other _ _ e]
      refine (hof _ ⟨q, m, hq, .inl rfl⟩ (fun e2 => e (h.injA q p (by rw [hq]; rfl) hs e2)) fun e2 => ?_).trans (h.blk q m hq)
      exact h.neAV hty (by rw [hq]; rfl) hs e2 rfl
  · by_cases e : q = p
    · subst e; rw [setF_same] at hq; cases hq; rw [setF_same]; exact hd
    · rw [setF_other _ _ e] at hq
      rw [setF_other _ _ e]
      refine row_only (h.data q m hq) fun g hg _ => hof g ⟨q, m, hq, .inr (.inr hg)⟩ (fun e2 => ?_) fun e2 => ?_
      · exact h.neAV hty hs (by rw [hq]; rfl) hg e2.symm
      · exact e (h.injV q p g (by rw [hq]; rfl) hs hg e2)
  · obtain ⟨m0, hq0, _⟩ := hin q m hq
    rw [hkk]
    refine (h.kids q m0 hq0).only fun b hm _ => hof b ⟨q, m0, hq0, .inr (.inl hm)⟩ (fun e2 => ?_) fun e2 => ?_
    · exact h.neAM hs (by rw [hq0]; rfl) hm e2.symm
    · exact h.neMV (by rw [hq0]; rfl) hs hm e2 rfl
  · obtain ⟨m0, hq0, _⟩ := hin q m hq
    exact h.base q m0 hq0
  · rw [hT] at ha hb'
    exact h.injA a b ha hb'
  · rw [hT] at ha hb'
    exact h.injM a b c ha hb'
  · rw [hT] at ha hb'
    have old : ∀ q, (T q).isSome → (V q).ownBlock = some c → c < w.heap.size := fun q hq hc => by
      obtain ⟨m, hm⟩ := Option.isSome_iff_exists.1 hq
      exact row_lt (h.data q m hm) hc
    by_cases ea : a = p
    · by_cases eb : b = p
      · rw [ea, eb]
      · rw [ea, setF_same] at h1
        rw [setF_other _ _ eb] at h2
        rcases hv c h1 with e | e
        · exact ea.trans (h.injV p b c hs hb' e h2)
        · have := old b hb' h2; omega
    · rw [setF_other _ _ ea] at h1
      by_cases eb : b = p
      · rw [eb, setF_same] at h2
        rcases hv c h2 with e | e
        · exact (h.injV a p c ha hs h1 e).trans eb.symm
        · have := old a ha h1; omega
      · rw [setF_other _ _ eb] at h2
        exact h.injV a b c ha hb' h1 h2
end
end Go.Proofs.YtcmjpkfinbakkaaGreatDoor.Vf
