import Derived.Test.YtcmjpkfinbakkaaGreatDoorWVD
import Derived.BigQuiet
import Derived.Deep.Draws
import Derived.Deep.QuietTactic
import Derived.Sort.OwnSorted
import Derived.Laws.AppendOwnNone
import Derived.Shelf.Strings.Builder1
import Derived.Shelf.Strings.Builder2
import Derived.Shelf.Strings.OnBuilder
import Derived.Shelf.Strings.Trim
import Derived.Shelf.Small.Utf8
import Derived.Shelf.Small.Bits
import Derived.Shelf.Small.Strs
import Derived.Shelf.Small.Wraps
import Derived.Shelf.Strings.BuilderF
import Derived.Shelf.Strings.BuilderK
import Derived.Shelf.Utf8.RuneCount
import Derived.Shelf.Strings.Builder2Cap
import Derived.Shelf.Strconv.Itoa0
import Derived.Shelf.Strconv.Itoa1
import Derived.Shelf.LaysM
import Derived.Shelf.Strconv.Itoa2
import Derived.Shelf.Strconv.Itoa3
import Derived.Shelf.Strconv.Itoa4
import Derived.Shelf.Strconv.Clone
import Derived.Shelf.Strconv.SyntaxError
import Derived.Shelf.Strconv.Lower
import Derived.Shelf.Strconv.ParseUint10
import Derived.Shelf.Strconv.ParseUint10Empty
import Derived.Shelf.Strconv.RangeError
import Derived.Shelf.Strconv.ParseUintEmpty
import Derived.Shelf.Strconv.ParseUint10b64
import Derived.Shelf.Strconv.ParseUint10b32
import Derived.Shelf.Strconv.ParseUint10b16
import Derived.Shelf.Strconv.ParseUint10b8
import Derived.Shelf.Strings.Search1
import Derived.Shelf.Strings.Search2
import Derived.Shelf.Strings.Search3
import Derived.Shelf.Strings.Count
import Derived.Shelf.Strings.Shaped
import Derived.Shelf.Sort.Plain
import Derived.Shelf.Strings.Prefix
import Derived.Shelf.Strings.Split
import Derived.Shelf.Strings.SplitShaped
import Derived.Shelf.Unicode.Decode
import Derived.Shelf.Strings.Runes
import Derived.Shelf.Strings.RuneCount
import Derived.Shelf.Strings.IndexAny
import Derived.Shelf.Strings.AsciiSet
import Derived.Shelf.Strings.IndexAnyAll
import Derived.Shelf.Strings.Explode
import Derived.Shelf.Bits.Mul64
import Derived.Shelf.Strings.Repeat
import Derived.Shelf.Unicode.DecodeSlow
import Derived.Shelf.Unicode.DecodeAny
import Derived.Shelf.Unicode.DecodeLast
import Derived.Shelf.Slices.Equal
import Derived.Shelf.Slices.CompactS
import Derived.Shelf.Slices.Cells
import Derived.Shelf.Slices.In.SortNone
import Derived.Shelf.Slices.Empties2
import Derived.Ground.SlbCloneProg
import Derived.Shelf.Bytes.SlClone
import Derived.Test.YtcmjpkfinbakkaaGreatDoorProg
import Derived.RangeFuncNested
import Derived.RangeFuncBound
import Derived.RangeFuncCalls
import Derived.RangeFuncLeaves
import Derived.RangeFuncBox
import Derived.Shelf.Abstract
import Derived.Shelf.RegionOpen
import Derived.OwnWalkIn
import Derived.TacticsInMore
import Derived.LoopNIn
import Derived.LoopIn
import Derived.Maps.AppendAt
namespace Go.Proofs.YtcmjpkfinbakkaaGreatDoor.Vf
set_option maxRecDepth 100000
open Go.RowKit

theorem joined_cons (a : Bs) (L : List Bs) : (joined (a :: L)).length = a.length + 1 + (joined L).length := by
  simp [joined]
  omega
theorem joined_app (L M : List Bs) : (joined (L ++ M)).length = (joined L).length + (joined M).length := by
  simp [joined]
theorem joined_sp : ∀ a : Bs, (joined (sp a)).length = a.length + 1
  | [] => by simp [sp, joined]
  | c :: t => by
    have h := joined_sp t
    rw [sp]
    split
    · rw [joined_cons, h]; simp; omega
    · split
      · rename_i e
        rw [e] at h
        simp [joined] at h
      · rename_i a r e
        rw [e, joined_cons] at h
        rw [joined_cons]
        simp only [List.length_cons]
        omega
theorem joined_drop (l : List Bs) : (joined l.dropLast).length ≤ (joined l).length := by
  rw [List.dropLast_eq_take]; exact joined_len l _
theorem joined_push (l : List Bs) (s : Bs) : (joined (push l s)).length ≤ (joined l).length + (s.length + 1) := by
  unfold push
  split
  · omega
  · split
    · have := joined_drop l; omega
    · rw [joined_app, joined_cons]; simp [joined]
theorem joined_fold (P : List Bs) : ∀ l : List Bs, (joined (P.foldl push l)).length ≤ (joined l).length + (joined P).length := by
  induction P with
  | nil => intro l; simp
  | cons a P ih =>
    intro l
    have h1 := ih (push l a)
    have h2 := joined_push l a
    rw [List.foldl_cons, joined_cons]
    omega
theorem parts_joined (cwd p : ByteArray) : (joined (parts cwd p)).length ≤ cwd.size + p.size + 2 := by
  have h1 := joined_fold (sp p.data.toList) (if 0 < p.size ∧ gb p 0 = 47 then [] else (sp cwd.data.toList).foldl push [])
  have h2 := joined_fold (sp cwd.data.toList) []
  have l1 : p.data.toList.length = p.size := Array.length_toList
  have l2 : cwd.data.toList.length = cwd.size := Array.length_toList
  rw [joined_sp] at h1 h2
  unfold parts
  split at h1 <;> rename_i hc
  · rw [if_pos hc]; simp [joined] at h1 h2 ⊢; omega
  · rw [if_neg hc]; simp [joined] at h1 h2 ⊢; omega
theorem parts_len (cwd p : ByteArray) : (parts cwd p).length ≤ cwd.size + p.size + 2 := by
  have h := parts_joined cwd p
  have : ∀ L : List Bs, L.length ≤ (joined L).length := fun L => by
    induction L with
    | nil => simp
    | cons a L ih => rw [joined_cons, List.length_cons]; omega
  have := this (parts cwd p)
  omega

end Go.Proofs.YtcmjpkfinbakkaaGreatDoor.Vf

namespace Go.Proofs.YtcmjpkfinbakkaaGreatDoor.Vf
set_option maxRecDepth 100000
open Go.RowKit

/-- Where a byte is first. -/
def at_ (s : ByteArray) (c : UInt8) : Nat → Nat → Int
  | 0, _ => -1
  | n + 1, k => if k < s.size then (if gb s k = c then (k : Int) else at_ s c n (k + 1)) else -1

end Go.Proofs.YtcmjpkfinbakkaaGreatDoor.Vf

namespace Go.Proofs.YtcmjpkfinbakkaaGreatDoor.Vf
set_option maxRecDepth 100000
open Go.RowKit

def StrsL (w : World) (a : Option Addr) (L : List Bs) : Prop := 0 < L.length → ∃ g off, a = some ⟨g, off, none⟩ ∧ g < w.heap.size ∧ ∀ i (h : i < L.length), w.cell? ⟨g, off + i, none⟩ = some (encStr L[i])
theorem strs_own {w : World} {B : Nat} {a : Option Addr} {c : Nat} {L : List Bs} (h : w.ownsRow B 9 1 (.slice a L.length c) L.length (L.map encStr)) : StrsL w a L := fun hn => by
  obtain ⟨g, c', ea, _, hg⟩ := h.form hn
  injection ea with e1 _ _
  subst e1
  refine ⟨g, 0, rfl, hg, fun i hi => ?_⟩
  have := World.ownsRow.cellAt (g := g) (by simpa using h) i (by omega)
  rw [Nat.zero_add, this]
  simp [hi]

theorem draws (w : World) (m q : Nat) : (w.drewN m).drewN q = w.drewN (m + q) := by simp [World.drewN, Nat.add_assoc]

set_option maxRecDepth 100000 in
set_option maxHeartbeats 4000000 in
theorem Same_any (A A' : Option Addr) (L M : List Bs) (c c' : Nat) (w : World) (hn : L.length ≤ 4000000) (hS : StrsL w A L) (hS' : StrsL w A' M) (v : Bool) (hv : Hid (v = true ↔ L = M)) :
    Calls Tryz.prog 19 #[.slice A L.length c, .slice A' M.length c'] w fun e w' => e = .returned (.bool v) ∧ ∃ m, w' = w.drewN m := by
  have HS := Lib.hid hS
  have HS' := Lib.hid hS'
  clear hS hS'
  by_cases hlen : L.length = M.length
  · obtain ⟨n, hln⟩ : ∃ n, L.length = n := ⟨_, rfl⟩
    have hln' : M.length = n := hlen.symm.trans hln
    rw [hln] at hn
    rw [hln, hln']
    have HLN := Lib.hid hln
    have HLN' := Lib.hid hln'
    clear hln hln' hlen
    go_enter Tryz.func19, Tryz.ntmps19
    go_wp2_with fail
    go_loopw [5] (fun i wr => ∃ (k m : Nat), i = .int .i64 k ∧ k ≤ n ∧ wr = w.drewN m ∧ Hid (L.take k = M.take k)) (fun i _ => n - (intOf i).toNat)
    case atStart => exact ⟨0, 0, rfl, by omega, rfl, rfl⟩
    case round =>
      obtain ⟨k, m, rfl, hk, rfl, HK⟩ := hrel
      by_cases hlt : k < n
      · have hltL : k < L.length := by rw [HLN.out]; exact hlt
        have hltM : k < M.length := by rw [HLN'.out]; exact hlt
        obtain ⟨g, off, rfl, _, hc⟩ := HS.out (by omega)
        obtain ⟨g', off', rfl, _, hc'⟩ := HS'.out (by omega)
        have hck := hc k hltL
        have hck' := hc' k hltM
        clear hc hc'
        have hadd : (⟨g, off, none⟩ : Addr).add k = ⟨g, off + k, none⟩ := by unfold Addr.add; by_cases h : k = 0 <;> simp [h]
        have hadd' : (⟨g', off', none⟩ : Addr).add k = ⟨g', off' + k, none⟩ := by unfold Addr.add; by_cases h : k = 0 <;> simp [h]
        have b1 : (k : Int) < (n : Int) := by omega
        have b2 : (0 : Int) ≤ (k : Int) := by omega
        have HTL : Hid (L.take (k + 1) = L.take k ++ [L[k]]) := by rw [Hid, List.take_add_one, List.getElem?_eq_getElem hltL]; rfl
        have HTM : Hid (M.take (k + 1) = M.take k ++ [M[k]]) := by rw [Hid, List.take_add_one, List.getElem?_eq_getElem hltM]; rfl
        by_cases hxy : L[k] = M[k]
        · have HN : Hid (L.take (k + 1) = M.take (k + 1)) := by rw [Hid, HTL.out, HTM.out, HK.out, hxy]
          rw [hxy] at hck
          obtain ⟨x, hx⟩ : ∃ x : ByteArray, ⟨M[k].toArray⟩ = x := ⟨_, rfl⟩
          rw [show encStr M[k] = .string ⟨M[k].toArray⟩ from rfl, hx] at hck hck'
          clear hx hxy HTL HTM
          go_wp2_with fail
          go_quiet (fail)
          go_wp2_with fail
          exact ⟨⟨k + 1, _, rfl, by omega, rfl, HN.out⟩, by simp [intOf]; omega⟩
        · have HV : Hid (v = false) := by
            rw [Hid, Bool.eq_false_iff]
            intro h
            have e := hv.out.1 h
            subst e
            exact hxy rfl
          obtain ⟨x, hx⟩ : ∃ x : ByteArray, ⟨L[k].toArray⟩ = x := ⟨_, rfl⟩
          obtain ⟨y, hy⟩ : ∃ y : ByteArray, ⟨M[k].toArray⟩ = y := ⟨_, rfl⟩
          rw [show encStr L[k] = .string ⟨L[k].toArray⟩ from rfl, hx] at hck
          rw [show encStr M[k] = .string ⟨M[k].toArray⟩ from rfl, hy] at hck'
          have hne : (x.toList == y.toList) = false := by
            rw [beq_eq_false_iff_ne, Lib.toList_data, Lib.toList_data, ← hx, ← hy]
            exact hxy
          clear hx hy hxy HTL HTM
          go_wp2_with fail
          go_quiet (fail)
          go_wp2_with fail
          go_ret
          exact ⟨by rw [HV.out]; rfl, _, draws _ _ _⟩
      · have b1 : ¬ (k : Int) < (n : Int) := by omega
        have HV : Hid (v = true) := by
          rw [Hid, hv.out]
          have h := HK.out
          have h1 := HLN.out
          have h2 := HLN'.out
          rwa [List.take_of_length_le (by omega), List.take_of_length_le (by omega)] at h
        go_wp2_with fail
        go_ret
        exact ⟨by rw [HV.out]; rfl, _, rfl⟩
  · have HV : Hid (v = false) := by
      rw [Hid, Bool.eq_false_iff]
      intro h
      exact hlen (by rw [hv.out.1 h])
    have hne : ((L.length : Int) != (M.length : Int)) = true := by rw [bne_iff_ne]; omega
    clear hlen
    go_enter Tryz.func19, Tryz.ntmps19
    go_wp2_with fail
    go_ret
    exact ⟨by rw [HV.out]; rfl, 0, rfl⟩
end Go.Proofs.YtcmjpkfinbakkaaGreatDoor.Vf

namespace Go.Proofs.YtcmjpkfinbakkaaGreatDoor.Vf
set_option maxRecDepth 100000
open Go.RowKit

theorem elemS : Tryz.prog.elem 22 = 9 := by kernel_rfl
theorem slice_from (g off n c k : Nat) (hk : k ≤ n) :
    ∃ off', (k < c → off' = off + k) ∧ ∀ w, (Instr.slice 22 (.slice (some ⟨g, off, none⟩) n c) (some (.int .i64 k)) none none).run Tryz.prog w = .ok (.slice (some ⟨g, off', none⟩) (n - k) (c - k)) w := by
  refine ⟨if c = k then off else off + k, fun h => by rw [if_neg (by omega)], fun w => ?_⟩
  rw [run_slice_l (P := Tryz.prog) (w := w) 22 (some ⟨g, off, none⟩) n c (by rw [elemS]; exact Tryz.underlying22) .i64 (k : Int) (by omega) (by omega), elemS, Tryz.sizeOf9]
  simp only [Result.andThen, sliced, Int.toNat_natCast]
  by_cases h : c = k
  · simp [h]
  · simp [h, Addr.add]
theorem slice_to (g off n c k : Nat) (hk : k ≤ c) :
    ∀ w, (Instr.slice 22 (.slice (some ⟨g, off, none⟩) n c) none (some (.int .i64 k)) none).run Tryz.prog w = .ok (.slice (some ⟨g, off, none⟩) k c) w := by
  intro w
  rw [run_slice_h (P := Tryz.prog) (w := w) 22 (some ⟨g, off, none⟩) n c (by rw [elemS]; exact Tryz.underlying22) .i64 (k : Int) (by omega) (by omega), elemS, Tryz.sizeOf9]
  simp [Result.andThen, sliced, Addr.add]
theorem slice_nil_from : ∀ w, (Instr.slice 22 (.slice none 0 0) (some (.int .i64 0)) none none).run Tryz.prog w = .ok (.slice none 0 0) w := by
  intro w
  have := run_slice_l (P := Tryz.prog) (w := w) 22 none 0 0 (by rw [elemS]; exact Tryz.underlying22) .i64 0 (by omega) (by omega)
  rw [this, elemS, Tryz.sizeOf9]
  simp [Result.andThen, sliced]
theorem slice_nil_to : ∀ w, (Instr.slice 22 (.slice none 0 0) none (some (.int .i64 0)) none).run Tryz.prog w = .ok (.slice none 0 0) w := by
  intro w
  have := run_slice_h (P := Tryz.prog) (w := w) 22 none 0 0 (by rw [elemS]; exact Tryz.underlying22) .i64 0 (by omega) (by omega)
  rw [this, elemS, Tryz.sizeOf9]
  simp [Result.andThen, sliced]

/-- The texts L lie behind the slice v. -/
def SlS (w : World) (v : Value) (L : List Bs) : Prop :=
  (v = .slice none 0 0 ∧ L = []) ∨ ∃ g off c, v = .slice (some ⟨g, off, none⟩) L.length c ∧ L.length ≤ c ∧ c ≤ 9223372036854775807 ∧ g < w.heap.size ∧ ∀ i (h : i < L.length), w.cell? ⟨g, off + i, none⟩ = some (encStr L[i])
theorem SlS.below {w w' : World} {v : Value} {L : List Bs} (h : SlS w v L) (hb : Below w.heap.size w w') : SlS w' v L := by
  rcases h with h | ⟨g, off, c, h1, h2, h3, h4, h5⟩
  · exact .inl h
  · exact .inr ⟨g, off, c, h1, h2, h3, Nat.lt_of_lt_of_le h4 hb.size, fun i hi => by rw [hb.cell (p := ⟨g, off + i, none⟩) h4]; exact h5 i hi⟩
theorem SlS.own {w : World} {B : Nat} {v : Value} {L : List Bs} (h : w.ownsRow B 9 1 v L.length (L.map encStr)) : SlS w v L := by
  rcases h.2 with ⟨h1, h2⟩ | ⟨g, c, cur, h1, _, hg, h2, h3, h4⟩
  · exact .inl ⟨h1, List.length_eq_zero_iff.1 h2⟩
  · refine .inr ⟨g, 0, c, h1, h2, h3, (Array.getElem?_eq_some_iff.1 hg).1, fun i hi => ?_⟩
    rw [h1] at h
    have := World.ownsRow.cellAt h i (by omega)
    rw [Nat.zero_add, this]
    simp [hi]
theorem SlS.len {w : World} {v : Value} {L : List Bs} (h : SlS w v L) : ∃ a c, v = .slice a L.length c := by
  rcases h with ⟨h, rfl⟩ | ⟨g, off, c, h, _⟩
  · exact ⟨_, _, h⟩
  · exact ⟨_, _, h⟩
theorem gb_below {w w' : World} (h : Below w.heap.size w w') : w.grownBy w' none := ⟨h.os, h.tape, h.output, h.size, fun k hk _ => h.block k hk⟩
theorem own_em (v : Value) : v.ownBlock = none ∨ v.ownBlock ≠ none := Classical.em _
theorem addN1 (g i : Nat) : (⟨g, 0, none⟩ : Addr).add i = ⟨g, i, none⟩ := by unfold Addr.add; by_cases h : i = 0 <;> simp [h]
theorem btrans {a b c : World} (h1 : Below a.heap.size a b) (h2 : Below b.heap.size b c) : Below a.heap.size a c := h1.trans (h2.mono h1.size)
/-- The list that was, or a row of the call's own. -/
def SlN (w0 w : World) (v0 v : Value) (L0 L : List Bs) : Prop := (v = v0 ∧ L = L0) ∨ w.ownsRow w0.heap.size 9 1 v L.length (L.map encStr)
theorem SlN.own {w0 w : World} {v0 v : Value} {L0 L : List Bs} {B : Nat} (h : w.ownsRow B 9 1 v L.length (L.map encStr)) (hB : w0.heap.size ≤ B) : SlN w0 w v0 v L0 L := by
  refine .inr ⟨h.1, ?_⟩
  rcases h.2 with hn | ⟨g, cap, cur, e, h1, r⟩
  · exact .inl hn
  · exact .inr ⟨g, cap, cur, e, Nat.le_trans hB h1, r⟩
end Go.Proofs.YtcmjpkfinbakkaaGreatDoor.Vf

namespace Go.Proofs.YtcmjpkfinbakkaaGreatDoor.Vf
set_option maxRecDepth 100000
open Go.RowKit

theorem slice_some (g n c k : Nat) (hk : k ≤ c) :
    ∀ w, (Instr.slice 22 (.slice (some ⟨g, 0, none⟩) n c) none (some (.int .i64 k)) none).run Tryz.prog w = .ok (.slice (some ⟨g, 0, none⟩) k c) w := by
  intro w
  rw [run_slice_h (P := Tryz.prog) (w := w) 22 (some ⟨g, 0, none⟩) n c (by rw [elem30]; exact Tryz.underlying22) .i64 (k : Int) (by omega) (by omega), elem30, Tryz.sizeOf9]
  simp [Result.andThen, sliced, Addr.add]
theorem slice_nil : ∀ w, (Instr.slice 22 (.slice none 0 0) none (some (.int .i64 0)) none).run Tryz.prog w = .ok (.slice none 0 0) w := by
  intro w
  rw [run_slice_h (P := Tryz.prog) (w := w) 22 none 0 0 (by rw [elem30]; exact Tryz.underlying22) .i64 0 (by omega) (by omega), elem30, Tryz.sizeOf9]
  simp [Result.andThen, sliced]
/-- A row cut at its front: the slice and what it holds. -/
theorem own_cut {w : World} {B c : Nat} {A : Option Addr} {L : List Bs} {k : Nat} (h : w.ownsRow B 9 1 (.slice A L.length c) L.length (L.map encStr)) (hk : k ≤ L.length) :
    (∀ w', (Instr.slice 22 (.slice A L.length c) none (some (.int .i64 k)) none).run Tryz.prog w' = .ok (.slice A k c) w') ∧ StrsL w A (L.take k) := by
  have hs := strs_own h
  refine ⟨?_, fun hn => ?_⟩
  · rcases h.2 with ⟨h1, h0⟩ | ⟨g, c', cur, hv, _, _, h1, _⟩
    · injection h1 with e1 _ e3
      subst e1
      subst e3
      have : k = 0 := by omega
      subst this
      rw [h0]
      exact slice_nil
    · injection hv with e1 _ e3
      subst e1
      exact slice_some g L.length c k (by omega)
  · obtain ⟨g, off, e, hg, hc⟩ := hs (by rw [List.length_take] at hn; omega)
    refine ⟨g, off, e, hg, fun i hi => ?_⟩
    rw [List.length_take] at hi
    rw [hc i (by omega), List.getElem_take]

end Go.Proofs.YtcmjpkfinbakkaaGreatDoor.Vf

namespace Go.Proofs.YtcmjpkfinbakkaaGreatDoor.Vf
set_option maxRecDepth 100000
open Go.RowKit

def abs_ (cwd p : ByteArray) : Bs × Int :=
  if p.size = 0 ∨ 0 ≤ at_ p 0 (p.size + 1) 0 ∨ 0 ≤ at_ cwd 0 (cwd.size + 1) 0 then ([], 1)
  else if ∃ x ∈ parts cwd p, 60 < x.length then ([], 3)
  else if 20 < (parts cwd p).length ∨ 200 < (written (parts cwd p)).length then ([], 3)
  else (written (parts cwd p), 0)

end Go.Proofs.YtcmjpkfinbakkaaGreatDoor.Vf

namespace Go.Proofs.YtcmjpkfinbakkaaGreatDoor.Vf
set_option maxRecDepth 100000
open Go.RowKit

/-! The laws of names, strokes and pushes. -/
def Good (L : List Bs) : Prop := ∀ x ∈ L, x ≠ [] ∧ x ≠ [46] ∧ x ≠ [46, 46] ∧ ∀ c ∈ x, c ≠ 47
theorem good_nil : Good [] := fun x h => by simp at h
theorem good_sub {L M : List Bs} (h : Good M) (hs : ∀ x ∈ L, x ∈ M) : Good L := fun x hx => h x (hs x hx)
theorem good_last {L : List Bs} (h : Good L) : Good L.dropLast := good_sub h fun _ hx => List.dropLast_subset _ hx
theorem sp_no : ∀ (a : Bs) (x : Bs), x ∈ sp a → ∀ c ∈ x, c ≠ 47
  | [], x, h => by simp [sp] at h; subst h; simp
  | d :: t, x, h => by
    have ih := sp_no t
    rw [sp] at h
    split at h
    · rcases List.mem_cons.1 h with rfl | h
      · simp
      · exact ih x h
    · rename_i hd
      split at h
      · simp at h; subst h; simpa using hd
      · rename_i a r e
        rw [e] at ih
        rcases List.mem_cons.1 h with rfl | h
        · intro c hc
          rcases List.mem_cons.1 hc with rfl | hc
          · exact hd
          · exact ih a (by simp) c hc
        · exact ih x (by simp [h])
theorem sp_app : ∀ (a t : Bs), sp (a ++ 47 :: t) = sp a ++ sp t
  | [], t => by simp [sp]
  | c :: a, t => by
    have ih := sp_app a t
    rw [List.cons_append, sp]
    by_cases hc : c = 47
    · rw [if_pos hc, ih, sp, if_pos hc]; rfl
    · rw [if_neg hc, ih, sp, if_neg hc]
      cases h : sp a with
      | nil => cases a with
        | nil => simp [sp] at h
        | cons d r =>
          rw [sp] at h
          split at h
          · simp at h
          · split at h <;> simp at h
      | cons b r => rfl
theorem push_good {l : List Bs} {s : Bs} (h : Good l) (hs : ∀ c ∈ s, c ≠ 47) : Good (push l s) := by
  unfold push
  split
  · exact h
  · rename_i h1
    split
    · exact good_last h
    · rename_i h2
      intro x hx
      rcases List.mem_append.1 hx with hx | hx
      · exact h x hx
      · simp at hx; subst hx
        exact ⟨fun e => h1 (.inl e), fun e => h1 (.inr e), h2, hs⟩
theorem fold_good : ∀ (P : List Bs) {l : List Bs}, Good l → (∀ x ∈ P, ∀ c ∈ x, c ≠ 47) → Good (P.foldl push l)
  | [], _, h, _ => h
  | a :: P, _, h, hp => fold_good P (push_good h (hp a (by simp))) fun x hx => hp x (by simp [hx])
theorem parts_good (cwd p : ByteArray) : Good (parts cwd p) := by
  unfold parts
  refine fold_good _ ?_ (sp_no _)
  split
  · exact good_nil
  · exact fold_good _ good_nil (sp_no _)
theorem push_of {l : List Bs} {s : Bs} (h : s ≠ [] ∧ s ≠ [46] ∧ s ≠ [46, 46] ∧ ∀ c ∈ s, c ≠ 47) : push l s = l ++ [s] := by
  unfold push
  rw [if_neg (by rintro (e | e); exact h.1 e; exact h.2.1 e), if_neg h.2.2.1]
theorem fold_id : ∀ (L l : List Bs), Good L → L.foldl push l = l ++ L
  | [], l, _ => by simp
  | a :: L, l, h => by
    rw [List.foldl_cons, push_of (h a (by simp)), fold_id L _ (fun x hx => h x (by simp [hx]))]
    simp
theorem sp_joined : ∀ (L : List Bs), Good L → sp (joined L) = [] :: L
  | [], _ => rfl
  | a :: L, h => by
    have ih := sp_joined L (fun x hx => h x (by simp [hx]))
    have ha := (h a (by simp)).2.2.2
    rw [show joined (a :: L) = [] ++ 47 :: (a ++ joined L) by simp [joined], sp_app]
    cases L with
    | nil => rw [show joined ([] : List Bs) = [] from rfl, List.append_nil, sp_all a ha]; rfl
    | cons b M =>
      rw [show joined (b :: M) = 47 :: (b ++ joined M) by simp [joined]] at ih ⊢
      rw [show sp (47 :: (b ++ joined M)) = [] :: sp (b ++ joined M) by simp [sp]] at ih
      injection ih with _ ih
      rw [sp_cut _ _ ha, ih]; rfl
theorem push_nil (l : List Bs) : push l [] = l := by simp [push]
theorem fold_written (L : List Bs) (h : Good L) : (sp (written L)).foldl push [] = L := by
  unfold written
  split
  · rename_i e; subst e; rfl
  · rw [sp_joined L h, List.foldl_cons, push_nil, fold_id L _ h, List.nil_append]

/-- A list's bytes as a string. -/
def bs (l : Bs) : ByteArray := ⟨l.toArray⟩
theorem bs_list (l : Bs) : (bs l).data.toList = l := rfl
theorem bs_size (l : Bs) : (bs l).size = l.length := rfl
theorem bs_of (s : ByteArray) : bs s.data.toList = s := rfl
/-- Does a path begin with a stroke. -/
def rooted (a : Bs) : Prop := a.head? = some 47
instance (a : Bs) : Decidable (rooted a) := by unfold rooted; infer_instance
theorem rooted_iff (p : ByteArray) : (0 < p.size ∧ gb p 0 = 47) ↔ rooted p.data.toList := by
  have hl : p.data.toList.length = p.size := Array.length_toList
  unfold rooted gb
  cases h : p.data.toList with
  | nil => rw [h] at hl; simp at hl; simp [← hl]
  | cons a t => rw [h] at hl; simp at hl; simp; omega
def partsL (c p : Bs) : List Bs := (sp p).foldl push (if rooted p then [] else (sp c).foldl push [])
theorem parts_eq (cwd p : ByteArray) : parts cwd p = partsL cwd.data.toList p.data.toList := by
  unfold parts partsL
  simp only [rooted_iff]
theorem partsL_good (c p : Bs) : Good (partsL c p) := by
  rw [← bs_list c, ← bs_list p, ← parts_eq]; exact parts_good _ _
theorem rooted_written (L : List Bs) : rooted (written L) := by
  unfold rooted written
  split
  · rfl
  · cases L with
    | nil => contradiction
    | cons a l => simp [joined]
theorem partsL_written (c : Bs) {L : List Bs} (h : Good L) : partsL c (written L) = L := by
  unfold partsL
  rw [if_pos (rooted_written L), fold_written L h]
theorem rooted_app {p : Bs} (hp : p ≠ []) (t : Bs) : rooted (p ++ t) ↔ rooted p := by
  cases p with
  | nil => exact absurd rfl hp
  | cons a l => simp [rooted]
/-- Further names behind a path. -/
theorem partsL_app {p : Bs} (hp : p ≠ []) (c t : Bs) : partsL c (p ++ 47 :: t) = (sp t).foldl push (partsL c p) := by
  unfold partsL
  rw [sp_app, List.foldl_append]
  simp only [rooted_app hp]
theorem partsL_one {q : Bs} (hq : ¬ rooted q) {L : List Bs} (h : Good L) : partsL (written L) q = (sp q).foldl push L := by
  unfold partsL
  rw [if_neg hq, fold_written L h]
theorem steps_law {c p q : Bs} (hp : p ≠ []) (hq : ¬ rooted q) : partsL (written (partsL c p)) q = partsL c (p ++ 47 :: q) := by
  rw [partsL_one hq (partsL_good c p), partsL_app hp]
theorem dots_more {c p n : Bs} (hp : p ≠ []) (hn : n ≠ [] ∧ n ≠ [46] ∧ n ≠ [46, 46] ∧ ∀ x ∈ n, x ≠ 47) : partsL c (p ++ 47 :: n) = partsL c p ++ [n] := by
  rw [partsL_app hp, sp_all n hn.2.2.2, List.foldl_cons, push_of hn]; rfl
theorem dots_one {c p : Bs} (hp : p ≠ []) : partsL c (p ++ [47, 46, 47]) = partsL c p := by
  rw [show p ++ [47, 46, 47] = p ++ 47 :: [46, 47] from rfl, partsL_app hp]
  rfl
theorem dots_two {c p n : Bs} (hp : p ≠ []) (hn : n ≠ [] ∧ n ≠ [46] ∧ n ≠ [46, 46] ∧ ∀ x ∈ n, x ≠ 47) : partsL c (p ++ [47, 47] ++ n ++ [47, 46, 46]) = partsL c p := by
  rw [show p ++ [47, 47] ++ n ++ [47, 46, 46] = p ++ 47 :: (47 :: (n ++ 47 :: [46, 46])) by simp, partsL_app hp]
  rw [show sp (47 :: (n ++ 47 :: [46, 46])) = [] :: sp (n ++ 47 :: [46, 46]) by simp [sp], sp_cut n _ hn.2.2.2, List.foldl_cons, push_nil, List.foldl_cons, push_of hn]
  simp [sp, push]

/-- Every byte of a path's names is one of the two texts'. -/
theorem push_mem {l : List Bs} {s x : Bs} (h : x ∈ push l s) : x ∈ l ∨ x = s := by
  unfold push at h
  split at h
  · exact .inl h
  · split at h
    · exact .inl (List.dropLast_subset _ h)
    · simpa using h
theorem fold_mem : ∀ (P l : List Bs) (x : Bs), x ∈ P.foldl push l → x ∈ l ∨ x ∈ P
  | [], _, _, h => .inl h
  | a :: P, l, x, h => by
    rcases fold_mem P _ x h with h | h
    · rcases push_mem h with h | h
      · exact .inl h
      · exact .inr (by simp [h])
    · exact .inr (by simp [h])
theorem sp_mem : ∀ (a x : Bs), x ∈ sp a → ∀ c ∈ x, c ∈ a
  | [], x, h => by simp [sp] at h; subst h; simp
  | d :: t, x, h => by
    have ih := sp_mem t
    rw [sp] at h
    split at h
    · rcases List.mem_cons.1 h with rfl | h
      · simp
      · intro c hc; exact List.mem_cons_of_mem _ (ih x h c hc)
    · split at h
      · simp at h; subst h; simp
      · rename_i a r e
        rw [e] at ih
        rcases List.mem_cons.1 h with rfl | h
        · intro c hc
          rcases List.mem_cons.1 hc with rfl | hc
          · simp
          · exact List.mem_cons_of_mem _ (ih a (by simp) c hc)
        · intro c hc; exact List.mem_cons_of_mem _ (ih x (by simp [h]) c hc)
theorem partsL_bytes {c p x : Bs} (h : x ∈ partsL c p) : ∀ b ∈ x, b ∈ c ∨ b ∈ p := by
  intro b hb
  unfold partsL at h
  rcases fold_mem _ _ _ h with h | h
  · split at h
    · simp at h
    · rcases fold_mem _ _ _ h with h | h
      · simp at h
      · exact .inl (sp_mem _ _ h b hb)
  · exact .inr (sp_mem _ _ h b hb)
theorem written_bytes {L : List Bs} {b : UInt8} (h : b ∈ written L) : b = 47 ∨ ∃ x ∈ L, b ∈ x := by
  unfold written at h
  split at h
  · simp at h; exact .inl h
  · unfold joined at h
    rw [List.mem_flatMap] at h
    obtain ⟨x, hx, hb⟩ := h
    rcases List.mem_cons.1 hb with h | h
    · exact .inl h
    · exact .inr ⟨x, hx, h⟩
end Go.Proofs.YtcmjpkfinbakkaaGreatDoor.Vf

namespace Go.Proofs
open Go.Shelf
def Tryz.lays103_ren : Go.Shelf.Ren := ⟨fun | 103 => 156 | 210 => 207 | 206 => 86 | n => n, fun | 9 => 9 | 4 => 4 | 24 => 82 | 3 => 3 | n => n, fun | n => n⟩
theorem Tryz.lays103 : Go.Proofs.Lays.n103 Tryz.prog Tryz.lays103_ren := {
  mixed := by kernel_rfl
  f103 := Tryz.func156.trans (congrArg some (by kernel_rfl))
  f206 := Tryz.func86.trans (congrArg some (by kernel_rfl))
  f210 := Tryz.func207.trans (congrArg some (by kernel_rfl))
  t3 := Tryz.underlying3
  a3 := Tryz.isAgg3
  z3 := Tryz.sizeOf3
  v3 := Tryz.zeroValue3
  t4 := Tryz.underlying4
  a4 := Tryz.isAgg4
  z4 := Tryz.sizeOf4
  v4 := Tryz.zeroValue4
  t9 := Tryz.underlying9
  a9 := Tryz.isAgg9
  z9 := Tryz.sizeOf9
  v9 := Tryz.zeroValue9
  t24 := Tryz.underlying82
  a24 := Tryz.isAgg82
  z24 := Tryz.sizeOf82
  v24 := Tryz.zeroValue82 }
open Go.RowKit in
theorem Tryz.strings_CutPrefix (s p : ByteArray) (w : World) :
    Calls Tryz.prog 156 #[.string s, .string p] w fun e w' => e = .returned (.tuple #[.string ⟨(Lib.trimPrefix s.data.toList p.data.toList).toArray⟩, .bool (Lib.hasPrefix s.data.toList p.data.toList)]) ∧ w' = w := Any.strings_CutPrefix Tryz.lays103 s p w
def Tryz.lays143_ren : Go.Shelf.Ren := ⟨fun | 143 => 130 | 219 => 186 | 217 => 221 | 225 => 179 | 224 => 178 | 267 => 232 | 266 => 261 | 314 => 266 | n => n, fun | 9 => 9 | 3 => 3 | 4 => 4 | 5 => 5 | 46 => 108 | 146 => 264 | 51 => 178 | n => n, fun | 1 => 1 | n => n⟩
theorem Tryz.lays143 : Go.Proofs.Lays.n143 Tryz.prog Tryz.lays143_ren := {
  mixed := by kernel_rfl
  f143 := Tryz.func130.trans (congrArg some (by kernel_rfl))
  f217 := Tryz.func221.trans (congrArg some (by kernel_rfl))
  f219 := Tryz.func186.trans (congrArg some (by kernel_rfl))
  f224 := Tryz.func178.trans (congrArg some (by kernel_rfl))
  f225 := Tryz.func179.trans (congrArg some (by kernel_rfl))
  f266 := Tryz.func261.trans (congrArg some (by kernel_rfl))
  f267 := Tryz.func232.trans (congrArg some (by kernel_rfl))
  f314 := Tryz.func266.trans (congrArg some (by kernel_rfl))
  t3 := Tryz.underlying3
  a3 := Tryz.isAgg3
  z3 := Tryz.sizeOf3
  v3 := Tryz.zeroValue3
  t4 := Tryz.underlying4
  a4 := Tryz.isAgg4
  z4 := Tryz.sizeOf4
  v4 := Tryz.zeroValue4
  t5 := Tryz.underlying5
  a5 := Tryz.isAgg5
  z5 := Tryz.sizeOf5
  v5 := Tryz.zeroValue5
  t9 := Tryz.underlying9
  a9 := Tryz.isAgg9
  z9 := Tryz.sizeOf9
  v9 := Tryz.zeroValue9
  t46 := Tryz.underlying108
  a46 := Tryz.isAgg108
  z46 := Tryz.sizeOf108
  v46 := Tryz.zeroValue108
  t51 := Tryz.underlying178
  a51 := Tryz.isAgg178
  z51 := Tryz.sizeOf178
  v51 := Tryz.zeroValue178
  t146 := Tryz.underlying264
  a146 := Tryz.isAgg264
  z146 := Tryz.sizeOf264
  v146 := Tryz.zeroValue264
  g1 := by kernel_rfl }
open Go.RowKit Go.Lib in
theorem Tryz.strings_Index_one (s : ByteArray) (c : UInt8) (w : World) :
    Calls Tryz.prog 130 #[.string s, .string ⟨#[c]⟩] w fun e w' => e = .returned (.int .i64 (Lib.indexByte s.data.toList c)) ∧ w' = w := Any.strings_Index_one Tryz.lays143 s c w
def Tryz.lays144_ren : Go.Shelf.Ren := ⟨fun | 144 => 87 | 143 => 130 | 219 => 186 | 217 => 221 | 225 => 179 | 224 => 178 | 267 => 232 | 266 => 261 | 314 => 266 | n => n, fun | 9 => 9 | 4 => 4 | 3 => 3 | 5 => 5 | 46 => 108 | 146 => 264 | 51 => 178 | n => n, fun | 1 => 1 | n => n⟩
theorem Tryz.lays144 : Go.Proofs.Lays.n144 Tryz.prog Tryz.lays144_ren := {
  mixed := by kernel_rfl
  f143 := Tryz.func130.trans (congrArg some (by kernel_rfl))
  f144 := Tryz.func87.trans (congrArg some (by kernel_rfl))
  f217 := Tryz.func221.trans (congrArg some (by kernel_rfl))
  f219 := Tryz.func186.trans (congrArg some (by kernel_rfl))
  f224 := Tryz.func178.trans (congrArg some (by kernel_rfl))
  f225 := Tryz.func179.trans (congrArg some (by kernel_rfl))
  f266 := Tryz.func261.trans (congrArg some (by kernel_rfl))
  f267 := Tryz.func232.trans (congrArg some (by kernel_rfl))
  f314 := Tryz.func266.trans (congrArg some (by kernel_rfl))
  t3 := Tryz.underlying3
  a3 := Tryz.isAgg3
  z3 := Tryz.sizeOf3
  v3 := Tryz.zeroValue3
  t4 := Tryz.underlying4
  a4 := Tryz.isAgg4
  z4 := Tryz.sizeOf4
  v4 := Tryz.zeroValue4
  t5 := Tryz.underlying5
  a5 := Tryz.isAgg5
  z5 := Tryz.sizeOf5
  v5 := Tryz.zeroValue5
  t9 := Tryz.underlying9
  a9 := Tryz.isAgg9
  z9 := Tryz.sizeOf9
  v9 := Tryz.zeroValue9
  t46 := Tryz.underlying108
  a46 := Tryz.isAgg108
  z46 := Tryz.sizeOf108
  v46 := Tryz.zeroValue108
  t51 := Tryz.underlying178
  a51 := Tryz.isAgg178
  z51 := Tryz.sizeOf178
  v51 := Tryz.zeroValue178
  t146 := Tryz.underlying264
  a146 := Tryz.isAgg264
  z146 := Tryz.sizeOf264
  v146 := Tryz.zeroValue264
  g1 := by kernel_rfl }
open Go.RowKit Go.Lib in
theorem Tryz.strings_Contains_one (s : ByteArray) (c : UInt8) (w : World) :
    Calls Tryz.prog 87 #[.string s, .string ⟨#[c]⟩] w fun e w' => e = .returned (.bool (decide (0 ≤ Lib.indexByte s.data.toList c))) ∧ w' = w := Any.strings_Contains_one Tryz.lays144 s c w
def Tryz.lays99_ren : Go.Shelf.Ren := ⟨fun | 99 => 41 | 206 => 86 | n => n, fun | 9 => 9 | 4 => 4 | 3 => 3 | n => n, fun | n => n⟩
theorem Tryz.lays99 : Go.Proofs.Lays.n99 Tryz.prog Tryz.lays99_ren := {
  mixed := by kernel_rfl
  f99 := Tryz.func41.trans (congrArg some (by kernel_rfl))
  f206 := Tryz.func86.trans (congrArg some (by kernel_rfl))
  t3 := Tryz.underlying3
  a3 := Tryz.isAgg3
  z3 := Tryz.sizeOf3
  v3 := Tryz.zeroValue3
  t4 := Tryz.underlying4
  a4 := Tryz.isAgg4
  z4 := Tryz.sizeOf4
  v4 := Tryz.zeroValue4
  t9 := Tryz.underlying9
  a9 := Tryz.isAgg9
  z9 := Tryz.sizeOf9
  v9 := Tryz.zeroValue9 }
open Go.RowKit Go.Lib in
theorem Tryz.strings_HasPrefix (s p : ByteArray) (w : World) :
    Calls Tryz.prog 41 #[.string s, .string p] w fun e w' => e = .returned (.bool (Lib.hasPrefix s.data.toList p.data.toList)) ∧ w' = w := Any.strings_HasPrefix Tryz.lays99 s p w
end Go.Proofs

namespace Go.Proofs.YtcmjpkfinbakkaaGreatDoor.Vf
set_option maxRecDepth 100000
open Go.RowKit Go.Shelf

/-! A range over an iterator that writes cells of its own between two rounds (T), whose loop body ends every round normally. -/
section
variable {F : Fence} {n : Nat} {P : Program}

theorem stepR_scope_s {b : Frame} {a : Act} {k : List Item} {cs : List Frame} {w : World} {c : Code} : step P (lone (b.atR a (.code (.scope c) :: k)) cs w) = .next (lone (b.atR a (.code c :: .inScope c :: k)) cs w) :=
  step_lone_go (by simp [stepG, stepG.exec, Frame.atR])
theorem stepR_inScope_s {b : Frame} {a : Act} {k : List Item} {cs : List Frame} {w : World} {c : Code} : step P (lone (b.atR a (.inScope c :: k)) cs w) = .next (lone (b.atR a k) cs w) :=
  step_lone_go (by simp [stepG, stepG.exec, Frame.atR])
/-- A scope through which the run goes without a goto, under a fence. -/
theorem wpIn_scope_s {c : Code} {Q : Exit → Act → World → Prop} {a : Act} {w : World} (h : c.wpIn F n P (Exit.noGoto Q) a w) : (Code.scope c).wpIn F n P Q a w := by
  intro b k cs hro hb hr
  have h0 : (lone (b.atR a (.code (.scope c) :: k)) cs w).fenced P F := fenced_calm hb hr rfl
  obtain ⟨e, a₁, w₁, hq, harr⟩ := h b (.inScope c :: k) cs hro hb hr
  cases e with
  | normal => exact ⟨.normal, a₁, w₁, hq, .head h0 stepR_scope_s (StepsIn.trans harr (.one (fenced_calm hb hr rfl) stepR_inScope_s))⟩
  | exit id =>
    have hx : exitTo id (.inScope c :: k) = exitTo id k := by simp [exitTo]
    exact ⟨.exit id, a₁, w₁, hq, fun k' hk => .head h0 stepR_scope_s (harr.1 k' (by rw [hx]; exact hk)),
      fun hr' hk => let ⟨k₁, h1, h2⟩ := harr.2 hr' (by rw [hx]; exact hk); ⟨k₁, h1, .head h0 stepR_scope_s h2⟩⟩
  | goto l => exact hq.elim
  | ret => exact ⟨_, a₁, w₁, hq, .of_steps (.one h0 stepR_scope_s) harr⟩
  | panic ch => exact ⟨_, a₁, w₁, hq, .of_steps (.one h0 stepR_scope_s) harr⟩
  | outgrown => exact ⟨_, a₁, w₁, hq, .of_steps (.one h0 stepR_scope_s) harr⟩

/-- How a round's body is left. -/
def roundEnds {α : Type} (B : Nat) (Kp : World → World → Prop) (I : List α → World → Prop) (ys : List α) (W : World) : Exit → Act → World → Prop
  | .normal, _, W' => KeepsFrom B W W' ∧ Kp W W' ∧ I ys W'
  | _, _, _ => False

theorem wpIn_rangeFunc_T {α : Type} {g : Operand} {ps : Array Tmp} {assign body : Code} {Q : Exit → Act → World → Prop} {a : Act} {w : World}
    (hro : F.round = none) (h1 : 1 ≤ n) {gf : Nat} {lb : Array Value} (hg : a.eval g = .func (.func gf) #[] lb) (hFg : F.fn gf) (eg : ∀ args w, (callFunc gf args).run P w = .ok (.enter gf args) w)
    {encs : α → Array Value} {T Kp : World → World → Prop} {xs : List α} (hT : ∀ A C, T A C → KeepsOthers A C)
    (hseq : ∀ (l : Nat) (J : List α → World → Prop) (W : World), Below w.heap.size w W → (∀ s A C, J s A → T A C → J s C) →
      (∀ pre x W1, J pre W1 → pre ++ [x] <+: xs → YieldAt F (n - 1 - 1) P l (encs x) W1 fun e W' => e = .returned (.bool true) ∧ J (pre ++ [x]) W' ∧ Kp W1 W') →
      J [] W → CallsIn F (n - 1) P gf (#[.func (.yield l) #[] #[]] ++ lb) W fun e W' => (∃ v, e = .returned v) ∧ J xs W')
    (hKt : ∀ {A C D : World}, Kp A C → Kp C D → Kp A D) (hKb : ∀ (W : World) (l : Nat) (o : Obj), w.heap.size ≤ l → Kp W (W.putObj l o)) (hps : ∀ x, (encs x).size = ps.size)
    (I : List α → World → Prop) (hI : OwnFrom w.heap.size I) (hIT : ∀ s A C, I s A → T A C → I s C) (h0 : I [] w) (a₁ : α → Act)
    (hassign : ∀ (l : Nat) (x : α) (W : World) (K : Act → World → Prop), K (a₁ x) W →
      assign.wpIn (F.inRound l) (n - 1 - 1) P (Exit.then K (fun _ _ _ => False)) { tmps := (ps.zip (encs x)).foldl (fun t (p, v) => t.setIfInBounds p v) a.tmps, defers := [] } W)
    (hbody : ∀ (l : Nat) (pre : List α) (x : α) (W : World), I pre W → pre ++ [x] <+: xs → body.wpIn (F.inRound l) (n - 1 - 1) P (roundEnds w.heap.size Kp I (pre ++ [x]) W) (a₁ x) W)
    (hdone : ∀ (D : Nat) (W : World), w.heap.size ≤ D → I xs W → W.heap[D]? = some (.deferred (some [])) → Q .normal { a with defers := { target := .collected D, args := #[] } :: a.defers } W) :
    (Code.rangeFunc g ps assign body).wpIn F n P Q a w := by
  refine wpIn_rangeFunc fun fn hfn => ?_
  rw [hro]
  obtain ⟨N, hN⟩ : ∃ N, w.heap.size = N := ⟨_, rfl⟩
  obtain ⟨rc, hrc⟩ : ∃ rc : LoopState → Loop, rc = fun st => { state := st, pending := none, fn, tmps := a.tmps, params := ps, assign, body, defers := N } := ⟨_, rfl⟩
  obtain ⟨V, hV⟩ : ∃ V, (w.alloc (.deferred (some []))).alloc (.loop (rc .ready)) = V := ⟨_, rfl⟩
  have vl : V.heap[N + 1]? = some (.loop (rc .ready)) := by
    rw [← hV, ← hN]
    simpa using World.alloc_heap_new (w.alloc (.deferred (some []))) (.loop (rc .ready))
  have vk : V.heap[N]? = some (.deferred (some [])) := by
    rw [← hV, ← hN]
    exact (Below.heap_alloc _ _ _ (by simp)).trans (World.alloc_heap_new w _)
  have vi : I [] V := by rw [← hV]; exact hI.alloc _ (hI.alloc _ h0)
  have vb : Below w.heap.size w V := by
    rw [← hV]; exact ((Below.refl _ w).alloc (Nat.le_refl _) _).alloc (by simp) _
  refine ⟨N + 1, [{ target := .collected N, args := #[] }], V, { target := .fn (.func gf) lb, args := #[.func (.yield (N + 1)) #[] #[]] }, V, gf,
    #[.func (.yield (N + 1)) #[] #[]] ++ lb, V, ?_, by simp only [resolve, hg]; simp [go_sem], fun f' hf' => by simp [Target.leads] at hf'; subst hf'; exact hFg, by simp [invoke, go_sem, eg], fun _ => h1, ?_⟩
  · rw [← hV, hrc, ← hN]; exact run_enterLoop_outer _ _ _ _ _
  refine (hseq (N + 1) (fun pre W => I pre W ∧ W.heap[N + 1]? = some (.loop (rc .ready)) ∧ W.heap[N]? = some (.deferred (some []))) V vb
    (fun s A C hs ht => ⟨hIT s A C hs.1 ht, (hT A C ht).same _ _ hs.2.1 rfl, (hT A C ht).same _ _ hs.2.2 rfl⟩) ?_ ⟨vi, vl, vk⟩).mono ?_
  · rintro pre x W ⟨hi, hl, hk⟩ hx
    have hlt : N + 1 < W.heap.size := (Array.getElem?_eq_some_iff.1 hl).1
    have hy := run_yield (P := P) (args := encs x) hl (by rw [hrc]; exact hps x)
    rw [hrc] at hy
    refine ⟨fn, _, assign, body, hy, roundIn_of_wpIn hfn (hassign _ x W _ ⟨_, run_beginRound hl (by rw [hrc]), ?_⟩)⟩
    obtain ⟨U, hU⟩ : ∃ U, W.putObj (N + 1) (.loop (rc .busy)) = U := ⟨_, rfl⟩
    have hU' : W.putObj (N + 1) (.loop { rc .ready with state := .busy }) = U := by rw [← hU, hrc]
    have ul : U.heap[N + 1]? = some (.loop (rc .busy)) := by rw [← hU]; exact World.putObj_heap_same hlt
    have uk : U.heap[N]? = some (.deferred (some [])) := by rw [← hU]; exact (World.putObj_heap_other (by omega)).trans hk
    have ui : I pre U := by rw [← hU]; exact hI.putObj _ hi (by omega) hl rfl
    have uw : Kp W U := by rw [← hU]; exact hKb _ _ _ (by omega)
    rw [hU']
    refine wpIn_mono (hbody _ pre x U ui hx) ?_
    intro e a3 X hp
    cases e with
    | normal =>
      obtain ⟨hk3, hkp3, hi3⟩ := hp
      have xl := hk3.same (N + 1) _ (by omega) ul rfl
      have xk := hk3.same N _ (by omega) uk rfl
      have hr := run_endRound (P := P) none xl
      refine ⟨_, _, hr, rfl, ⟨hI.putObj _ hi3 (by omega) xl rfl, ?_, (World.putObj_heap_other (by omega)).trans xk⟩, hKt (hKt uw hkp3) (hKb _ _ _ (by omega))⟩
      rw [World.putObj_heap_same (Array.getElem?_eq_some_iff.1 xl).1, hrc]
      rfl
    | ret => exact hp.elim
    | exit id => exact hp.elim
    | goto t => exact hp.elim
    | panic ch => exact hp.elim
    | outgrown => exact hp.elim
  · rintro e X ⟨⟨v, rfl⟩, hi, hl, hk⟩
    have he := run_endLoop (P := P) hl (by rw [hrc]; simp)
    refine ⟨none, _, by rw [he, hrc], hdone N _ (by omega) (hI.putObj _ hi (by omega) hl rfl) ((World.putObj_heap_other (by omega)).trans hk)⟩
end
end Go.Proofs.YtcmjpkfinbakkaaGreatDoor.Vf
