import Derived.Test.YtcmjpkfinbakkaaGreatDoorWR
import Derived.Test.YtcmjpkfinbakkaaGreatDoorRows
import Derived.WalkKit
import Derived.Lib.Hide
import Derived.Lib.Strings
import Derived.Sort.EncStr
import Derived.Maps.OwnSet
import Derived.Maps.Views
import Derived.OwnWalk
import Derived.Laws.AppendOwn
import Derived.Laws.OwnMore
import Derived.StringKeys
namespace Go.Proofs.YtcmjpkfinbakkaaGreatDoor.Vf.Bg
set_option maxRecDepth 100000
open Go.RowKit Go.Shelf
attribute [local go_sem] Oper.semAt_some

def Keep (b : Nat) (W W' : World) : Prop := ∀ k, b < k → k < b + 4 → W'.heap[k]? = W.heap[k]?
theorem Keep.box {b k t : Nat} {W W' : World} {v : Value} (h : Keep b W W') (hx : Boxed W k t v) (h1 : b < k) (h2 : k < b + 4) : Boxed W' k t v := (h k h1 h2).trans hx
theorem Keep.trans {b : Nat} {A C D : World} (h : Keep b A C) (k : Keep b C D) : Keep b A D := fun i h1 h2 => (k i h1 h2).trans (h i h1 h2)

theorem idx_none : ∀ a : Bs, (∀ c ∈ a, c ≠ 47) → Lib.indexByte a 47 = -1
  | [], _ => rfl
  | c :: t, h => by
    have h1 : (c == 47) = false := by rw [beq_eq_false_iff_ne]; exact h c (by simp)
    have h2 := idx_none t (fun x hx => h x (by simp [hx]))
    unfold Lib.indexByte
    rw [h1, h2]; rfl
theorem idx_some : ∀ (a t : Bs), (∀ c ∈ a, c ≠ 47) → Lib.indexByte (a ++ 47 :: t) 47 = a.length
  | [], t, _ => by simp [Lib.indexByte]
  | c :: a, t, h => by
    have h1 : (c == 47) = false := by rw [beq_eq_false_iff_ne]; exact h c (by simp)
    have h2 := idx_some a t (fun x hx => h x (by simp [hx]))
    have h3 : ((a.length : Int) == -1) = false := by rw [beq_eq_false_iff_ne]; omega
    rw [List.cons_append]
    unfold Lib.indexByte
    rw [h1, h2, h3]
    simp
theorem no_or : ∀ r : Bs, (∀ c ∈ r, c ≠ 47) ∨ ∃ a t, r = a ++ 47 :: t ∧ ∀ c ∈ a, c ≠ 47
  | [] => .inl (by simp)
  | c :: r => by
    by_cases hc : c = 47
    · exact .inr ⟨[], r, by simp [hc], by simp⟩
    · rcases no_or r with h | ⟨a, t, e, h⟩
      · exact .inl (by simpa [hc] using h)
      · exact .inr ⟨c :: a, t, by simp [e], by simpa [hc] using h⟩
theorem ext_bytes {s : ByteArray} {f i : Nat} {l : Bs} (h : seg s f i = l) : s.extract f i = bs l := by
  have h1 := seg_ext s f i
  rw [h, Lib.toList_data] at h1
  exact bytes_eq h1

/-- What is left in the iterator's cell. -/
def left_ (W : World) (b : Nat) : Nat := match W.cell? ⟨b + 1, 0, none⟩ with | some (.string s) => s.size | _ => 0
theorem left_eq {W : World} {b t : Nat} {s : ByteArray} (h : Boxed W (b + 1) t (.string s)) : left_ W b = s.size := by
  unfold left_; rw [h.cell]

set_option maxRecDepth 100000 in
set_option maxHeartbeats 2000000 in
theorem split_in (n : Nat) (hn : 1 ≤ n) (l b : Nat) (J : List Bs → World → Prop) (xs : List Bs)
    (hJ : ∀ s A u, J s A → J s (A.setCell ⟨b + 1, 0, none⟩ u))
    (hY : ∀ pre x W, J pre W → pre ++ [x] <+: xs → YieldAt Fence.wide (n - 1) Tryz.prog l #[encStr x] W fun e W' => e = .returned (.bool true) ∧ J (pre ++ [x]) W' ∧ Keep b W W')
    (p : ByteArray) (hx : sp p.data.toList = xs) (hp : p.size ≤ 3000000) (W : World) (h1 : Boxed W (b + 1) 9 (.string p)) (h2 : Boxed W (b + 2) 9 (.string ⟨#[47]⟩)) (h3 : Boxed W (b + 3) 3 (.int .i64 0)) (h0 : J [] W) :
    CallsIn Fence.wide n Tryz.prog 262 #[.func (.yield l) #[] #[], .pointer (some ⟨b + 2, 0, none⟩), .pointer (some ⟨b + 1, 0, none⟩), .pointer (some ⟨b + 3, 0, none⟩)] W fun e W' => (∃ v, e = .returned v) ∧ J xs W' := by
  have hro : Fence.wide.round = none := rfl
  have H0 : Hid (∃ (s : ByteArray) (pre : List Bs), Boxed W (b + 1) 9 (.string s) ∧ Boxed W (b + 2) 9 (.string ⟨#[47]⟩) ∧ Boxed W (b + 3) 3 (.int .i64 0) ∧ pre ++ sp s.data.toList = xs ∧ J pre W ∧ s.size ≤ 3000000) := ⟨p, [], h1, h2, h3, by simpa using hx, h0, hp⟩
  have hc2 := h2.cell
  clear hx hp h1 h2 h3 h0
  refine callsIn_of_wp Tryz.func262 rfl trivial ?_ hro
  simp only [Tryz.ntmps262, List.size_toArray, List.length_cons, List.length_nil, Nat.reduceAdd, Nat.reduceSub, Array.replicate_succ, Array.replicate_zero, List.push_toArray, List.append_toArray, List.nil_append, List.cons_append]
  gi_wp2
  gi_loopw [7, 8] (fun _ _ wr => Hid (∃ (s : ByteArray) (pre : List Bs), Boxed wr (b + 1) 9 (.string s) ∧ Boxed wr (b + 2) 9 (.string ⟨#[47]⟩) ∧ Boxed wr (b + 3) 3 (.int .i64 0) ∧ pre ++ sp s.data.toList = xs ∧ J pre wr ∧ s.size ≤ 3000000)) (fun _ _ wr => left_ wr b)
  case atStart => exact H0
  case round =>
    obtain ⟨s, pre, b1, b2, b3, hxs, hj, hsz⟩ := hrel.out
    have c1 := b1.cell
    have c2 := b2.cell
    have c3 := b3.cell
    have f1 := b1.frozen
    have HJ := Lib.hid hj
    have HX := Lib.hid hxs
    have hls : s.data.toList.length = s.size := Array.length_toList
    rcases no_or s.data.toList with hno | ⟨a, t, he, hno⟩
    · have hi := idx_none _ hno
      have hpx : pre ++ [s.data.toList] = xs := by rw [← hxs, sp_all _ hno]
      obtain ⟨fn, tmps, assign, body, hy, hR⟩ := hY pre s.data.toList wr hj (by rw [hpx]; exact List.prefix_refl _)
      rw [show encStr s.data.toList = Value.string s from rfl] at hy
      have HR := Lib.hid hR
      have HPX := Lib.hid hpx
      clear hj hxs hrel hR hpx hno hls
      gi_wp2_with (refine ⟨trivial, ?_⟩; gi_at_call 130; refine (callsIn_wide.2 (Tryz.strings_Index_one s 47 _)).mono ?_; rintro e w' ⟨rfl, rfl⟩)
      refine HR.out.mono ?_
      rintro e W3 ⟨rfl, hJ3, hk3⟩
      rw [HPX.out] at hJ3
      gi_wp2
      go_end0
      exact ⟨⟨_, rfl⟩, hJ3⟩
    · have hi := idx_some a t hno
      rw [← he] at hi
      have hsp : pre ++ [a] ++ sp t = xs := by rw [← hxs, he, sp_cut a t hno]; simp
      obtain ⟨k, hk⟩ : ∃ k, a.length = k := ⟨_, rfl⟩
      rw [hk] at hi
      have hsk : k + 1 + t.length = s.size := by rw [← hls, he]; simp; omega
      have e1 : s.extract 0 k = bs a := ext_bytes (by unfold seg; rw [he, ← hk]; simp)
      have e2 : s.extract (k + 1) s.size = bs t := ext_bytes (by unfold seg; rw [List.take_of_length_le (by omega), he, ← hk]; simp)
      obtain ⟨za, hza⟩ : ∃ z, bs a = z := ⟨_, rfl⟩
      obtain ⟨zt, hzt⟩ : ∃ z, bs t = z := ⟨_, rfl⟩
      obtain ⟨fn, tmps, assign, body, hy, hR⟩ := hY pre a wr hj (by rw [← hsp]; exact List.prefix_append _ _)
      rw [show encStr a = Value.string za from congrArg Value.string hza] at hy
      rw [hza] at e1
      rw [hzt] at e2
      have HR := Lib.hid hR
      have HT : Hid (t = zt.data.toList) := by rw [← hzt]; rfl
      have HSP := Lib.hid hsp
      have HB2 := Lib.hid b2
      have HB3 := Lib.hid b3
      have HB1 := Lib.hid b1
      have hztn : t.length = zt.size := by rw [← hzt]; rfl
      have q1 : (0 : Int) ≤ (k : Int) := by omega
      have q2 : (k : Int) ≤ (s.size : Int) := by omega
      have q3 : (k : Int) + 1 ≤ (s.size : Int) := by omega
      have q4 : (0 : Int) ≤ (k : Int) + 1 := by omega
      have q5 : IntKind.i64.wrap ((k : Int) + 1) = (k : Int) + 1 := by rw [IntKind.wrap_i64]; omega
      have q6 : wrap64 ((k : Int) + 1) = (k : Int) + 1 := by unfold wrap64; omega
      have q7 : IntKind.i64.wrap (k : Int) = (k : Int) := by rw [IntKind.wrap_i64]; omega
      have q8 : wrap64 (k : Int) = (k : Int) := by unfold wrap64; omega
      clear hj hxs hrel hR hsp hno hls he hk hza hzt b1 b2 b3
      gi_wp2_with (refine ⟨trivial, ?_⟩; gi_at_call 130; refine (callsIn_wide.2 (Tryz.strings_Index_one s 47 _)).mono ?_; rintro e w' ⟨rfl, rfl⟩)
      refine HR.out.mono ?_
      rintro e W3 ⟨rfl, hJ3, hk3⟩
      have d1 := hk3.box HB1.out (by omega) (by omega)
      have d2 := hk3.box HB2.out (by omega) (by omega)
      have d3 := hk3.box HB3.out (by omega) (by omega)
      have g1 := d1.cell
      have g2 := d2.cell
      have g3 := d3.cell
      have gf := d1.frozen
      have HD1 := Lib.hid d1
      have HD2 := Lib.hid d2
      have HD3 := Lib.hid d3
      have HJ3 := Lib.hid hJ3
      clear d1 d2 d3 hJ3 hk3
      gi_wp2
      go_roundw
      case rel => exact ⟨zt, pre ++ [a], HD1.out.set _, HD2.out.other (by omega) _, HD3.out.other (by omega) _, by rw [← HT.out]; exact HSP.out, hJ _ _ _ HJ3.out, by omega⟩
      case measure => rw [left_eq (HD1.out.set (.string zt)), left_eq HB1.out]; omega
end Go.Proofs.YtcmjpkfinbakkaaGreatDoor.Vf.Bg

namespace Go.Proofs.YtcmjpkfinbakkaaGreatDoor.Vf.Bg
set_option maxRecDepth 100000
open Go.RowKit Go.Shelf
attribute [local go_sem] Oper.semAt_some

set_option maxHeartbeats 1000000 in
theorem splitSeq_any (p sep : ByteArray) (k : Int) (w : World) :
    Calls Tryz.prog 222 #[.string p, .string sep, .int .i64 k] w fun e w' => e = .returned (.func (.func 262) #[] #[.pointer (some ⟨w.heap.size + 1, 0, none⟩), .pointer (some ⟨w.heap.size, 0, none⟩), .pointer (some ⟨w.heap.size + 2, 0, none⟩)]) ∧
      w' = ((w.alloc (.cells #[.string p] 9)).alloc (.cells #[.string sep] 9)).alloc (.cells #[.int .i64 k] 3) := by
  go_enter Tryz.func222, Tryz.ntmps222
  go_wp2_with fail
  go_ret
  exact ⟨rfl, rfl⟩
set_option maxHeartbeats 1000000 in
theorem SplitSeq_any (p sep : ByteArray) (w : World) :
    Calls Tryz.prog 180 #[.string p, .string sep] w fun e w' => e = .returned (.func (.func 262) #[] #[.pointer (some ⟨w.heap.size + 1, 0, none⟩), .pointer (some ⟨w.heap.size, 0, none⟩), .pointer (some ⟨w.heap.size + 2, 0, none⟩)]) ∧
      w' = ((w.alloc (.cells #[.string p] 9)).alloc (.cells #[.string sep] 9)).alloc (.cells #[.int .i64 0] 3) := by
  go_enter Tryz.func180, Tryz.ntmps180
  go_wp2_with fail
  refine (splitSeq_any p sep 0 w).mono ?_
  rintro e w1 ⟨rfl, h1⟩
  have H1 := Lib.hid h1
  clear h1
  go_wp2_with fail
  go_ret
  exact ⟨rfl, H1.out⟩

/-- Where an appended row lies: where it lay, or in a new block. -/
theorem append_where {w w' : World} {base : Nat} {ty : TypeId} {v v' : Value} {n : Nat} {xs : List Value} (hown : w.ownsRow base 9 1 v n xs) {ad : Addr} {c : Nat} {u : Value} (hc : w.cell? ad = some u) (h1 : u.oneCell' = true) (hb : (n + 1) * 16 ≤ 140737488355328)
    (hrun : (Builtin.append_ #[22, 22] ty #[v, .slice (some ad) 1 c]).run Tryz.prog w = .ok v' w') : v'.ownBlock = v.ownBlock ∨ v'.ownBlock = some w.heap.size := by
  obtain ⟨i0, hi, hz0, hz1, hz2⟩ := info_parts info9
  have hnews : ∀ j x, [u][j]? = some x → w.cell? (ad.add j) = some x := by
    intro j x hj
    match j, hj with
    | 0, hj => simp at hj; subst hj; simpa [Addr.add] using hc
  rcases hown.2 with ⟨rfl, rfl⟩ | ⟨g, cap, cur, rfl, hbg, hg, hnc, hcm, hcs, htake⟩
  · have hr := run_append_nil (P := Tryz.prog) w 22 ty 9 i0 (.string ⟨#[]⟩) Tryz.underlying22 hi hz0 ad 1 c [u] (by rw [hz1]; rfl) hnews (by omega) (by omega) (by rw [hz2]; omega)
    rw [hr] at hrun
    injection hrun with e _
    right
    rw [← e]; rfl
  · by_cases hroom : n + 1 ≤ cap
    · have hr := run_append_room (P := Tryz.prog) w 22 ty 9 i0 Tryz.underlying22 hi g n cap cur hg ad 1 c [u] (by rw [hz1]; rfl) hnews (by simpa using h1) hroom (by rw [hz1, hcs]; simp; omega)
      rw [hr] at hrun
      injection hrun with e _
      left
      rw [← e]; rfl
    · have holds : ∀ j x, xs[j]? = some x → w.cell? ((⟨g, 0, none⟩ : Addr).add j) = some x := hown.cells (g := g) rfl
      have hr := run_append_grow (P := Tryz.prog) w 22 ty 9 i0 (.string ⟨#[]⟩) Tryz.underlying22 hi hz0 ⟨g, 0, none⟩ n cap xs (by rw [hz1]; exact hown.1) holds ad 1 c [u] (by rw [hz1]; rfl) hnews (by omega) (by omega) (growslice_fits (by omega) (by rw [hz2]; exact hb))
      rw [hr] at hrun
      injection hrun with e _
      right
      rw [← e]; rfl

theorem wpListIn_append_apart {F : Fence} {n : Nat} (w : World) {ops : Array Oper} {rest : List Oper} {o : Oper} {a : Act} {Q : Exit → Act → World → Prop}
    (hg : o.guard = none) (s x : Operand) (hop : o.op = Op.call { callee := Callee.builtin Builtin.append, args := #[s, x], argTypes := #[22, 22] })
    (base : Nat) (v : Value) (k : Nat) (xs : List Value) (hs : a.eval s = v) (hown : w.ownsRow base 9 1 v k xs) (ad : Addr) (c : Nat) (u : Value) (hx : a.eval x = .slice (some ad) 1 c)
    (hc : w.cell? ad = some u) (h1c : u.oneCell' = true) (b1 : k + 1 ≤ 4000000) (b3 : base ≤ w.heap.size)
    (hK : ∀ v' w', w'.ownsRow base 9 1 v' (k + 1) (xs ++ [u]) → w.grownBy w' v.ownBlock → (v'.ownBlock = v.ownBlock ∨ v'.ownBlock = some w.heap.size) → wpListIn F n Tryz.prog ops Q rest (a.put o.dst v') w') :
    wpListIn F n Tryz.prog ops Q (o :: rest) a w := by
  obtain ⟨i0, hi, hz0, hz1, hz2⟩ := info_parts info9
  refine wpListIn_plain hg fun K hK' => ?_
  obtain ⟨v', w', hrun, r1, r2, _⟩ := run_append_own (P := Tryz.prog) w base 22 o.type 9 i0 (.string ⟨#[]⟩) 1 16 Tryz.underlying22 hi hz0 hz1 hz2 rfl (by decide) v k xs hown ad 1 c [u] rfl (fun j y hj => by match j, hj with | 0, hj => simp at hj; subst hj; simpa [Addr.add] using hc) (by simpa using h1c) (by unfold maxLen; omega) (by omega) b3
  have r4 := append_where hown hc h1c (by omega) hrun
  unfold Oper.wpIn
  refine ⟨?_, ?_⟩
  · simp [Oper.about, hop, resolve, Target.leads, Sem.run_pure]
  · rw [Oper.semAt_plain F _ _ (by rw [hop]; intro c hc'; cases hc')]
    simp [execOp, hop, resolve, invoke, builtin, hs, hx, hrun, Result.andThen]
    exact hK' _ _ (hK v' w' r1 r2 r4)
end Go.Proofs.YtcmjpkfinbakkaaGreatDoor.Vf.Bg

namespace Go.Proofs.YtcmjpkfinbakkaaGreatDoor.Vf.Bg
set_option maxRecDepth 100000
open Go.RowKit Go.Shelf
attribute [local go_sem] Oper.semAt_some

/-- Where the row's block is not: among the iterator's cells. -/
def Apart (b : Nat) (v : Value) : Prop := ∀ g, v.ownBlock = some g → g < b ∨ b + 4 ≤ g
theorem Apart.ne {b k : Nat} {v : Value} (h : Apart b v) (h1 : b < k) (h2 : k < b + 4) : v.ownBlock ≠ some k := fun e => by have := h k e; omega
theorem Apart.where_ {b s : Nat} {v v' : Value} (h : Apart b v) (hs : b + 4 ≤ s) (hw : v'.ownBlock = v.ownBlock ∨ v'.ownBlock = some s) : Apart b v' := fun g e => by
  rcases hw with hw | hw
  · exact h g (hw.symm.trans e)
  · rw [hw] at e; injection e with e; omega
def FI (B b : Nat) (W0 : World) (l0 : List Bs) (pre : List Bs) (W : World) : Prop :=
  (∃ v, Boxed W b 22 v ∧ W.ownsRow B 9 1 v (pre.foldl push l0).length ((pre.foldl push l0).map encStr) ∧ Apart b v) ∧ Below B W0 W
theorem keep_put {b l : Nat} (W : World) (o : Obj) (h : b + 4 ≤ l) : Keep b W (W.putObj l o) := fun k h1 h2 => World.putObj_heap_other (by omega)
theorem ownBlock_slice {A : Option Addr} {n c m d : Nat} : (Value.slice A n c).ownBlock = (Value.slice A m d).ownBlock := by cases A <;> rfl
theorem own_block_some {w : World} {B n : Nat} {v : Value} {xs : List Value} (h : w.ownsRow B 9 1 v n xs) {g : Nat} (e : v.ownBlock = some g) : g < w.heap.size := by
  rcases h.2 with ⟨rfl, _⟩ | ⟨g', c, cur, rfl, _, hg, _⟩
  · simp [Value.ownBlock] at e
  · obtain rfl : g' = g := by simpa [Value.ownBlock] using e
    exact (Array.getElem?_eq_some_iff.1 hg).1

/-- A row cut by one, from whatever it was. -/
theorem own_less {w : World} {B c : Nat} {A : Option Addr} {l : List Bs} (h : w.ownsRow B 9 1 (.slice A l.length c) l.length (l.map encStr)) :
    (∀ w', (Instr.slice 22 (.slice A l.length c) none (some (.int .i64 ((l.length - 1 : Nat) : Int))) none).run Tryz.prog w' = .ok (.slice A (l.length - 1) c) w') ∧
      w.ownsRow B 9 1 (.slice A (l.length - 1) c) l.dropLast.length (l.dropLast.map encStr) := by
  by_cases hl : 0 < l.length
  · obtain ⟨g, c', ea, _, _⟩ := h.form hl
    injection ea with e1 _ e3
    subst e1
    subst e3
    refine ⟨slice_some g l.length c (l.length - 1) (by have := own_cap h hl; omega), ?_⟩
    rw [List.length_dropLast]
    exact own_last h hl
  · obtain rfl : l = [] := List.length_eq_zero_iff.1 (by omega)
    rcases h.2 with ⟨h1, _⟩ | ⟨g, c', cur, hv, _, _, h1, _⟩
    · injection h1 with e1 _ e3
      subst e1
      subst e3
      exact ⟨slice_nil, h⟩
    · injection hv with e1 _ e3
      subst e1
      exact ⟨slice_some g 0 c 0 (by omega), h⟩

set_option maxRecDepth 100000 in
set_option maxHeartbeats 4000000 in
theorem follow_any (B : Nat) (v0 : Value) (l0 : List Bs) (p : ByteArray) (w : World) (hB : B ≤ w.heap.size) (hv : w.ownsRow B 9 1 v0 l0.length (l0.map encStr)) (hn : l0.length + p.size ≤ 3000000) :
    Calls Tryz.prog 123 #[v0, .string p] w fun e w' => ∃ v', e = .returned v' ∧ w'.ownsRow B 9 1 v' ((sp p.data.toList).foldl push l0).length (((sp p.data.toList).foldl push l0).map encStr) ∧ Below B w w' := by
  obtain ⟨A0, c0, rfl⟩ := own_form hv
  obtain ⟨b, hb⟩ : ∃ b, w.heap.size = b := ⟨_, rfl⟩
  have hap : Apart b (.slice A0 l0.length c0) := fun g e => .inl (by rw [← hb]; exact own_block_some hv e)
  have HV := Lib.hid hv
  clear hv
  refine (callsIn_wide (n := 3)).1 ?_
  refine callsIn_of_wp_marks Tryz.func123 rfl trivial ?_ rfl
  simp only [Tryz.ntmps123, List.size_toArray, List.length_cons, List.length_nil, Nat.reduceAdd, Nat.reduceSub, Array.replicate_succ, Array.replicate_zero, List.push_toArray, List.append_toArray, List.nil_append, List.cons_append]
  gi_wp2
  refine wpIn_scope_s ?_
  refine wpIn_seq (wpIn_label ?_)
  gi_wp2_with (refine ⟨trivial, ?_⟩; gi_at_call 180; refine (callsIn_wide.2 (SplitSeq_any p ⟨#[47]⟩ _)).mono ?_; rintro e w' ⟨rfl, rfl⟩)
  obtain ⟨W0, hW0⟩ : ∃ W0, (((w.alloc (.cells #[.slice A0 l0.length c0] 22)).alloc (.cells #[.string p] 9)).alloc (.cells #[.string ⟨#[47]⟩] 9)).alloc (.cells #[.int .i64 0] 3) = W0 := ⟨_, rfl⟩
  have hs0 : W0.heap.size = b + 4 := by rw [← hW0]; simp [hb]
  have hb0 : Boxed W0 b 22 (.slice A0 l0.length c0) := by rw [← hW0, ← hb]; exact (((Boxed.new w 22 _).alloc _).alloc _).alloc _
  have hb1 : Boxed W0 (b + 1) 9 (.string p) := by rw [← hW0, ← hb]; have := ((Boxed.new (w.alloc (.cells #[.slice A0 l0.length c0] 22)) 9 (.string p)).alloc (.cells #[.string ⟨#[47]⟩] 9)).alloc (.cells #[.int .i64 0] 3); simpa using this
  have hb2 : Boxed W0 (b + 2) 9 (.string ⟨#[47]⟩) := by rw [← hW0, ← hb]; have := (Boxed.new ((w.alloc (.cells #[.slice A0 l0.length c0] 22)).alloc (.cells #[.string p] 9)) 9 (.string ⟨#[47]⟩)).alloc (.cells #[.int .i64 0] 3); simpa using this
  have hb3 : Boxed W0 (b + 3) 3 (.int .i64 0) := by rw [← hW0, ← hb]; have := Boxed.new (((w.alloc (.cells #[.slice A0 l0.length c0] 22)).alloc (.cells #[.string p] 9)).alloc (.cells #[.string ⟨#[47]⟩] 9)) 3 (.int .i64 0); simpa using this
  have hB0 : Below b w W0 := by rw [← hW0, ← hb]; exact ((((Below.refl _ w).alloc (Nat.le_refl _) _).alloc (by simp) _).alloc (by simp; omega) _).alloc (by simp; omega) _
  have hO0 : W0.ownsRow B 9 1 (.slice A0 l0.length c0) l0.length (l0.map encStr) := by rw [← hW0]; exact ((((HV.out.alloc _).alloc _).alloc _).alloc _)
  have hpl : (sp p.data.toList).length ≤ p.size + 1 := by have := sp_len p.data.toList; have : p.data.toList.length = p.size := Array.length_toList; omega
  rw [hW0]
  refine wpIn_rangeFunc_T rfl (by omega) (gf := 262) (lb := #[.pointer (some ⟨b + 2, 0, none⟩), .pointer (some ⟨b + 1, 0, none⟩), .pointer (some ⟨b + 3, 0, none⟩)]) rfl trivial (enters_of Tryz.func262 (by kernel_rfl) rfl)
    (encs := fun x : Bs => #[encStr x]) (T := fun A C => ∃ u, C = A.setCell ⟨b + 1, 0, none⟩ u) (Kp := Keep b) (xs := sp p.data.toList) (fun A C h => by obtain ⟨u, rfl⟩ := h; exact KeepsOthers.setCell _ _ _)
    (fun l J W hW hJ hY h0 => split_in _ (by decide) l b J _ (fun s A u h => hJ s A _ h ⟨u, rfl⟩) hY p rfl (by omega) W ((hW.block (b + 1) (by omega)).trans hb1) ((hW.block (b + 2) (by omega)).trans hb2) ((hW.block (b + 3) (by omega)).trans hb3) h0)
    (fun h k => h.trans k) (fun W l o h => keep_put W o (by omega)) (fun _ => rfl) (FI B b W0 l0)
    (OwnFrom.and (Own.from (holdsRow_own B b 22 9 1 (fun pre : List Bs => (pre.foldl push l0).length) (fun pre => (pre.foldl push l0).map encStr) (fun _ v => Apart b v)) _) (ownFrom_below (by omega) (by omega)))
    ?turn ⟨⟨_, hb0, hO0, hap⟩, Below.refl _ _⟩
    (fun x => { tmps := #[.slice A0 l0.length c0, .string p, .pointer (some ⟨b, 0, none⟩), undef, .slice none 0 0, encStr x, .string p, .func (.func 262) #[] #[.pointer (some ⟨b + 2, 0, none⟩), .pointer (some ⟨b + 1, 0, none⟩), .pointer (some ⟨b + 3, 0, none⟩)], encStr x, undef, undef, undef, undef, undef, undef, undef, undef, undef, undef, undef, undef, undef, undef, undef, undef, undef], defers := [] }) ?assign ?body ?done
  case turn =>
    rintro s A C ⟨⟨v, hv, hrow, hG⟩, hB⟩ ⟨u, rfl⟩
    exact ⟨⟨v, hv.other (by omega) u, hrow.kept (grownBy_setCell' A (b + 1) u) (.inr (hG.ne (by omega) (by omega))), hG⟩, hB.setCell (p := ⟨b + 1, 0, none⟩) (by simp; omega) u⟩
  case assign =>
    intro l x W K hK
    gi_wp2
    exact hK
  case body =>
    rintro l pre x W ⟨⟨v, hv, hrow, hG⟩, hBW⟩ hx
    have hL : (pre.foldl push l0).length + 1 ≤ 3500000 := by
      have h1 := push_fold_len pre l0
      have h2 := hx.length_le
      simp at h2
      omega
    have hnext : (pre ++ [x]).foldl push l0 = push (pre.foldl push l0) x := by simp
    obtain ⟨L, hLe⟩ : ∃ L, pre.foldl push l0 = L := ⟨_, rfl⟩
    rw [hLe] at hrow hL hnext
    have HN := Lib.hid hnext
    have HLe := Lib.hid hLe
    obtain ⟨z, hz⟩ : ∃ z, bs x = z := ⟨_, rfl⟩
    have hzl : z.toList = x := by rw [Lib.toList_data, ← hz]; rfl
    rw [show encStr x = Value.string z from congrArg Value.string hz]
    obtain ⟨A, c, rfl⟩ := own_form hrow
    have hc := hv.cell
    have hf := hv.frozen
    have HROW := Lib.hid hrow
    have HG := Lib.hid hG
    have HB := Lib.hid hBW
    have HV := Lib.hid hv
    have HZ := Lib.hid hz
    have hws : b + 4 ≤ W.heap.size := by have := hBW.size; omega
    clear hx hnext hLe hz hrow hG hBW hv
    by_cases c1 : x = []
    · subst c1
      gi_wp2
      exact ⟨KeepsFrom.refl _ _, fun _ _ _ => rfl, ⟨_, HV.out, by rw [HN.out, push_nil]; exact HROW.out, HG.out⟩, HB.out⟩
    · by_cases c2 : x = [46]
      · subst c2
        gi_wp2
        exact ⟨KeepsFrom.refl _ _, fun _ _ _ => rfl, ⟨_, HV.out, by rw [HN.out, show push L [46] = L from rfl]; exact HROW.out, HG.out⟩, HB.out⟩
      · by_cases c3 : x = [46, 46]
        · subst c3
          obtain ⟨hst, hod⟩ := own_less HROW.out
          have hap2 : Apart b (.slice A (L.length - 1) c) := by intro g e; exact HG.out g (by rw [← e]; exact ownBlock_slice)
          obtain ⟨m, hm⟩ : ∃ m, L.length - 1 = m := ⟨_, rfl⟩
          rw [hm] at hst hod hap2
          have hmx : max ((L.length : Int) - 1) 0 = (m : Int) := by omega
          have hwr : IntKind.i64.wrap ((L.length : Int) - 1) = (L.length : Int) - 1 := by rw [IntKind.wrap_i64]; omega
          have hwr2 : wrap64 ((L.length : Int) - 1) = (L.length : Int) - 1 := by unfold wrap64; omega
          have HOD := Lib.hid hod
          have HA2 := Lib.hid hap2
          have HL := Lib.hid hL
          clear hod hap2 hL hm
          gi_wp2
          exact ⟨(KeepsOthers.setCell _ _ _).from _, fun k h1 h2 => Below.heap_setCell _ _ _ k (by simp; omega),
            ⟨_, HV.out.set _, by rw [HN.out, push_dd]; exact HOD.out.kept (grownBy_setCell' W b _) (.inr (HV.out.not_row (by decide) HOD.out).symm), HA2.out⟩, HB.out.setCell (p := ⟨b, 0, none⟩) (by simp; omega) _⟩
        · have d1 : x.isEmpty = false := by cases x with | nil => exact absurd rfl c1 | cons a t => rfl
          have d2 : (x == [46]) = false := by rw [beq_eq_false_iff_ne]; exact c2
          have d3 : (x == [46, 46]) = false := by rw [beq_eq_false_iff_ne]; exact c3
          have HP : Hid (push L x = L ++ [x]) := by rw [Hid, push, if_neg (by rintro (h | h); exact c1 h; exact c2 h), if_neg c3]
          have HL := Lib.hid hL
          clear c1 c2 c3 hL
          gi_wp2_with (gi_at_builtin; refine wpListIn_append_apart _ rfl _ _ rfl B _ L.length (L.map encStr) rfl (HROW.out.alloc _) ⟨W.heap.size, 0, none⟩ 1 (.string z) rfl (cell_one_new W (.string z) 9 0 (.string z) rfl) rfl (by have := HL.out; omega) (by simp; omega) ?_; intro v' w1 hown' hgrow hwhere; obtain ⟨g', cap', rfl⟩ := ownsRow_succ hown'; obtain ⟨hv1, hv2, hr2, hk2, hb2⟩ := HV.out.appended (by decide) HROW.out (by omega) (by omega) hown' hgrow; have hc1 := hv1.cell; have hf1 := hv1.frozen)
          exact ⟨hk2.from _, fun k h1 h2 => ((Below.heap_setCell _ _ _ k (by simp; omega)).trans (hgrow.block k (by simp; omega) (HG.out.ne h1 h2).symm)).trans (Below.heap_alloc _ _ _ (by omega)), ⟨_, hv2, by rw [HN.out, HP.out]; simpa [show encStr x = Value.string z from congrArg Value.string HZ.out] using hr2, HG.out.where_ (by simp; omega) hwhere⟩, HB.out.trans hb2⟩
  case done =>
    rintro D W hD ⟨⟨v, hv, hrow, hG⟩, hBW⟩ hK
    have hc := hv.cell
    obtain ⟨A, c, rfl⟩ := own_form hrow
    have HROW := Lib.hid hrow
    have HB := Lib.hid ((hB0.mono (by omega : B ≤ b)).trans hBW)
    have hDb : b + 4 ≤ D := by omega
    clear hrow hG hBW hv hD
    gi_wp2
    refine ⟨by simp, .inl ⟨_, _, rfl, run_takeDeferred hK, ?_⟩⟩
    exact ⟨_, results_tmp rfl _ _ _, _, rfl, ownsRow_putObj HROW.out _ hK rfl, HB.out.trans (belowK_b (w := w) (by omega) W D _ _ (by omega) hK rfl rfl)⟩
end Go.Proofs.YtcmjpkfinbakkaaGreatDoor.Vf.Bg

namespace Go.Proofs.YtcmjpkfinbakkaaGreatDoor.Vf.Bg
set_option maxRecDepth 100000
open Go.RowKit

set_option maxRecDepth 100000 in
set_option maxHeartbeats 2000000 in
theorem Parts_any (cwd p : ByteArray) (w : World) (hc : cwd.size ≤ 1100000) (hp : p.size ≤ 1100000) :
    Calls Tryz.prog 77 #[.string cwd, .string p] w fun e w' => ∃ v', e = .returned v' ∧ w'.ownsRow w.heap.size 9 1 v' (parts cwd p).length ((parts cwd p).map encStr) ∧ Below w.heap.size w w' := by
  obtain ⟨v, hv⟩ : ∃ v : Bool, (v = true ↔ 0 < p.size ∧ gb p 0 = 47) := ⟨decide (0 < p.size ∧ gb p 0 = 47), by simp⟩
  have HV := Lib.hid hv
  obtain ⟨R, hR⟩ : ∃ R, parts cwd p = R := ⟨_, rfl⟩
  rw [hR]
  have HR := Lib.hid hR
  clear hv hR
  go_enter Tryz.func77, Tryz.ntmps77
  go_wp2_with fail
  refine (Has_stroke p w v HV.out).mono ?_
  rintro e w1 ⟨rfl, hw1⟩
  obtain rfl := hw1.symm
  cases v
  · have HE : Hid ((sp p.data.toList).foldl push ((sp cwd.data.toList).foldl push []) = R) := by
      rw [Hid, ← HR.out, parts, if_neg (fun h => by have := HV.out.2 h; simp at this)]
    have hb := push_fold_len (sp cwd.data.toList) []
    have hb2 := sp_len cwd.data.toList
    have hb3 : cwd.data.toList.length = cwd.size := Array.length_toList
    obtain ⟨M, hM⟩ : ∃ M, (sp cwd.data.toList).foldl push [] = M := ⟨_, rfl⟩
    have hml : M.length ≤ 1100001 := by rw [← hM]; simp at hb; omega
    rw [hM] at HE
    have HM := Lib.hid hM
    clear hb hb2 hb3 hM
    go_wp2_with fail
    refine (follow_any w.heap.size (.slice none 0 0) [] cwd w (Nat.le_refl _) (World.ownsRow_nil _ _ _ _) (by simp; omega)).mono ?_
    rintro e w2 ⟨v2, rfl, hown2, hB2⟩
    rw [HM.out] at hown2
    obtain ⟨A, c, rfl⟩ := own_form hown2
    have HO2 := Lib.hid hown2
    have HB2 := Lib.hid hB2
    clear hown2 hB2
    go_wp2_with fail
    refine (follow_any w.heap.size _ M p w2 HB2.out.size HO2.out (by omega)).mono ?_
    rintro e w3 ⟨v3, rfl, hown3, hB3⟩
    rw [HE.out] at hown3
    have HO3 := Lib.hid hown3
    have HB3 := Lib.hid (HB2.out.trans hB3)
    clear hown3 hB3
    obtain ⟨A3, c3, rfl⟩ := own_form HO3.out
    go_wp2_with fail
    go_ret
    exact ⟨_, rfl, HO3.out, HB3.out⟩
  · have HE : Hid ((sp p.data.toList).foldl push [] = R) := by
      rw [Hid, ← HR.out, parts, if_pos (HV.out.1 rfl)]
    go_wp2_with fail
    refine (follow_any w.heap.size (.slice none 0 0) [] p w (Nat.le_refl _) (World.ownsRow_nil _ _ _ _) (by simp; omega)).mono ?_
    rintro e w3 ⟨v3, rfl, hown3, hB3⟩
    rw [HE.out] at hown3
    have HO3 := Lib.hid hown3
    have HB3 := Lib.hid hB3
    clear hown3 hB3
    obtain ⟨A3, c3, rfl⟩ := own_form HO3.out
    go_wp2_with fail
    go_ret
    exact ⟨_, rfl, HO3.out, HB3.out⟩


set_option maxRecDepth 100000 in
set_option maxHeartbeats 2000000 in
theorem rooted_any (A : Option Addr) (c : Nat) (L : List Bs) (w : World) (hS : StrsL w A L) (hcap : L.length ≤ c) (hn : (joined L).length ≤ 4000000) :
    Calls Tryz.prog 88 #[.slice A L.length c] w fun e w' => e = .returned (.string ⟨(written L).toArray⟩) ∧ Below w.heap.size w w' := by
  have hll : L.length ≤ (joined L).length := by
    clear hS hcap hn
    induction L with
    | nil => simp
    | cons a L ih => rw [joined_cons, List.length_cons]; omega
  obtain ⟨R, hR⟩ : ∃ R : ByteArray, (⟨(Lib.join L [47]).toArray⟩ : ByteArray) = R := ⟨_, rfl⟩
  have hw : 47 :: R.data.toList = written L := by rw [← hR]; exact written_join L
  have hres : (⟨#[47]⟩ : ByteArray) ++ R = ⟨(written L).toArray⟩ := bytes_eq (by rw [← hw]; simp)
  have hRs : R.size ≤ 4000000 := by
    have h1 : R.data.toList.length = R.size := Array.length_toList
    have h2 : (written L).length ≤ (joined L).length + 1 := by
      unfold written; split <;> simp
    rw [← hw] at h2
    simp at h2
    omega
  have HJ : Calls Tryz.prog 98 #[.slice A L.length c, .string ⟨#[47]⟩] w fun e w' => e = .returned (.string R) ∧ Below w.heap.size w w' := by
    by_cases hl : 0 < L.length
    · obtain ⟨g, off, rfl, hg, hcell⟩ := hS hl
      have := Tryz.strings_Join g off c (L.map bs) ⟨#[47]⟩ w (fun j x hx => by
        rw [List.getElem?_map] at hx
        have hj : j < L.length := by
          by_cases h : j < L.length
          · exact h
          · rw [List.getElem?_eq_none (by omega)] at hx; cases hx
        rw [List.getElem?_eq_getElem hj] at hx
        injection hx with hx
        rw [hcell j hj, ← hx]; rfl) hg (by simp; omega) (by simpa using hcap) (by
          rw [bs_map]
          have h1 : (47 :: Lib.join L [47]).length = (written L).length := congrArg List.length (written_join L)
          have h2 : (written L).length ≤ (joined L).length + 1 := by
            unfold written; split <;> simp
          simp only [List.length_cons] at h1
          show (Lib.join L [47]).length ≤ _
          omega)
      rw [bs_map, List.length_map] at this
      refine this.mono ?_
      rintro e w' ⟨rfl, hB⟩
      exact ⟨by rw [← hR], hB⟩
    · obtain rfl : L = [] := List.length_eq_zero_iff.1 (by omega)
      refine (Tryz.strings_Join_none A c ⟨#[47]⟩ w).mono ?_
      rintro e w' ⟨rfl, rfl⟩
      exact ⟨by rw [← hR]; rfl, Below.refl _ _⟩
  have HJJ := Lib.hid HJ
  clear HJ hw hR hS hn hll
  go_enter Tryz.func88, Tryz.ntmps88
  go_wp2_with fail
  refine HJJ.out.mono ?_
  rintro e w1 ⟨rfl, hB⟩
  have HB := Lib.hid hB
  clear hB
  go_wp2_with fail
  go_ret
  exact ⟨rfl, HB.out⟩

set_option maxRecDepth 100000 in
set_option maxHeartbeats 2000000 in
theorem Abs_any (cwd p : ByteArray) (w : World) (hc : cwd.size ≤ 1100000) (hp : p.size ≤ 1100000) (rs : Bs) (rn : Int) (hr : Hid (abs_ cwd p = (rs, rn))) :
    Calls Tryz.prog 42 #[.string cwd, .string p] w fun e w' => e = .returned (.tuple #[.string ⟨rs.toArray⟩, .int .i64 rn]) ∧ Below w.heap.size w w' := by
  by_cases h0 : p.size = 0
  · have hh := hr.out
    rw [abs_, if_pos (.inl h0)] at hh
    injection hh with e1 e2
    subst e1
    subst e2
    have he : p.toList.isEmpty = true := by
      have h2 : p.data.toList.length = p.size := Array.length_toList
      rw [Lib.toList_data, List.isEmpty_iff, ← List.length_eq_zero_iff]; omega
    clear hr
    go_enter Tryz.func42, Tryz.ntmps42
    go_wp2_with fail
    go_ret2
    exact ⟨rfl, Below.refl _ _⟩
  · have he : p.toList.isEmpty = false := by
      have h2 : p.data.toList.length = p.size := Array.length_toList
      rw [Lib.toList_data]
      cases h : p.data.toList with
      | nil => rw [h] at h2; simp at h2; omega
      | cons a t => rfl
    obtain ⟨x, hx⟩ : ∃ x, decide (0 ≤ Lib.indexByte p.data.toList 0) = x := ⟨_, rfl⟩
    obtain ⟨y, hy⟩ : ∃ y, decide (0 ≤ Lib.indexByte cwd.data.toList 0) = y := ⟨_, rfl⟩
    have h1 : Calls Tryz.prog 87 #[.string p, .string ⟨#[0]⟩] w fun e w' => e = .returned (.bool x) ∧ w' = w := by rw [← hx]; exact Tryz.strings_Contains_one p 0 w
    have h2 : Calls Tryz.prog 87 #[.string cwd, .string ⟨#[0]⟩] w fun e w' => e = .returned (.bool y) ∧ w' = w := by rw [← hy]; exact Tryz.strings_Contains_one cwd 0 w
    have HX : Hid (x = true ↔ 0 ≤ at_ p 0 (p.size + 1) 0) := by rw [Hid, ← hx, decide_eq_true_iff, idx_iff, at_mem]
    have HY : Hid (y = true ↔ 0 ≤ at_ cwd 0 (cwd.size + 1) 0) := by rw [Hid, ← hy, decide_eq_true_iff, idx_iff, at_mem]
    have H1 := Lib.hid h1
    have H2 := Lib.hid h2
    have hh := hr.out
    rw [abs_] at hh
    clear h1 h2 hx hy hr
    cases y with
    | true =>
      rw [if_pos (.inr (.inr (HY.out.1 rfl)))] at hh
      injection hh with e1 e2
      subst e1
      subst e2
      go_enter Tryz.func42, Tryz.ntmps42
      go_wp2_with fail
      refine H2.out.mono ?_
      rintro e w1 ⟨rfl, hw1⟩
      obtain rfl := hw1.symm
      go_wp2_with fail
      go_ret2
      exact ⟨rfl, Below.refl _ _⟩
    | false =>
      cases x with
      | true =>
        rw [if_pos (.inr (.inl (HX.out.1 rfl)))] at hh
        injection hh with e1 e2
        subst e1
        subst e2
        go_enter Tryz.func42, Tryz.ntmps42
        go_wp2_with fail
        refine H2.out.mono ?_
        rintro e w1 ⟨rfl, hw1⟩
        obtain rfl := hw1.symm
        go_wp2_with fail
        refine H1.out.mono ?_
        rintro e w1 ⟨rfl, hw1⟩
        obtain rfl := hw1.symm
        go_wp2_with fail
        go_ret2
        exact ⟨rfl, Below.refl _ _⟩
      | false =>
        rw [if_neg (by rintro (h | h | h); exact h0 h; exact absurd (HX.out.2 h) (by simp); exact absurd (HY.out.2 h) (by simp))] at hh
        have hl := parts_len cwd p
        have hj := parts_joined cwd p
        obtain ⟨L, hL⟩ : ∃ L, parts cwd p = L := ⟨_, rfl⟩
        rw [hL] at hh hl hj
        have HL := Lib.hid hL
        have HH := Lib.hid hh
        clear hL hh HX HY
        go_enter Tryz.func42, Tryz.ntmps42
        go_wp2_with fail
        refine H2.out.mono ?_
        rintro e w1 ⟨rfl, hw1⟩
        obtain rfl := hw1.symm
        go_wp2_with fail
        refine H1.out.mono ?_
        rintro e w1 ⟨rfl, hw1⟩
        obtain rfl := hw1.symm
        go_wp2_with fail
        refine (Parts_any cwd p w hc hp).mono ?_
        rintro e w1 ⟨v, rfl, hown, hB⟩
        rw [HL.out] at hown
        obtain ⟨A, c, rfl⟩ := own_form hown
        have HO := Lib.hid hown
        have HB := Lib.hid hB
        clear hown hB
        go_wp2_with fail
        go_loop [25] (fun ia => ∃ k : Nat, ia = .int .i64 k ∧ k ≤ L.length ∧ Hid (∀ i (h : i < L.length), i < k → L[i].length ≤ 60)) (fun ia => L.length - (intOf ia).toNat)
        case atStart => exact ⟨0, rfl, by omega, fun i _ h => absurd h (Nat.not_lt_zero _)⟩
        case round =>
          obtain ⟨k, rfl, hk, HK⟩ := hrel
          have b0 : (0 : Int) ≤ (k : Int) := by omega
          by_cases hlt : k < L.length
          · have b1 : (k : Int) < (L.length : Int) := by omega
            obtain ⟨g, off, rfl, hg, hcell⟩ := strs_own HO.out (by omega)
            have hck := hcell k hlt
            have hadd : (⟨g, off, none⟩ : Addr).add k = ⟨g, off + k, none⟩ := by unfold Addr.add; by_cases h : k = 0 <;> simp [h]
            obtain ⟨s, hs⟩ : ∃ s : ByteArray, ⟨L[k].toArray⟩ = s := ⟨_, rfl⟩
            rw [show encStr L[k] = .string ⟨L[k].toArray⟩ from rfl, hs] at hck
            have HSZ : Hid (L[k].length = s.size) := by rw [← hs]; rfl
            clear hcell hs
            by_cases h3 : s.size ≤ 60
            · have b3 : ¬ (60 : Int) < (s.size : Int) := by omega
              go_wp2_with fail
              refine ⟨⟨k + 1, by go_num, by omega, fun i hi hik => ?_⟩, by simp [intOf]; omega⟩
              by_cases h : i < k
              · exact HK.out i hi h
              · obtain rfl : i = k := by omega
                have := HSZ.out
                omega
            · have b3 : (60 : Int) < (s.size : Int) := by omega
              have hh := HH.out
              rw [if_pos ⟨L[k], List.getElem_mem hlt, by have := HSZ.out; omega⟩] at hh
              injection hh with e1 e2
              subst e1
              subst e2
              go_wp2_with fail
              go_ret2
              exact ⟨rfl, HB.out⟩
          · have b1 : ¬ (k : Int) < (L.length : Int) := by omega
            have hh := HH.out
            rw [if_neg (by
              rintro ⟨x, hx, h⟩
              obtain ⟨i, hi, rfl⟩ := List.mem_iff_getElem.1 hx
              have := HK.out i hi (by omega)
              omega)] at hh
            obtain ⟨S, hS⟩ : ∃ S : ByteArray, ⟨(written L).toArray⟩ = S := ⟨_, rfl⟩
            have hSz : (written L).length = S.size := by rw [← hS]; rfl
            have hW := rooted_any A c L w1 (strs_own HO.out) (own_cap2 HO.out) (by omega)
            rw [hS] at hW
            rw [hSz] at hh
            have HW := Lib.hid hW
            have HSS := Lib.hid hS
            clear hW hS hSz
            go_wp2_with fail
            refine HW.out.mono ?_
            rintro e w2 ⟨rfl, hB2⟩
            have HB2 : Hid (Below w.heap.size w w2) := HB.out.trans (hB2.mono HB.out.size)
            clear hB2
            by_cases c1 : 20 < L.length
            · have c1I : (20 : Int) < (L.length : Int) := by omega
              rw [if_pos (.inl c1)] at hh
              injection hh with e1 e2
              subst e1
              subst e2
              go_wp2_with fail
              go_ret2
              exact ⟨rfl, HB2.out⟩
            · have c1I : ¬ (20 : Int) < (L.length : Int) := by omega
              by_cases c2 : 200 < S.size
              · have c2I : (200 : Int) < (S.size : Int) := by omega
                rw [if_pos (.inr c2)] at hh
                injection hh with e1 e2
                subst e1
                subst e2
                go_wp2_with fail
                go_ret2
                exact ⟨rfl, HB2.out⟩
              · have c2I : ¬ (200 : Int) < (S.size : Int) := by omega
                rw [if_neg (by rintro (h | h); exact c1 h; exact c2 h)] at hh
                injection hh with e1 e2
                subst e1
                subst e2
                go_wp2_with fail
                go_ret2
                exact ⟨by rw [HSS.out]; rfl, HB2.out⟩


end Go.Proofs.YtcmjpkfinbakkaaGreatDoor.Vf.Bg

namespace Go.Proofs.YtcmjpkfinbakkaaGreatDoor.Vf
set_option maxRecDepth 100000
open Go.RowKit Go.Maps Go.ChangeMaps
set_option linter.unusedVariables false

abbrev Bz := List UInt8
abbrev Pth := List Bz
/-- A node: a file with its bytes, or a directory; and its time. -/
structure Nd where
  file : Bool
  data : Bz
  time : Int
abbrev Tr := Pth → Option Nd
/-- How an element reads: where it points to. -/
def ptrR : Value → Option (DataW Unit × List MemPlace)
  | .pointer none => some (.nil, [])
  | .pointer (some ⟨b, 0, none⟩) => some (.lit (.int .i64 b), [])
  | _ => none
def ptrV : Option Nat → Value
  | none => .pointer none
  | some b => .pointer (some ⟨b, 0, none⟩)
def ptrD : Option Nat → DataW Unit
  | none => .nil
  | some b => .lit (.int .i64 b)
theorem ptrR_V (o : Option Nat) : ptrR (ptrV o) = some (ptrD o, []) := by cases o <;> rfl
theorem ptrR_inv {v : Value} {o : Option Nat} {ps : List MemPlace} (h : ptrR v = some (ptrD o, ps)) : v = ptrV o := by
  unfold ptrR at h
  split at h
  · cases o with
    | none => rfl
    | some b => simp [ptrD] at h
  · rename_i b
    cases o with
    | none => simp [ptrD] at h
    | some c =>
      simp [ptrD] at h
      have hb : b = c := by have := h.1; omega
      rw [hb]; rfl
  · cases h
theorem keyedS : Keyed Tryz.prog 9 := string_keyed Tryz.underlying9
/-- A directory's map: which block its names lead to. -/
structure Kids (w : World) (N : Nat) (m : Option Nat) (g : Bz → Option Nat) : Prop where
  no : m = none → ∀ k, g k = none
  yes : ∀ b, m = some b → ∃ nn D, nn ≤ N ∧ w.ownsMap Tryz.prog 9 ptrR b nn D ∧ ∀ k : Bz, D.atKey (.string k) .nil = ptrD (g k) ∧ Maps.has D (.string k) = (g k).isSome
theorem zero50 (w : World) : (zeroValue 72).run Tryz.prog w = .ok (.pointer none) w := by kernel_rfl
theorem Kids.look {w : World} {N : Nat} {m : Option Nat} {g : Bz → Option Nat} (h : Kids w N m g) (s : ByteArray) (hs : s.size ≤ maxLen) : (Instr.lookup 67 (.map m) (.string s) false).run Tryz.prog w = .ok (ptrV (g s.data.toList)) w := by
  have hk := Go.WideMaps.keyOf_string_mk Tryz.underlying9 hs
  cases m with
  | none =>
    rw [h.no rfl]
    have := Maps.look_nil (w := w) false keyedS Tryz.underlying67 (zero50 w) hk
    simpa [ptrV] using this
  | some b =>
    obtain ⟨nn, D, _, hown, hg⟩ := h.yes b rfl
    obtain ⟨v, ps, hrun, hv⟩ := hown.lookup keyedS Tryz.underlying67 (zero50 w) (zd := .nil) (zp := []) rfl hk
    rw [(hg _).1] at hv
    rw [hrun, ptrR_inv hv]
theorem Kids.only {w w' : World} {N : Nat} {m : Option Nat} {g : Bz → Option Nat} (h : Kids w N m g) (hb : ∀ b, m = some b → b < w.heap.size → w'.heap[b]? = w.heap[b]?) : Kids w' N m g := by
  refine ⟨h.no, fun b hm => ?_⟩
  obtain ⟨nn, D, h1, hown, hg⟩ := h.yes b hm
  have hlt := hown.lt
  obtain ⟨es, clock, h2, F, hs, hD⟩ := hown
  exact ⟨nn, D, h1, ⟨es, clock, (hb b hm hlt).trans h2, F, hs, hD⟩, hg⟩
theorem Kids.lt {w : World} {N : Nat} {m : Option Nat} {g : Bz → Option Nat} (h : Kids w N m g) {b : Nat} (hm : m = some b) : b < w.heap.size := by
  obtain ⟨nn, D, h1, hown, hg⟩ := h.yes b hm
  exact hown.lt
theorem Kids.mono {w : World} {N N' : Nat} {m : Option Nat} {g : Bz → Option Nat} (h : Kids w N m g) (hN : N ≤ N') : Kids w N' m g := by
  refine ⟨h.no, fun b hm => ?_⟩
  obtain ⟨nn, D, h1, r⟩ := h.yes b hm
  exact ⟨nn, D, by omega, r⟩
theorem Kids.congr {w : World} {N : Nat} {m : Option Nat} {g g' : Bz → Option Nat} (h : Kids w N m g) (hg : ∀ k, g' k = g k) : Kids w N m g' := by
  have : g' = g := funext hg
  rw [this]; exact h
theorem keyLit (k : Bz) : WideAt.IsKeyLit (.string k) := trivial
theorem Kids.of_put {w : World} {N nn b : Nat} {D : DataW Unit} {g g' : Bz → Option Nat} {k : Bz} {a : Nat} (h : w.ownsMap Tryz.prog 9 ptrR b nn (D.put (.string k) (.lit (.int .i64 a)))) (hn : nn ≤ N) (hD : IsMap D)
    (hg : ∀ x : Bz, D.atKey (.string x) .nil = ptrD (g x) ∧ Maps.has D (.string x) = (g x).isSome) (hg' : ∀ x, g' x = if x = k then some a else g x) : Kids w N (some b) g' := by
  refine ⟨fun e => by (cases e), fun b' e => ?_⟩
  cases e
  refine ⟨nn, _, hn, h, fun x => ?_⟩
  rw [hg']
  by_cases hx : x = k
  · subst hx
    rw [if_pos rfl]
    exact ⟨atKey_put_same hD (keyLit _) _ _, Maps.has_put_same hD (keyLit _) _⟩
  · rw [if_neg hx]
    have hne : (Lit.string x) ≠ .string k := fun e => hx (by injection e)
    exact ⟨(atKey_put_other hne _ _).trans (hg x).1, (Maps.has_put_other hne _).trans (hg x).2⟩
theorem Kids.of_del {w : World} {N nn b : Nat} {D : DataW Unit} {g g' : Bz → Option Nat} {k : Bz} (h : w.ownsMap Tryz.prog 9 ptrR b nn (D.del (.string k))) (hn : nn ≤ N)
    (hg : ∀ x : Bz, D.atKey (.string x) .nil = ptrD (g x) ∧ Maps.has D (.string x) = (g x).isSome) (hg' : ∀ x, g' x = if x = k then none else g x) : Kids w N (some b) g' := by
  refine ⟨fun e => by (cases e), fun b' e => ?_⟩
  cases e
  refine ⟨nn, _, hn, h, fun x => ?_⟩
  rw [hg']
  by_cases hx : x = k
  · subst hx
    rw [if_pos rfl]
    exact ⟨atKey_del_same _, Maps.has_del_same⟩
  · rw [if_neg hx]
    have hne : (Lit.string x) ≠ .string k := fun e => hx (by injection e)
    exact ⟨(atKey_del_other hne _).trans (hg x).1, (Maps.has_del_other hne).trans (hg x).2⟩
theorem kids_made (w : World) (N : Nat) (g : Bz → Option Nat) (hg : ∀ k, g k = none) : (w.alloc (.map #[] 0)).ownsMap Tryz.prog 9 ptrR w.heap.size 0 (.map []) ∧ ∀ x : Bz, (DataW.map (H := Unit) []).atKey (.string x) .nil = ptrD (g x) ∧ Maps.has (DataW.map (H := Unit) []) (.string x) = (g x).isSome :=
  ⟨World.ownsMap_made w _ _ _, fun x => by rw [hg x]; exact ⟨rfl, rfl⟩⟩
end Go.Proofs.YtcmjpkfinbakkaaGreatDoor.Vf
