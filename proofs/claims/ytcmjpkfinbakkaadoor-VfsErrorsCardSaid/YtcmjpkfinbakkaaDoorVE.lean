import Derived.Test.YtcmjpkfinbakkaaDoorIter
import Derived.RegionTactic
import Derived.Deep.QuietTactic
import Derived.Deep.LoopGhost
import Derived.BigQuiet
import Derived.WalkMore
import Derived.Handy
import Derived.BigFrame
import Derived.ChangeArms
import Derived.Carry
import Derived.Test.YtcmjpkfinbakkaaDoorRows
import Derived.WalkKit
import Derived.OwnWalk
import Derived.Lib.Hide
import Derived.Lib.Strings
import Derived.Sort.EncStr
import Derived.Laws.AppendOwn
import Derived.Deep.AppendLies
import Derived.Deep.Draws
import Derived.Sort.OwnSorted
import Derived.Laws.AppendOwnNone
namespace Go.Proofs.YtcmjpkfinbakkaaDoor
open Go.RowKit Go.Maps Go.ChangeMaps
set_option linter.unusedVariables false
section
variable {w : World} {a : Nat} {cs : List Value} {ty : TypeId}
theorem cell_of (hb : w.heap[a]? = some (.cells cs.toArray ty (0, 0))) (i : Nat) : w.cell? ⟨a, i, none⟩ = cs[i]? := by
  simp only [World.cell?, hb]; simp
theorem free_of (hb : w.heap[a]? = some (.cells cs.toArray ty (0, 0))) (i : Nat) : w.frozen? ⟨a, i, none⟩ = false := by
  simp [World.frozen?, hb]
theorem set_of (hb : w.heap[a]? = some (.cells cs.toArray ty (0, 0))) (i : Nat) (v : Value) : (w.setCell ⟨a, i, none⟩ v).heap[a]? = some (.cells (cs.set i v).toArray ty (0, 0)) := by
  have h1 : (w.heap.modify a fun | .cells c elem frozen => Obj.cells (if (none : Option Nat).isSome then c else c.setIfInBounds i v) elem frozen | o => o)[a]? = some (.cells (cs.set i v).toArray ty (0, 0)) := by
    rw [Array.getElem?_modify, if_pos rfl, hb]; simp
  exact h1
theorem blk_lt (hb : w.heap[a]? = some (.cells cs.toArray ty (0, 0))) : a < w.heap.size := (Array.getElem?_eq_some_iff.1 hb).1
end
@[go_sem] theorem eqlMap45 (m : Option Nat) (w : World) : (binOp .eql 43 (.map m) (.map none)).run Tryd.prog w = .ok (.bool m.isNone) w := run_eql_map_nil w 43 9 48 m Tryd.underlying43
theorem addK (b k : Nat) : (⟨b, 0, none⟩ : Addr).add k = ⟨b, k, none⟩ := by unfold Addr.add; split <;> simp_all
def PutP (a kb N : Nat) (cs : List Value) (ty : TypeId) (m : Option Nat) (g : Bz → Option Nat) (s : ByteArray) (w : World) (e : Ending) (w' : World) : Prop :=
  e = .returned (.tuple #[]) ∧ ∃ m', w'.heap[a]? = some (.cells (cs.set 3 (.map m')).toArray ty (0, 0)) ∧ Kids w' (N + 1) m' (fun x => if x = s.data.toList then some kb else g x) ∧ Only (fun j => j = a ∨ m = some j) w w' ∧ ((m' = m ∧ m.isSome) ∨ (m = none ∧ m' = some w.heap.size))
set_option maxRecDepth 100000 in
set_option maxHeartbeats 2000000 in
theorem put_any (a kb N : Nat) (cs : List Value) (ty : TypeId) (m : Option Nat) (g : Bz → Option Nat) (s : ByteArray) (w : World) (hb : w.heap[a]? = some (.cells cs.toArray ty (0, 0))) (hc : cs[3]? = some (.map m)) (hk : Kids w N m g) (hs : s.size ≤ maxLen) (hN : N < maxLen) :
    Calls Tryd.prog 35 #[.pointer (some ⟨a, 0, none⟩), .string s, .pointer (some ⟨kb, 0, none⟩)] w (PutP a kb N cs ty m g s w) := by
  have hkey := Go.WideMaps.keyOf_string_mk Tryd.underlying9 hs
  have hval : ptrR (.pointer (some ⟨kb, 0, none⟩)) = some (.lit (.int .i64 kb), []) := rfl
  have HB := Lib.hid hb
  have HK := Lib.hid hk
  have hcell : w.cell? ⟨a, 3, none⟩ = some (.map m) := (cell_of hb 3).trans hc
  have hfree := free_of hb 3
  obtain ⟨Q', hQ⟩ : ∃ Q', PutP a kb N cs ty m g s w = Q' := ⟨_, rfl⟩
  rw [hQ]
  have HQ := Lib.hid hQ
  have HC := Lib.hid hc
  clear hb hk hQ hc
  cases m with
  | none =>
    have hmm := @run_makeMap Tryd.prog
    obtain ⟨hmade, hg0⟩ := kids_made w N g (fun k => HK.out.no rfl k)
    have HG := Lib.hid hg0
    have hlt := blk_lt HB.out
    have hne : w.heap.size ≠ a := by omega
    obtain ⟨w0, hw0⟩ : ∃ w0, (w.setCell ⟨a, 3, none⟩ (.map (some w.heap.size))).alloc (.map #[] 0) = w0 := ⟨_, rfl⟩
    have hown1 : w0.ownsMap Tryd.prog 9 ptrR w.heap.size 0 (.map []) := by
      have := World.ownsMap_made (w.setCell ⟨a, 3, none⟩ (.map (some w.heap.size))) Tryd.prog 9 ptrR
      rw [hw0] at this
      simpa using this
    have hb0 : Hid (w0.heap[a]? = some (.cells (cs.set 3 (.map (some w.heap.size))).toArray ty (0, 0))) := by
      show w0.heap[a]? = _
      rw [← hw0, (MapKept.heap_alloc _ _).2 a (by simpa using hlt)]
      exact set_of HB.out 3 _
    have ho0 : Hid (Only (fun j => j = a) w w0) := by
      show Only (fun j => j = a) w w0
      rw [← hw0]
      exact ((Only.refl (fun j => j = a) w).set (.inl rfl) 3 _).trans (Only.of_grown (S := fun j => j = a) (World.grownBy_alloc _ _ none) (fun k e => by cases e)) (fun _ h => h) (fun _ _ h => h)
    have HW := Lib.hid hw0
    clear hmade hg0 hw0
    go_enter Tryd.func35, Tryd.ntmps35
    go_wp2_with (at_mapUpdate; rw [HW.out]; refine wpList_mapUpdate_own _ rfl _ _ _ 43 rfl 9 48 keyedS Tryd.underlying43 _ w.heap.size 0 (.map []) rfl hown1 (by omega) _ _ (.string s.data.toList) rfl rfl hkey (.lit (.int .i64 kb)) [] hval ?_; intro w1 h1 g1)
    go_end0
    rw [← HQ.out]
    refine ⟨rfl, some w.heap.size, (g1.block a (blk_lt hb0.out) (by simpa using hne.symm)).trans hb0.out, Kids.of_put h1 (by omega) ⟨_, rfl⟩ HG.out (fun x => rfl), ?_, .inr ⟨rfl, rfl⟩⟩
    exact (ho0.out.trans (Only.of_grown g1 (S := fun j => j = w.heap.size) (fun k e => by cases e; rfl)) (fun i h => .inl h) (fun i hi h => by omega))
  | some b =>
    obtain ⟨nn, D, hnn, hown1, hg0⟩ := HK.out.yes b rfl
    have HG := Lib.hid hg0
    have hne : b ≠ a := by
      intro e
      obtain ⟨es, clock, h2, _⟩ := hown1
      have h3 := HB.out
      rw [← e, h2] at h3
      cases h3
    have hn1 : nn < maxLen := by omega
    clear hg0
    go_enter Tryd.func35, Tryd.ntmps35
    go_wp2_with (at_mapUpdate; refine wpList_mapUpdate_own _ rfl _ _ _ 43 rfl 9 48 keyedS Tryd.underlying43 _ b nn D rfl hown1 hn1 _ _ (.string s.data.toList) rfl rfl hkey (.lit (.int .i64 kb)) [] hval ?_; intro w1 h1 g1)
    go_end0
    rw [← HQ.out]
    refine ⟨rfl, some b, ?_, Kids.of_put h1 (by omega) (hown1.isMap) HG.out (fun x => rfl), Only.of_grown g1 (fun k e => by cases e; exact .inr rfl), .inl ⟨rfl, rfl⟩⟩
    rw [g1.block a (blk_lt HB.out) (by simpa using hne.symm), HB.out]
    congr 3
    have h4 := HC.out
    refine List.ext_getElem? fun i => ?_
    rw [List.getElem?_set]
    by_cases hi : 3 = i
    · subst hi
      rw [if_pos rfl, h4]
      have : 3 < cs.length := by
        by_cases hl : 3 < cs.length
        · exact hl
        · rw [List.getElem?_eq_none (by omega)] at h4; cases h4
      simp [this]
    · rw [if_neg hi]
end Go.Proofs.YtcmjpkfinbakkaaDoor

namespace Go.Proofs.YtcmjpkfinbakkaaDoor
open Go.RowKit

abbrev Bs := List UInt8
def gb (s : ByteArray) (i : Nat) : UInt8 := s.data.toList.getD i 0
theorem gb_eq (s : ByteArray) (i : Nat) (h : i < s.size) : s[i] = gb s i := by
  have : i < s.data.toList.length := by simpa using h
  unfold gb
  rw [List.getD_eq_getElem?_getD, List.getElem?_eq_getElem this]; rfl

/-- The pieces between the strokes. -/
def sp : Bs → List Bs
  | [] => [[]]
  | c :: t => if c = 47 then [] :: sp t else match sp t with
    | [] => [[c]]
    | a :: r => (c :: a) :: r
def push (l : List Bs) (s : Bs) : List Bs := if s = [] ∨ s = [46] then l else if s = [46, 46] then l.dropLast else l ++ [s]

theorem sp_all : ∀ a : Bs, (∀ c ∈ a, c ≠ 47) → sp a = [a]
  | [], _ => rfl
  | c :: t, h => by
    rw [sp, if_neg (h c (by simp)), sp_all t (fun x hx => h x (by simp [hx]))]
theorem sp_cut : ∀ (a t : Bs), (∀ c ∈ a, c ≠ 47) → sp (a ++ 47 :: t) = a :: sp t
  | [], t, _ => by simp [sp]
  | c :: a, t, h => by
    rw [List.cons_append, sp, if_neg (h c (by simp)), sp_cut a t (fun x hx => h x (by simp [hx]))]

/-- The bytes of s from f up to i. -/
def seg (s : ByteArray) (f i : Nat) : Bs := (s.data.toList.take i).drop f
theorem seg_ext (s : ByteArray) (f i : Nat) : (s.extract f i).toList = seg s f i := by
  rw [Lib.extract_toList]
  unfold seg
  rw [List.drop_take]
theorem seg_no (s : ByteArray) (f i : Nat) (hi : i ≤ s.size) (h : ∀ j, f ≤ j → j < i → gb s j ≠ 47) : ∀ c ∈ seg s f i, c ≠ 47 := by
  intro c hc
  obtain ⟨j, hj, rfl⟩ := List.mem_iff_getElem.1 hc
  have hl : s.data.toList.length = s.size := Array.length_toList
  unfold seg at hj ⊢
  rw [List.length_drop, List.length_take] at hj
  have := h (f + j) (by omega) (by omega)
  rw [List.getElem_drop, List.getElem_take]
  unfold gb at this
  rw [List.getD_eq_getElem?_getD, List.getElem?_eq_getElem (by omega)] at this
  exact this
theorem seg_end (s : ByteArray) (f : Nat) : seg s f s.size = s.data.toList.drop f := by
  have hl : s.data.toList.length = s.size := Array.length_toList
  unfold seg
  rw [List.take_of_length_le (by omega)]
theorem seg_cut (s : ByteArray) (f i : Nat) (hf : f ≤ i) (hi : i < s.size) : s.data.toList.drop f = seg s f i ++ gb s i :: s.data.toList.drop (i + 1) := by
  have hl : s.data.toList.length = s.size := Array.length_toList
  have hb : s.data.toList.drop i = gb s i :: s.data.toList.drop (i + 1) := by
    rw [List.drop_eq_getElem_cons (by omega)]
    unfold gb
    rw [List.getD_eq_getElem?_getD, List.getElem?_eq_getElem (by omega)]; rfl
  rw [← hb]
  unfold seg
  conv => lhs; rw [← List.take_append_drop i s.data.toList]
  rw [List.drop_append_of_le_length (by rw [List.length_take]; omega)]

theorem push_len (l : List Bs) (s : Bs) : (push l s).length ≤ l.length + 1 := by
  unfold push
  split
  · omega
  · split
    · simp; omega
    · simp

theorem cut_step {p : ByteArray} {f i : Nat} {l R : List Bs} (hf : f ≤ i) (hi : i < p.size) (hno : ∀ j, f ≤ j → j < i → gb p j ≠ 47) (h47 : gb p i = 47) (hR : (sp (p.data.toList.drop f)).foldl push l = R) :
    (sp (p.data.toList.drop (i + 1))).foldl push (push l (seg p f i)) = R := by
  rw [seg_cut p f i hf hi, h47, sp_cut _ _ (seg_no p f i (by omega) hno)] at hR
  exact hR
theorem end_step {p : ByteArray} {f : Nat} {l R : List Bs} (hno : ∀ j, f ≤ j → j < p.size → gb p j ≠ 47) (hR : (sp (p.data.toList.drop f)).foldl push l = R) :
    push l (seg p f p.size) = R := by
  rw [← seg_end, sp_all _ (seg_no p f p.size (Nat.le_refl _) hno)] at hR
  exact hR
end Go.Proofs.YtcmjpkfinbakkaaDoor

namespace Go.Proofs.YtcmjpkfinbakkaaDoor
open Go.RowKit

theorem info9 : (Tryd.prog.info? 9).map (fun i => (i.zero, i.size, i.bytes)) = some (some (.string ⟨#[]⟩), 1, 16) := by kernel_rfl
theorem elem30 : Tryd.prog.elem 29 = 9 := by kernel_rfl

theorem push_dd (l : List Bs) : push l [46, 46] = l.dropLast := by
  unfold push
  rw [if_neg (by simp), if_pos rfl]
theorem slice_last (g n c : Nat) (hn : 0 < n) (hc : n ≤ c) :
    ∀ w, (Instr.slice 29 (.slice (some ⟨g, 0, none⟩) n c) none (some (.int .i64 ((n : Int) - 1))) none).run Tryd.prog w = .ok (.slice (some ⟨g, 0, none⟩) (n - 1) c) w := by
  intro w
  rw [run_slice_h (P := Tryd.prog) (w := w) 29 (some ⟨g, 0, none⟩) n c (by rw [elem30]; exact Tryd.underlying29) .i64 ((n : Int) - 1) (by omega) (by omega), elem30, Tryd.sizeOf9]
  simp [Result.andThen, sliced, Addr.add]
theorem own_cap {w : World} {B g n c : Nat} {xs : List Value} (h : w.ownsRow B 9 1 (.slice (some ⟨g, 0, none⟩) n c) n xs) (hn : 0 < n) : n ≤ c := by
  rcases h.2 with ⟨_, h0⟩ | ⟨g', c', cur, hv, _, _, h1, _⟩
  · omega
  · injection hv with _ _ e
    rw [e]; exact h1
theorem own_last {w : World} {B g c : Nat} {l : List Bs} (h : w.ownsRow B 9 1 (.slice (some ⟨g, 0, none⟩) l.length c) l.length (l.map encStr)) (hn : 0 < l.length) :
    w.ownsRow B 9 1 (.slice (some ⟨g, 0, none⟩) (l.length - 1) c) (l.length - 1) (l.dropLast.map encStr) := by
  rcases h.2 with ⟨_, h0⟩ | ⟨g', c', cur, hv, hb, hg, h1, h2, h3, h4⟩
  · omega
  · injection hv with e1 _ e3
    subst e3
    injection e1 with e1
    injection e1 with e1
    subst e1
    refine ⟨by simp, .inr ⟨g, c, cur, rfl, hb, hg, by omega, h2, h3, ?_⟩⟩
    rw [List.dropLast_eq_take, List.map_take, ← h4, List.take_take, Nat.mul_one, Nat.mul_one, Nat.min_eq_left (by omega)]
theorem enc_of {s : ByteArray} {sg : Bs} (h : s.toList = sg) : Value.string s = encStr sg := by
  rw [Lib.toList_data] at h
  rw [← h]
theorem own_form {w : World} {B n : Nat} {v : Value} {xs : List Value} (h : w.ownsRow B 9 1 v n xs) : ∃ A c, v = .slice A n c := by
  rcases h.2 with ⟨h1, h0⟩ | ⟨g, c, _, h1, _⟩
  · exact ⟨none, 0, by rw [h1, h0]⟩
  · exact ⟨_, c, h1⟩

/-- The loop of names. -/
structure NR (B : Nat) (w wr : World) (p : ByteArray) (n0 : Nat) (v : Value) (f i : Nat) (l R : List Bs) : Prop where
  fi : f ≤ i
  ip : i ≤ p.size + 1
  own : wr.ownsRow B 9 1 v l.length (l.map encStr)
  len : l.length ≤ n0 + i
  old : Below B w wr
  no : ∀ j, f ≤ j → j < i → j < p.size → gb p j ≠ 47
  goes : i ≤ p.size → (sp (p.data.toList.drop f)).foldl push l = R
  ends : i = p.size + 1 → l = R

theorem NR.cut {B : Nat} {w wr wr' : World} {p : ByteArray} {n0 : Nat} {x x' : Value} {f i : Nat} {l R : List Bs} (h : NR B w wr p n0 x f i l R) (hc : i < p.size ∧ gb p i = 47 ∨ i = p.size)
    (hown : wr'.ownsRow B 9 1 x' (push l (seg p f i)).length ((push l (seg p f i)).map encStr)) (hB : Below B w wr') : NR B w wr' p n0 x' (i + 1) (i + 1) (push l (seg p f i)) R := by
  refine ⟨Nat.le_refl _, by have := h.ip; omega, hown, ?_, hB, fun j h1 h2 => by omega, fun hi => ?_, fun hi => ?_⟩
  · have := push_len l (seg p f i)
    have := h.len
    omega
  · rcases hc with ⟨h1, h2⟩ | h1
    · exact cut_step h.fi h1 (fun j a b => h.no j a b (by omega)) h2 (h.goes (by omega))
    · omega
  · rcases hc with ⟨h1, h2⟩ | h1
    · omega
    · subst h1
      exact end_step (fun j a b => h.no j a b b) (h.goes (Nat.le_refl _))
theorem NR.skip {B : Nat} {w wr : World} {p : ByteArray} {n0 : Nat} {x : Value} {f i : Nat} {l R : List Bs} (h : NR B w wr p n0 x f i l R) (hi : i < p.size) (hc : gb p i ≠ 47) : NR B w wr p n0 x f (i + 1) l R := by
  refine ⟨by have := h.fi; omega, by omega, h.own, by have := h.len; omega, h.old, fun j h1 h2 h3 => ?_, fun _ => h.goes (by omega), fun e => by omega⟩
  by_cases e : j = i
  · subst e; exact hc
  · exact h.no j h1 (by omega) h3

end Go.Proofs.YtcmjpkfinbakkaaDoor

namespace Go.Proofs.YtcmjpkfinbakkaaDoor
open Go.RowKit Go.Maps Go.ChangeMaps
set_option linter.unusedVariables false
/-- Where the way to a place ends: 0, or 6 (there is no node), or 11 (a file is on the way). -/
def wayE (T : Tr) : Pth → Pth → Nat
  | _, [] => 0
  | _, [_] => 0
  | pre, k :: l :: r => match T (pre ++ [k]) with
    | none => 6
    | some n => if n.file = true then 11 else wayE T (pre ++ [k]) (l :: r)
def spotV (d : Value) (nm : ByteArray) (n : Value) (ns : Value) : Value := .agg #[d, .string nm, n, ns]
def spot0 : Value := spotV (.pointer none) ⟨#[]⟩ (.pointer none) (.slice none 0 0)
theorem below_drewN {a w : World} (h : Below a.heap.size a w) (n : Nat) : Below a.heap.size a (w.drewN n) := ⟨h.os, h.tape, h.output, h.size, h.block⟩
set_option maxRecDepth 100000 in
set_option maxHeartbeats 2000000 in
theorem walk_root (f : Nat) (Ad : Option Addr) (c : Nat) (w : World) :
    Calls Tryd.prog 33 #[.pointer (some ⟨f, 0, none⟩), .slice Ad 0 c] w fun e w' => e = .returned (.tuple #[spotV (.pointer none) ⟨#[]⟩ (.pointer (some ⟨f, 0, none⟩)) (.slice none 0 0), .int .i64 0]) ∧ Below w.heap.size w w' := by
  go_enter Tryd.func33, Tryd.ntmps33
  go_wp2_with fail
  refine wp_scope_straight ?_
  go_wp2_with fail
  simp +zetaDelta only [Exit.noGoto_ret]
  refine bodyPost_ret (v := .tuple #[spotV (.pointer none) ⟨#[]⟩ (.pointer (some ⟨f, 0, none⟩)) (.slice none 0 0), .int .i64 0]) ?_ rfl ?_
  · simp [results, Tryd.results65, go_sem]
    rfl
  · exact ⟨rfl, (Below.refl _ _).alloc (Nat.le_refl _) _⟩
theorem below4 {w W : World} (h : Below w.heap.size w W) (v0 v1 v2 v3 : Value) : Below w.heap.size w ((((W.setCell ⟨w.heap.size, 0, none⟩ v0).setCell ⟨w.heap.size, 1, none⟩ v1).setCell ⟨w.heap.size, 2, none⟩ v2).setCell ⟨w.heap.size, 3, none⟩ v3) :=
  (((h.setCell (p := ⟨w.heap.size, 0, none⟩) (Nat.le_refl _) v0).setCell (p := ⟨w.heap.size, 1, none⟩) (Nat.le_refl _) v1).setCell (p := ⟨w.heap.size, 2, none⟩) (Nat.le_refl _) v2).setCell (p := ⟨w.heap.size, 3, none⟩) (Nat.le_refl _) v3
/-- What the walk's end says: the place's spot. -/
def WalkP (T : Tr) (A : Pth → Nat) (M : Pth → Option Nat) (L : Pth) (nv : Value) (w : World) (e : Ending) (w' : World) : Prop :=
  Below w.heap.size w w' ∧ ((wayE T [] L ≠ 0 ∧ e = .returned (.tuple #[spot0, .int .i64 (wayE T [] L)])) ∨
    (wayE T [] L = 0 ∧ ∃ d k dn, L = d ++ [k] ∧ T d = some dn ∧ dn.file = false ∧ e = .returned (.tuple #[spotV (.pointer (some ⟨A d, 0, none⟩)) ⟨k.toArray⟩ (ptrV (kidsOf T A d k)) nv, .int .i64 0])))
theorem wayE_step {T : Tr} {L : Pth} {i : Nat} (hi : i + 1 < L.length) (pre : Pth) : wayE T pre (L.drop i) = match T (pre ++ [L[i]]) with
    | none => 6
    | some n => if n.file = true then 11 else wayE T (pre ++ [L[i]]) (L.drop (i + 1)) := by
  rw [List.drop_eq_getElem_cons (by omega), List.drop_eq_getElem_cons (l := L) (i := i + 1) (by omega)]
  rfl
theorem wayE_last {T : Tr} {L : Pth} {i : Nat} (hi : i + 1 = L.length) (pre : Pth) : wayE T pre (L.drop i) = 0 := by
  rw [List.drop_eq_getElem_cons (by omega), List.drop_eq_nil_of_le (by omega)]
  rfl
set_option maxRecDepth 100000 in
set_option maxHeartbeats 4000000 in
theorem walk_any (f g c base n0 : Nat) (L : Pth) (w : World) {B N : Nat} {tl : List Value} {T : Tr} {A : Pth → Nat} {M : Pth → Option Nat} {V : Pth → Value} (hT : TreeAt w B N f 47 tl T A M V) {r0 : Nd} (h0 : T [] = some r0) (hr0 : r0.file = false)
    (hL : 0 < L.length) (hL2 : L.length ≤ 1000000) (hc : L.length ≤ c) (hS : ∀ i (h : i < L.length), w.cell? ⟨g, i, none⟩ = some (.string ⟨L[i].toArray⟩)) (hs : ∀ x ∈ L, x.length ≤ maxLen) :
    Calls Tryd.prog 33 #[.pointer (some ⟨f, 0, none⟩), .slice (some ⟨g, 0, none⟩) L.length c] w (WalkP T A M L (.slice (some ⟨g, 0, none⟩) L.length c) w) := by
  have hsl := slice_last g L.length c hL hc
  have HT := Lib.hid hT
  have HS := Lib.hid hS
  have Hs := Lib.hid hs
  have hq := hS (L.length - 1) (by omega)
  obtain ⟨n1, hn1⟩ : ∃ n1, n1 + 1 = L.length := ⟨L.length - 1, by omega⟩
  obtain ⟨ln, hln⟩ : ∃ ln, L.length = ln := ⟨_, rfl⟩
  have HLN := Lib.hid hln
  have H0 := Lib.hid h0
  have hd0 : ((ln : Int) == 0) = false := by simp; omega
  have hwr : IntKind.i64.wrap ((ln : Int) - 1) = (n1 : Int) := by rw [show (ln : Int) - 1 = (n1 : Int) by omega]; exact IntWalk.i64_in _ (by omega)
  obtain ⟨lst, hlst⟩ : ∃ lst : Bz, L[n1]'(by omega) = lst := ⟨_, rfl⟩
  have hq2 : w.cell? ⟨g, n1, none⟩ = some (.string ⟨lst.toArray⟩) := by rw [← hlst]; exact hS n1 (by omega)
  have HLST := Lib.hid hlst
  rw [hln] at hsl hn1 ⊢
  have hsl2 : ∀ w, (Instr.slice 29 (.slice (some ⟨g, 0, none⟩) ln c) none (some (.int .i64 (n1 : Int))) none).run Tryd.prog w = .ok (.slice (some ⟨g, 0, none⟩) n1 c) w := by
    intro w
    have := hsl w
    rw [show ((ln : Int) - 1) = (n1 : Int) by omega, show ln - 1 = n1 by omega] at this
    exact this
  have hg : g < w.heap.size := by
    by_cases h : g < w.heap.size
    · exact h
    · have := hq2
      simp only [World.cell?, Array.getElem?_eq_none (Nat.le_of_not_lt h)] at this
      cases this
  have hn1c : (n1 : Int) < (ln : Int) := by omega
  have hn10 : (0 : Int) ≤ (n1 : Int) := by omega
  clear hsl hq hT hS hs hlst h0
  go_enter Tryd.func33, Tryd.ntmps33
  go_wp2_with fail
  refine wp_scope_straight ?_
  go_wp2_with fail
  have hq3 : (w.alloc (.cells #[.pointer none, .string ⟨#[]⟩, .pointer none, .slice none 0 0] 50)).cell? ⟨g, n1, none⟩ = some (.string ⟨lst.toArray⟩) := by
    rw [World.cell?_alloc_old _ _ _ (Nat.ne_of_lt hg)]; exact hq2
  go_quiet (fail)
  obtain ⟨W, hW⟩ : ∃ W, (w.alloc (.cells #[.pointer none, .string ⟨#[]⟩, .pointer none, .slice none 0 0] 50)).drewN nq = W := ⟨_, rfl⟩
  rw [hW]
  have hbel : Below w.heap.size w W := by
    rw [← hW]
    exact below_drewN ((Below.refl _ _).alloc (Nat.le_refl _) _) _
  have hbox : W.heap[w.heap.size]? = some (.cells [.pointer none, .string ⟨#[]⟩, .pointer none, .slice none 0 0].toArray 50 (0, 0)) := by
    rw [← hW]
    exact heap_alloc_new w _
  have HTW := Lib.hid (HT.out.only (X := fun _ => False) (Only.of_below hbel) (fun _ h => h.elim))
  have hSW : ∀ i (h : i < L.length), W.cell? ⟨g, i, none⟩ = some (.string ⟨L[i].toArray⟩) := fun i h => (hbel.cell (p := ⟨g, i, none⟩) hg).trans (HS.out i h)
  have HSW := Lib.hid hSW
  have q0 := cell_of hbox 0
  have q1 := cell_of hbox 1
  have q2 := cell_of hbox 2
  have q3 := cell_of hbox 3
  have r0' := free_of hbox 0
  have r1' := free_of hbox 1
  have r2' := free_of hbox 2
  have r3' := free_of hbox 3
  simp only [List.getElem?_cons_zero, List.getElem?_cons_succ] at q0 q1 q2 q3
  have HBOX := Lib.hid hbox
  have HBEL := Lib.hid hbel
  have hwW : w.heap.size < W.heap.size := blk_lt hbox
  have key : ∀ p n (x : Bz), x.length ≤ maxLen → T p = some n → W.cell? ⟨A p, 3, none⟩ = some (.map (M p)) ∧ W.cell? ⟨A p, 0, none⟩ = some (.bool n.file) ∧ (Instr.lookup 43 (.map (M p)) (.string ⟨x.toArray⟩) false).run Tryd.prog W = .ok (ptrV (kidsOf T A p x)) W := fun p n x hx hp => by
    have hb := HTW.out.blk p n hp
    refine ⟨(cell_of hb 3).trans rfl, (cell_of hb 0).trans rfl, ?_⟩
    have := (HTW.out.kids p n hp).look ⟨x.toArray⟩ (by simpa [ByteArray.size] using hx)
    simpa using this
  have KEY := Lib.hid key
  obtain ⟨E, hE⟩ : ∃ E, wayE T [] L = E := ⟨_, rfl⟩
  have HE := Lib.hid hE
  have HA0 := Lib.hid HT.out.a0
  have HQ : Hid (WalkP T A M L (.slice (some ⟨g, 0, none⟩) ln c) w = WalkP T A M L (.slice (some ⟨g, 0, none⟩) ln c) w) := rfl
  clear hW hbel hbox hSW key hE hq2 hq3
  go_wp2_with fail
  refine wp_label ?_
  go_wp2_with fail
  go_loopw [6, 7, 36] (fun at' er i wx => ∃ (k : Nat) (dn : Nd), k ≤ n1 ∧ i = .int .i64 k ∧ er = .int .i64 0 ∧ at' = .pointer (some ⟨A (L.take k), 0, none⟩) ∧ wx = W ∧ Hid (wayE T (L.take k) (L.drop k) = E ∧ T (L.take k) = some dn ∧ dn.file = false)) (fun _ _ i _ => n1 - (intOf i).toNat)
  case atStart => exact ⟨0, r0, Nat.zero_le _, rfl, rfl, by rw [List.take_zero, HA0.out], rfl, HE.out, H0.out, hr0⟩
  case round =>
    obtain ⟨k, dn, hk, rfl, rfl, rfl, rfl, HR⟩ := hrel
    have hkI : (0 : Int) ≤ (k : Int) := by omega
    by_cases hlt : k < n1
    · have hltI : (k : Int) < (n1 : Int) := by omega
      have hltd : decide ((k : Int) < (n1 : Int)) = true := decide_eq_true hltI
      have hkl : k + 1 < L.length := by have := HLN.out; omega
      have b1 : IntKind.i64.wrap ((k : Int) + 1) = (k : Int) + 1 := IntWalk.i64_in _ (by omega)
      obtain ⟨x, hx⟩ : ∃ x, L[k] = x := ⟨_, rfl⟩
      have hxs : x.length ≤ maxLen := Hs.out x (by rw [← hx]; exact List.getElem_mem _)
      have hcx := HSW.out k (by omega)
      rw [hx] at hcx
      obtain ⟨hm, _, hlk⟩ := KEY.out _ dn x hxs HR.out.2.1
      have hst := wayE_step (T := T) hkl (L.take k)
      rw [hx, HR.out.1] at hst
      have htk : L.take k ++ [x] = L.take (k + 1) := by rw [← hx]; exact List.take_append_getElem (by omega)
      rw [htk] at hst
      have adk := addK g k
      have hpre : 0 < k ∨ k = 0 := by omega
      cases hTx : T (L.take (k + 1)) with
      | none =>
        rw [hTx] at hst
        have hkv : kidsOf T A (L.take k) x = none := by unfold kidsOf; rw [htk, hTx]; rfl
        rw [hkv] at hlk
        simp only [ptrV] at hlk
        have HST := Lib.hid hst
        clear hst hTx hkv htk hx hpre
        go_wp2_with fail
        try simp +zetaDelta only [Exit.noGoto_ret]
        refine bodyPost_ret (v := .tuple #[spot0, .int .i64 6]) ?_ rfl ?_
        · simp [results, Tryd.results65, go_sem, q0, q1, q2, q3]
          rfl
        · refine ⟨?_, .inl ?_⟩
          · exact below4 HBEL.out _ _ _ _
          · have e6 : wayE T [] L = 6 := HE.out.trans HST.out
            rw [e6]; exact ⟨by decide, rfl⟩
      | some n =>
        rw [hTx] at hst
        dsimp only at hst
        have hkv : kidsOf T A (L.take k) x = some (A (L.take (k + 1))) := by unfold kidsOf; rw [htk, hTx]; rfl
        rw [hkv] at hlk
        simp only [ptrV] at hlk
        obtain ⟨hm2, hf2, _⟩ := KEY.out _ n x hxs hTx
        cases hnf : n.file with
        | true =>
          rw [hnf] at hf2
          rw [hnf, if_pos rfl] at hst
          have HST := Lib.hid hst
          clear hst hTx hkv htk hx hpre hm2
          go_wp2_with fail
          try simp +zetaDelta only [Exit.noGoto_ret]
          refine bodyPost_ret (v := .tuple #[spot0, .int .i64 11]) ?_ rfl ?_
          · simp [results, Tryd.results65, go_sem, q0, q1, q2, q3]
            rfl
          · refine ⟨?_, .inl ?_⟩
            · exact below4 HBEL.out _ _ _ _
            · have e6 : wayE T [] L = 11 := HE.out.trans HST.out
              rw [e6]; exact ⟨by decide, rfl⟩
        | false =>
          rw [hnf] at hf2
          rw [hnf, if_neg (by simp)] at hst
          have HST := Lib.hid hst
          have HTX := Lib.hid hTx
          have HNF := Lib.hid hnf
          clear hst hTx hkv htk hx hpre hm2 hnf
          go_wp2_with fail
          go_roundw
          case measure => simp [intOf]; omega
          case rel =>
           exact ⟨k + 1, n, by omega, by go_num, rfl, rfl, trivial, HST.out.symm, HTX.out, HNF.out⟩
    · obtain rfl : k = n1 := by omega
      have hltd : decide ((k : Int) < (k : Int)) = false := decide_eq_false (by omega)
      obtain ⟨hm, _, hlk⟩ := KEY.out _ dn lst (Hs.out lst (by rw [← HLST.out]; exact List.getElem_mem _)) HR.out.2.1
      obtain ⟨kv, hkv⟩ : ∃ kv, ptrV (kidsOf T A (L.take k) lst) = .pointer kv := by cases kidsOf T A (L.take k) lst <;> exact ⟨_, rfl⟩
      rw [hkv] at hlk
      have HKV := Lib.hid hkv
      clear hkv
      go_wp2_with fail
      simp +zetaDelta only [Exit.noGoto_ret]
      refine bodyPost_ret (v := .tuple #[spotV (.pointer (some ⟨A (L.take k), 0, none⟩)) ⟨lst.toArray⟩ (.pointer kv) (.slice (some ⟨g, 0, none⟩) ln c), .int .i64 0]) ?_ rfl ?_
      · simp [results, Tryd.results65, go_sem, q0, q1, q2, q3]
        rfl
      · refine ⟨?_, .inr ⟨?_, L.take k, lst, dn, ?_, HR.out.2.1, HR.out.2.2, ?_⟩⟩
        · exact below4 HBEL.out _ _ _ _
        · rw [HE.out, ← HR.out.1]
          exact wayE_last (by rw [hn1, HLN.out]) _
        · have := List.take_append_getElem (l := L) (i := k) (by omega)
          rw [HLST.out] at this
          rw [this, hn1, ← HLN.out, List.take_length]
        · rw [HKV.out]
end Go.Proofs.YtcmjpkfinbakkaaDoor

namespace Go.Proofs.YtcmjpkfinbakkaaDoor
open Go.RowKit

/-- The names of a path as it is seen from a directory. -/
def parts (cwd p : ByteArray) : List Bs :=
  (sp p.data.toList).foldl push (if 0 < p.size ∧ gb p 0 = 47 then [] else (sp cwd.data.toList).foldl push [])

theorem push_fold_len (P : List Bs) : ∀ l : List Bs, (P.foldl push l).length ≤ l.length + P.length := by
  induction P with
  | nil => intro l; simp
  | cons a P ih =>
    intro l
    have h1 := ih (push l a)
    have h2 := push_len l a
    simp only [List.foldl_cons, List.length_cons]
    omega
theorem sp_len : ∀ a : Bs, (sp a).length ≤ a.length + 1
  | [] => by simp [sp]
  | c :: t => by
    have h := sp_len t
    rw [sp]
    split
    · simp; omega
    · split
      · simp
      · rename_i a r e
        rw [e] at h
        simp at h ⊢
        omega

end Go.Proofs.YtcmjpkfinbakkaaDoor

namespace Go.Proofs.YtcmjpkfinbakkaaDoor
open Go.RowKit

/-- Names, a stroke ahead of each. -/
def joined (L : List Bs) : Bs := L.flatMap (47 :: ·)
def written (L : List Bs) : Bs := if L = [] then [47] else joined L
theorem joined_snoc (L : List Bs) (x : Bs) : joined (L ++ [x]) = joined L ++ 47 :: x := by simp [joined]
theorem joined_nil {L : List Bs} (h : joined L = []) : L = [] := by
  cases L with
  | nil => rfl
  | cons a l => simp [joined] at h
theorem joined_take (L : List Bs) (k : Nat) (x : Bs) (hk : k < L.length) (hx : L[k] = x) : joined (L.take (k + 1)) = joined (L.take k) ++ 47 :: x := by
  rw [List.take_add_one, List.getElem?_eq_getElem hk, hx]
  exact joined_snoc _ _
theorem joined_len (L : List Bs) (k : Nat) : (joined (L.take k)).length ≤ (joined L).length := by
  conv => rhs; rw [← List.take_append_drop k L]
  unfold joined
  rw [List.flatMap_append, List.length_append]
  omega
theorem bytes_eq {s : ByteArray} {l : Bs} (h : s.data.toList = l) : s = ⟨l.toArray⟩ := by rw [← h]

end Go.Proofs.YtcmjpkfinbakkaaDoor

namespace Go.Proofs.YtcmjpkfinbakkaaDoor
open Go.RowKit

theorem joined_cons (a : Bs) (L : List Bs) : (joined (a :: L)).length = a.length + 1 + (joined L).length := by
  simp [joined]
  omega
theorem joined_app (L M : List Bs) : (joined (L ++ M)).length = (joined L).length + (joined M).length := by
  simp [joined]
theorem joined_sp : ∀ a : Bs, (joined (sp a)).length = a.length + 1
  | [] => by simp [sp, joined]
  | c :: t => by
    have h := joined_sp t
    rw [sp]
    split
    · rw [joined_cons, h]; simp; omega
    · split
      · rename_i e
        rw [e] at h
        simp [joined] at h
      · rename_i a r e
        rw [e, joined_cons] at h
        rw [joined_cons]
        simp only [List.length_cons]
        omega
theorem joined_drop (l : List Bs) : (joined l.dropLast).length ≤ (joined l).length := by
  rw [List.dropLast_eq_take]; exact joined_len l _
theorem joined_push (l : List Bs) (s : Bs) : (joined (push l s)).length ≤ (joined l).length + (s.length + 1) := by
  unfold push
  split
  · omega
  · split
    · have := joined_drop l; omega
    · rw [joined_app, joined_cons]; simp [joined]
theorem joined_fold (P : List Bs) : ∀ l : List Bs, (joined (P.foldl push l)).length ≤ (joined l).length + (joined P).length := by
  induction P with
  | nil => intro l; simp
  | cons a P ih =>
    intro l
    have h1 := ih (push l a)
    have h2 := joined_push l a
    rw [List.foldl_cons, joined_cons]
    omega
theorem parts_joined (cwd p : ByteArray) : (joined (parts cwd p)).length ≤ cwd.size + p.size + 2 := by
  have h1 := joined_fold (sp p.data.toList) (if 0 < p.size ∧ gb p 0 = 47 then [] else (sp cwd.data.toList).foldl push [])
  have h2 := joined_fold (sp cwd.data.toList) []
  have l1 : p.data.toList.length = p.size := Array.length_toList
  have l2 : cwd.data.toList.length = cwd.size := Array.length_toList
  rw [joined_sp] at h1 h2
  unfold parts
  split at h1 <;> rename_i hc
  · rw [if_pos hc]; simp [joined] at h1 h2 ⊢; omega
  · rw [if_neg hc]; simp [joined] at h1 h2 ⊢; omega
theorem parts_len (cwd p : ByteArray) : (parts cwd p).length ≤ cwd.size + p.size + 2 := by
  have h := parts_joined cwd p
  have : ∀ L : List Bs, L.length ≤ (joined L).length := fun L => by
    induction L with
    | nil => simp
    | cons a L ih => rw [joined_cons, List.length_cons]; omega
  have := this (parts cwd p)
  omega

end Go.Proofs.YtcmjpkfinbakkaaDoor

namespace Go.Proofs.YtcmjpkfinbakkaaDoor
open Go.RowKit

/-- Where a byte is first. -/
def at_ (s : ByteArray) (c : UInt8) : Nat → Nat → Int
  | 0, _ => -1
  | n + 1, k => if k < s.size then (if gb s k = c then (k : Int) else at_ s c n (k + 1)) else -1

end Go.Proofs.YtcmjpkfinbakkaaDoor

namespace Go.Proofs.YtcmjpkfinbakkaaDoor
open Go.RowKit

def StrsL (w : World) (a : Option Addr) (L : List Bs) : Prop := 0 < L.length → ∃ g off, a = some ⟨g, off, none⟩ ∧ g < w.heap.size ∧ ∀ i (h : i < L.length), w.cell? ⟨g, off + i, none⟩ = some (encStr L[i])
theorem strs_own {w : World} {B : Nat} {a : Option Addr} {c : Nat} {L : List Bs} (h : w.ownsRow B 9 1 (.slice a L.length c) L.length (L.map encStr)) : StrsL w a L := fun hn => by
  obtain ⟨g, c', ea, _, hg⟩ := h.form hn
  injection ea with e1 _ _
  subst e1
  refine ⟨g, 0, rfl, hg, fun i hi => ?_⟩
  have := World.ownsRow.cellAt (g := g) (by simpa using h) i (by omega)
  rw [Nat.zero_add, this]
  simp [hi]

theorem draws (w : World) (m q : Nat) : (w.drewN m).drewN q = w.drewN (m + q) := by simp [World.drewN, Nat.add_assoc]

end Go.Proofs.YtcmjpkfinbakkaaDoor

namespace Go.Proofs.YtcmjpkfinbakkaaDoor
open Go.RowKit

theorem elemS : Tryd.prog.elem 29 = 9 := by kernel_rfl
theorem slice_from (g off n c k : Nat) (hk : k ≤ n) :
    ∃ off', (k < c → off' = off + k) ∧ ∀ w, (Instr.slice 29 (.slice (some ⟨g, off, none⟩) n c) (some (.int .i64 k)) none none).run Tryd.prog w = .ok (.slice (some ⟨g, off', none⟩) (n - k) (c - k)) w := by
  refine ⟨if c = k then off else off + k, fun h => by rw [if_neg (by omega)], fun w => ?_⟩
  rw [run_slice_l (P := Tryd.prog) (w := w) 29 (some ⟨g, off, none⟩) n c (by rw [elemS]; exact Tryd.underlying29) .i64 (k : Int) (by omega) (by omega), elemS, Tryd.sizeOf9]
  simp only [Result.andThen, sliced, Int.toNat_natCast]
  by_cases h : c = k
  · simp [h]
  · simp [h, Addr.add]
theorem slice_to (g off n c k : Nat) (hk : k ≤ c) :
    ∀ w, (Instr.slice 29 (.slice (some ⟨g, off, none⟩) n c) none (some (.int .i64 k)) none).run Tryd.prog w = .ok (.slice (some ⟨g, off, none⟩) k c) w := by
  intro w
  rw [run_slice_h (P := Tryd.prog) (w := w) 29 (some ⟨g, off, none⟩) n c (by rw [elemS]; exact Tryd.underlying29) .i64 (k : Int) (by omega) (by omega), elemS, Tryd.sizeOf9]
  simp [Result.andThen, sliced, Addr.add]
theorem slice_nil_from : ∀ w, (Instr.slice 29 (.slice none 0 0) (some (.int .i64 0)) none none).run Tryd.prog w = .ok (.slice none 0 0) w := by
  intro w
  have := run_slice_l (P := Tryd.prog) (w := w) 29 none 0 0 (by rw [elemS]; exact Tryd.underlying29) .i64 0 (by omega) (by omega)
  rw [this, elemS, Tryd.sizeOf9]
  simp [Result.andThen, sliced]
theorem slice_nil_to : ∀ w, (Instr.slice 29 (.slice none 0 0) none (some (.int .i64 0)) none).run Tryd.prog w = .ok (.slice none 0 0) w := by
  intro w
  have := run_slice_h (P := Tryd.prog) (w := w) 29 none 0 0 (by rw [elemS]; exact Tryd.underlying29) .i64 0 (by omega) (by omega)
  rw [this, elemS, Tryd.sizeOf9]
  simp [Result.andThen, sliced]

/-- The texts L lie behind the slice v. -/
def SlS (w : World) (v : Value) (L : List Bs) : Prop :=
  (v = .slice none 0 0 ∧ L = []) ∨ ∃ g off c, v = .slice (some ⟨g, off, none⟩) L.length c ∧ L.length ≤ c ∧ c ≤ 9223372036854775807 ∧ g < w.heap.size ∧ ∀ i (h : i < L.length), w.cell? ⟨g, off + i, none⟩ = some (encStr L[i])
theorem SlS.below {w w' : World} {v : Value} {L : List Bs} (h : SlS w v L) (hb : Below w.heap.size w w') : SlS w' v L := by
  rcases h with h | ⟨g, off, c, h1, h2, h3, h4, h5⟩
  · exact .inl h
  · exact .inr ⟨g, off, c, h1, h2, h3, Nat.lt_of_lt_of_le h4 hb.size, fun i hi => by rw [hb.cell (p := ⟨g, off + i, none⟩) h4]; exact h5 i hi⟩
theorem SlS.own {w : World} {B : Nat} {v : Value} {L : List Bs} (h : w.ownsRow B 9 1 v L.length (L.map encStr)) : SlS w v L := by
  rcases h.2 with ⟨h1, h2⟩ | ⟨g, c, cur, h1, _, hg, h2, h3, h4⟩
  · exact .inl ⟨h1, List.length_eq_zero_iff.1 h2⟩
  · refine .inr ⟨g, 0, c, h1, h2, h3, (Array.getElem?_eq_some_iff.1 hg).1, fun i hi => ?_⟩
    rw [h1] at h
    have := World.ownsRow.cellAt h i (by omega)
    rw [Nat.zero_add, this]
    simp [hi]
theorem SlS.len {w : World} {v : Value} {L : List Bs} (h : SlS w v L) : ∃ a c, v = .slice a L.length c := by
  rcases h with ⟨h, rfl⟩ | ⟨g, off, c, h, _⟩
  · exact ⟨_, _, h⟩
  · exact ⟨_, _, h⟩
theorem gb_below {w w' : World} (h : Below w.heap.size w w') : w.grownBy w' none := ⟨h.os, h.tape, h.output, h.size, fun k hk _ => h.block k hk⟩
theorem own_em (v : Value) : v.ownBlock = none ∨ v.ownBlock ≠ none := Classical.em _
theorem addN1 (g i : Nat) : (⟨g, 0, none⟩ : Addr).add i = ⟨g, i, none⟩ := by unfold Addr.add; by_cases h : i = 0 <;> simp [h]
theorem btrans {a b c : World} (h1 : Below a.heap.size a b) (h2 : Below b.heap.size b c) : Below a.heap.size a c := h1.trans (h2.mono h1.size)
/-- The list that was, or a row of the call's own. -/
def SlN (w0 w : World) (v0 v : Value) (L0 L : List Bs) : Prop := (v = v0 ∧ L = L0) ∨ w.ownsRow w0.heap.size 9 1 v L.length (L.map encStr)
theorem SlN.own {w0 w : World} {v0 v : Value} {L0 L : List Bs} {B : Nat} (h : w.ownsRow B 9 1 v L.length (L.map encStr)) (hB : w0.heap.size ≤ B) : SlN w0 w v0 v L0 L := by
  refine .inr ⟨h.1, ?_⟩
  rcases h.2 with hn | ⟨g, cap, cur, e, h1, r⟩
  · exact .inl hn
  · exact .inr ⟨g, cap, cur, e, Nat.le_trans hB h1, r⟩
end Go.Proofs.YtcmjpkfinbakkaaDoor

namespace Go.Proofs.YtcmjpkfinbakkaaDoor
open Go.RowKit

theorem slice_some (g n c k : Nat) (hk : k ≤ c) :
    ∀ w, (Instr.slice 29 (.slice (some ⟨g, 0, none⟩) n c) none (some (.int .i64 k)) none).run Tryd.prog w = .ok (.slice (some ⟨g, 0, none⟩) k c) w := by
  intro w
  rw [run_slice_h (P := Tryd.prog) (w := w) 29 (some ⟨g, 0, none⟩) n c (by rw [elem30]; exact Tryd.underlying29) .i64 (k : Int) (by omega) (by omega), elem30, Tryd.sizeOf9]
  simp [Result.andThen, sliced, Addr.add]
theorem slice_nil : ∀ w, (Instr.slice 29 (.slice none 0 0) none (some (.int .i64 0)) none).run Tryd.prog w = .ok (.slice none 0 0) w := by
  intro w
  rw [run_slice_h (P := Tryd.prog) (w := w) 29 none 0 0 (by rw [elem30]; exact Tryd.underlying29) .i64 0 (by omega) (by omega), elem30, Tryd.sizeOf9]
  simp [Result.andThen, sliced]
/-- A row cut at its front: the slice and what it holds. -/
theorem own_cut {w : World} {B c : Nat} {A : Option Addr} {L : List Bs} {k : Nat} (h : w.ownsRow B 9 1 (.slice A L.length c) L.length (L.map encStr)) (hk : k ≤ L.length) :
    (∀ w', (Instr.slice 29 (.slice A L.length c) none (some (.int .i64 k)) none).run Tryd.prog w' = .ok (.slice A k c) w') ∧ StrsL w A (L.take k) := by
  have hs := strs_own h
  refine ⟨?_, fun hn => ?_⟩
  · rcases h.2 with ⟨h1, h0⟩ | ⟨g, c', cur, hv, _, _, h1, _⟩
    · injection h1 with e1 _ e3
      subst e1
      subst e3
      have : k = 0 := by omega
      subst this
      rw [h0]
      exact slice_nil
    · injection hv with e1 _ e3
      subst e1
      exact slice_some g L.length c k (by omega)
  · obtain ⟨g, off, e, hg, hc⟩ := hs (by rw [List.length_take] at hn; omega)
    refine ⟨g, off, e, hg, fun i hi => ?_⟩
    rw [List.length_take] at hi
    rw [hc i (by omega), List.getElem_take]

end Go.Proofs.YtcmjpkfinbakkaaDoor

namespace Go.Proofs.YtcmjpkfinbakkaaDoor
open Go.RowKit

def abs_ (cwd p : ByteArray) : Bs × Int :=
  if p.size = 0 ∨ 0 ≤ at_ p 0 (p.size + 1) 0 ∨ 0 ≤ at_ cwd 0 (cwd.size + 1) 0 then ([], 1)
  else if ∃ x ∈ parts cwd p, 60 < x.length then ([], 3)
  else if 20 < (parts cwd p).length ∨ 200 < (written (parts cwd p)).length then ([], 3)
  else (written (parts cwd p), 0)

end Go.Proofs.YtcmjpkfinbakkaaDoor
