import Derived.Test.YtjagnihkpgbjeaaDoorM
namespace Go.Proofs.YtjagnihkpgbjeaaDoor
open Go.RowKit Go.Shelf
attribute [local go_sem] Oper.semAt_some

def Keep (b : Nat) (W W' : World) : Prop := ∀ k, b < k → k < b + 4 → W'.heap[k]? = W.heap[k]?
theorem Keep.box {b k t : Nat} {W W' : World} {v : Value} (h : Keep b W W') (hx : Boxed W k t v) (h1 : b < k) (h2 : k < b + 4) : Boxed W' k t v := (h k h1 h2).trans hx
theorem Keep.trans {b : Nat} {A C D : World} (h : Keep b A C) (k : Keep b C D) : Keep b A D := fun i h1 h2 => (k i h1 h2).trans (h i h1 h2)

theorem idx_none : ∀ a : Bs, (∀ c ∈ a, c ≠ 47) → Lib.indexByte a 47 = -1
  | [], _ => rfl
  | c :: t, h => by
    have h1 : (c == 47) = false := by rw [beq_eq_false_iff_ne]; exact h c (by simp)
    have h2 := idx_none t (fun x hx => h x (by simp [hx]))
    unfold Lib.indexByte
    rw [h1, h2]; rfl
theorem idx_some : ∀ (a t : Bs), (∀ c ∈ a, c ≠ 47) → Lib.indexByte (a ++ 47 :: t) 47 = a.length
  | [], t, _ => by simp [Lib.indexByte]
  | c :: a, t, h => by
    have h1 : (c == 47) = false := by rw [beq_eq_false_iff_ne]; exact h c (by simp)
    have h2 := idx_some a t (fun x hx => h x (by simp [hx]))
    have h3 : ((a.length : Int) == -1) = false := by rw [beq_eq_false_iff_ne]; omega
    rw [List.cons_append]
    unfold Lib.indexByte
    rw [h1, h2, h3]
    simp
theorem no_or : ∀ r : Bs, (∀ c ∈ r, c ≠ 47) ∨ ∃ a t, r = a ++ 47 :: t ∧ ∀ c ∈ a, c ≠ 47
  | [] => .inl (by simp)
  | c :: r => by
    by_cases hc : c = 47
    · exact .inr ⟨[], r, by simp [hc], by simp⟩
    · rcases no_or r with h | ⟨a, t, e, h⟩
      · exact .inl (by simpa [hc] using h)
      · exact .inr ⟨c :: a, t, by simp [e], by simpa [hc] using h⟩
theorem ext_bytes {s : ByteArray} {f i : Nat} {l : Bs} (h : seg s f i = l) : s.extract f i = bs l := by
  have h1 := seg_ext s f i
  rw [h, Lib.toList_data] at h1
  exact bytes_eq h1

/-- What is left in the iterator's cell. -/
def left_ (W : World) (b : Nat) : Nat := match W.cell? ⟨b + 1, 0, none⟩ with | some (.string s) => s.size | _ => 0
theorem left_eq {W : World} {b t : Nat} {s : ByteArray} (h : Boxed W (b + 1) t (.string s)) : left_ W b = s.size := by
  unfold left_; rw [h.cell]

set_option maxRecDepth 100000 in
set_option maxHeartbeats 2000000 in
theorem split_in (n : Nat) (hn : 1 ≤ n) (l b : Nat) (J : List Bs → World → Prop) (xs : List Bs)
    (hJ : ∀ s A u, J s A → J s (A.setCell ⟨b + 1, 0, none⟩ u))
    (hY : ∀ pre x W, J pre W → pre ++ [x] <+: xs → YieldAt Fence.wide (n - 1) Tryd.prog l #[encStr x] W fun e W' => e = .returned (.bool true) ∧ J (pre ++ [x]) W' ∧ Keep b W W')
    (p : ByteArray) (hx : sp p.data.toList = xs) (hp : p.size ≤ 100000) (W : World) (h1 : Boxed W (b + 1) 9 (.string p)) (h2 : Boxed W (b + 2) 9 (.string ⟨#[47]⟩)) (h3 : Boxed W (b + 3) 3 (.int .i64 0)) (h0 : J [] W) :
    CallsIn Fence.wide n Tryd.prog 156 #[.func (.yield l) #[] #[], .pointer (some ⟨b + 2, 0, none⟩), .pointer (some ⟨b + 1, 0, none⟩), .pointer (some ⟨b + 3, 0, none⟩)] W fun e W' => (∃ v, e = .returned v) ∧ J xs W' := by
  have hro : Fence.wide.round = none := rfl
  have H0 : Hid (∃ (s : ByteArray) (pre : List Bs), Boxed W (b + 1) 9 (.string s) ∧ Boxed W (b + 2) 9 (.string ⟨#[47]⟩) ∧ Boxed W (b + 3) 3 (.int .i64 0) ∧ pre ++ sp s.data.toList = xs ∧ J pre W ∧ s.size ≤ 100000) := ⟨p, [], h1, h2, h3, by simpa using hx, h0, hp⟩
  have hc2 := h2.cell
  clear hx hp h1 h2 h3 h0
  refine callsIn_of_wp Tryd.func156 rfl trivial ?_ hro
  simp only [Tryd.ntmps156, List.size_toArray, List.length_cons, List.length_nil, Nat.reduceAdd, Nat.reduceSub, Array.replicate_succ, Array.replicate_zero, List.push_toArray, List.append_toArray, List.nil_append, List.cons_append]
  gi_wp2
  gi_loopw [7, 8] (fun _ _ wr => Hid (∃ (s : ByteArray) (pre : List Bs), Boxed wr (b + 1) 9 (.string s) ∧ Boxed wr (b + 2) 9 (.string ⟨#[47]⟩) ∧ Boxed wr (b + 3) 3 (.int .i64 0) ∧ pre ++ sp s.data.toList = xs ∧ J pre wr ∧ s.size ≤ 100000)) (fun _ _ wr => left_ wr b)
  case atStart => exact H0
  case round =>
    obtain ⟨s, pre, b1, b2, b3, hxs, hj, hsz⟩ := hrel.out
    have c1 := b1.cell
    have c2 := b2.cell
    have c3 := b3.cell
    have f1 := b1.frozen
    have HJ := Lib.hid hj
    have HX := Lib.hid hxs
    have hls : s.data.toList.length = s.size := Array.length_toList
    rcases no_or s.data.toList with hno | ⟨a, t, he, hno⟩
    · have hi := idx_none _ hno
      have hpx : pre ++ [s.data.toList] = xs := by rw [← hxs, sp_all _ hno]
      obtain ⟨fn, tmps, assign, body, hy, hR⟩ := hY pre s.data.toList wr hj (by rw [hpx]; exact List.prefix_refl _)
      rw [show encStr s.data.toList = Value.string s from rfl] at hy
      have HR := Lib.hid hR
      have HPX := Lib.hid hpx
      clear hj hxs hrel hR hpx hno hls
      gi_wp2_with (refine ⟨trivial, ?_⟩; gi_at_call 86; refine (callsIn_wide.2 (Tryd.strings_Index_one s 47 _)).mono ?_; rintro e w' ⟨rfl, rfl⟩)
      refine HR.out.mono ?_
      rintro e W3 ⟨rfl, hJ3, hk3⟩
      rw [HPX.out] at hJ3
      gi_wp2
      go_end0
      exact ⟨⟨_, rfl⟩, hJ3⟩
    · have hi := idx_some a t hno
      rw [← he] at hi
      have hsp : pre ++ [a] ++ sp t = xs := by rw [← hxs, he, sp_cut a t hno]; simp
      obtain ⟨k, hk⟩ : ∃ k, a.length = k := ⟨_, rfl⟩
      rw [hk] at hi
      have hsk : k + 1 + t.length = s.size := by rw [← hls, he]; simp; omega
      have e1 : s.extract 0 k = bs a := ext_bytes (by unfold seg; rw [he, ← hk]; simp)
      have e2 : s.extract (k + 1) s.size = bs t := ext_bytes (by unfold seg; rw [List.take_of_length_le (by omega), he, ← hk]; simp)
      obtain ⟨za, hza⟩ : ∃ z, bs a = z := ⟨_, rfl⟩
      obtain ⟨zt, hzt⟩ : ∃ z, bs t = z := ⟨_, rfl⟩
      obtain ⟨fn, tmps, assign, body, hy, hR⟩ := hY pre a wr hj (by rw [← hsp]; exact List.prefix_append _ _)
      rw [show encStr a = Value.string za from congrArg Value.string hza] at hy
      rw [hza] at e1
      rw [hzt] at e2
      have HR := Lib.hid hR
      have HT : Hid (t = zt.data.toList) := by rw [← hzt]; rfl
      have HSP := Lib.hid hsp
      have HB2 := Lib.hid b2
      have HB3 := Lib.hid b3
      have HB1 := Lib.hid b1
      have hztn : t.length = zt.size := by rw [← hzt]; rfl
      have q1 : (0 : Int) ≤ (k : Int) := by omega
      have q2 : (k : Int) ≤ (s.size : Int) := by omega
      have q3 : (k : Int) + 1 ≤ (s.size : Int) := by omega
      have q4 : (0 : Int) ≤ (k : Int) + 1 := by omega
      have q5 : IntKind.i64.wrap ((k : Int) + 1) = (k : Int) + 1 := by rw [IntKind.wrap_i64]; omega
      have q6 : wrap64 ((k : Int) + 1) = (k : Int) + 1 := by unfold wrap64; omega
      have q7 : IntKind.i64.wrap (k : Int) = (k : Int) := by rw [IntKind.wrap_i64]; omega
      have q8 : wrap64 (k : Int) = (k : Int) := by unfold wrap64; omega
      clear hj hxs hrel hR hsp hno hls he hk hza hzt b1 b2 b3
      gi_wp2_with (refine ⟨trivial, ?_⟩; gi_at_call 86; refine (callsIn_wide.2 (Tryd.strings_Index_one s 47 _)).mono ?_; rintro e w' ⟨rfl, rfl⟩)
      refine HR.out.mono ?_
      rintro e W3 ⟨rfl, hJ3, hk3⟩
      have d1 := hk3.box HB1.out (by omega) (by omega)
      have d2 := hk3.box HB2.out (by omega) (by omega)
      have d3 := hk3.box HB3.out (by omega) (by omega)
      have g1 := d1.cell
      have g2 := d2.cell
      have g3 := d3.cell
      have gf := d1.frozen
      have HD1 := Lib.hid d1
      have HD2 := Lib.hid d2
      have HD3 := Lib.hid d3
      have HJ3 := Lib.hid hJ3
      clear d1 d2 d3 hJ3 hk3
      gi_wp2
      go_roundw
      case rel => exact ⟨zt, pre ++ [a], HD1.out.set _, HD2.out.other (by omega) _, HD3.out.other (by omega) _, by rw [← HT.out]; exact HSP.out, hJ _ _ _ HJ3.out, by omega⟩
      case measure => rw [left_eq (HD1.out.set (.string zt)), left_eq HB1.out]; omega
end Go.Proofs.YtjagnihkpgbjeaaDoor
