import Derived.Test.YtjagnihkpgbjeaaDoorA
namespace Go.Proofs.YtjagnihkpgbjeaaDoor
open Go.RowKit

theorem info9 : (Tryd.prog.info? 9).map (fun i => (i.zero, i.size, i.bytes)) = some (some (.string ⟨#[]⟩), 1, 16) := by kernel_rfl
theorem elem30 : Tryd.prog.elem 29 = 9 := by kernel_rfl

theorem push_dd (l : List Bs) : push l [46, 46] = l.dropLast := by
  unfold push
  rw [if_neg (by simp), if_pos rfl]
theorem slice_last (g n c : Nat) (hn : 0 < n) (hc : n ≤ c) :
    ∀ w, (Instr.slice 29 (.slice (some ⟨g, 0, none⟩) n c) none (some (.int .i64 ((n : Int) - 1))) none).run Tryd.prog w = .ok (.slice (some ⟨g, 0, none⟩) (n - 1) c) w := by
  intro w
  rw [run_slice_h (P := Tryd.prog) (w := w) 29 (some ⟨g, 0, none⟩) n c (by rw [elem30]; exact Tryd.underlying29) .i64 ((n : Int) - 1) (by omega) (by omega), elem30, Tryd.sizeOf9]
  simp [Result.andThen, sliced, Addr.add]
theorem own_cap {w : World} {B g n c : Nat} {xs : List Value} (h : w.ownsRow B 9 1 (.slice (some ⟨g, 0, none⟩) n c) n xs) (hn : 0 < n) : n ≤ c := by
  rcases h.2 with ⟨_, h0⟩ | ⟨g', c', cur, hv, _, _, h1, _⟩
  · omega
  · injection hv with _ _ e
    rw [e]; exact h1
theorem own_last {w : World} {B g c : Nat} {l : List Bs} (h : w.ownsRow B 9 1 (.slice (some ⟨g, 0, none⟩) l.length c) l.length (l.map encStr)) (hn : 0 < l.length) :
    w.ownsRow B 9 1 (.slice (some ⟨g, 0, none⟩) (l.length - 1) c) (l.length - 1) (l.dropLast.map encStr) := by
  rcases h.2 with ⟨_, h0⟩ | ⟨g', c', cur, hv, hb, hg, h1, h2, h3, h4⟩
  · omega
  · injection hv with e1 _ e3
    subst e3
    injection e1 with e1
    injection e1 with e1
    subst e1
    refine ⟨by simp, .inr ⟨g, c, cur, rfl, hb, hg, by omega, h2, h3, ?_⟩⟩
    rw [List.dropLast_eq_take, List.map_take, ← h4, List.take_take, Nat.mul_one, Nat.mul_one, Nat.min_eq_left (by omega)]
theorem enc_of {s : ByteArray} {sg : Bs} (h : s.toList = sg) : Value.string s = encStr sg := by
  rw [Lib.toList_data] at h
  rw [← h]
theorem own_form {w : World} {B n : Nat} {v : Value} {xs : List Value} (h : w.ownsRow B 9 1 v n xs) : ∃ A c, v = .slice A n c := by
  rcases h.2 with ⟨h1, h0⟩ | ⟨g, c, _, h1, _⟩
  · exact ⟨none, 0, by rw [h1, h0]⟩
  · exact ⟨_, c, h1⟩

/-- The loop of names. -/
structure NR (B : Nat) (w wr : World) (p : ByteArray) (n0 : Nat) (v : Value) (f i : Nat) (l R : List Bs) : Prop where
  fi : f ≤ i
  ip : i ≤ p.size + 1
  own : wr.ownsRow B 9 1 v l.length (l.map encStr)
  len : l.length ≤ n0 + i
  old : Below B w wr
  no : ∀ j, f ≤ j → j < i → j < p.size → gb p j ≠ 47
  goes : i ≤ p.size → (sp (p.data.toList.drop f)).foldl push l = R
  ends : i = p.size + 1 → l = R

theorem NR.cut {B : Nat} {w wr wr' : World} {p : ByteArray} {n0 : Nat} {x x' : Value} {f i : Nat} {l R : List Bs} (h : NR B w wr p n0 x f i l R) (hc : i < p.size ∧ gb p i = 47 ∨ i = p.size)
    (hown : wr'.ownsRow B 9 1 x' (push l (seg p f i)).length ((push l (seg p f i)).map encStr)) (hB : Below B w wr') : NR B w wr' p n0 x' (i + 1) (i + 1) (push l (seg p f i)) R := by
  refine ⟨Nat.le_refl _, by have := h.ip; omega, hown, ?_, hB, fun j h1 h2 => by omega, fun hi => ?_, fun hi => ?_⟩
  · have := push_len l (seg p f i)
    have := h.len
    omega
  · rcases hc with ⟨h1, h2⟩ | h1
    · exact cut_step h.fi h1 (fun j a b => h.no j a b (by omega)) h2 (h.goes (by omega))
    · omega
  · rcases hc with ⟨h1, h2⟩ | h1
    · omega
    · subst h1
      exact end_step (fun j a b => h.no j a b b) (h.goes (Nat.le_refl _))
theorem NR.skip {B : Nat} {w wr : World} {p : ByteArray} {n0 : Nat} {x : Value} {f i : Nat} {l R : List Bs} (h : NR B w wr p n0 x f i l R) (hi : i < p.size) (hc : gb p i ≠ 47) : NR B w wr p n0 x f (i + 1) l R := by
  refine ⟨by have := h.fi; omega, by omega, h.own, by have := h.len; omega, h.old, fun j h1 h2 h3 => ?_, fun _ => h.goes (by omega), fun e => by omega⟩
  by_cases e : j = i
  · subst e; exact hc
  · exact h.no j h1 (by omega) h3

end Go.Proofs.YtjagnihkpgbjeaaDoor
