import Derived.Test.YtdkkfcpnfhfjdaaI
import Derived.Deep.SlicePairs
import Derived.ChangeArms
namespace Go.Proofs.Ytdkkfcpnfhfjdaa
open Go.RowKit Go.ChangeShapes Go.WideShapes
set_option linter.unusedVariables false

/-- A part that has just been laid. -/
theorem lit_sl (w : World) (k : Int) (t : ByteArray) : Sl (w.alloc (.cells (lit k t).cs.toArray 31)) (.slice (some ⟨w.heap.size, 0, none⟩) 1 1) [lit k t] := by
  refine ⟨⟨_, 1, rfl, fun i hi => ⟨w.heap.size, 0, rfl, by simp, fun q u hq => ?_⟩⟩, fun p hp => by rw [List.mem_singleton] at hp; subst hp; exact lit_ok _ _⟩
  obtain rfl : i = 0 := by simpa using hi
  have := lit_new w (lit k t) q u hq
  simpa using this
theorem one_part (w : World) (k : Int) (t : ByteArray) (ht : t.size ≤ 2000) (hk : -9223372036854775808 ≤ k ∧ k ≤ 9223372036854775807) :
    Calls Try.prog 9 #[.slice (some ⟨w.heap.size, 0, none⟩) 1 1] (w.alloc (.cells #[.int .i64 k, .string t, .string ⟨#[]⟩, .string ⟨#[]⟩, .slice none 0 0, .bool false] 31)) (SplitR (w.alloc (.cells #[.int .i64 k, .string t, .string ⟨#[]⟩, .string ⟨#[]⟩, .slice none 0 0, .bool false] 31)) (splitL [(k, t.data.toList)])) := by
  have := Split_any _ [lit k t] _ (by simp) (by intro p hp; rw [List.mem_singleton] at hp; subst hp; exact ⟨ht, hk⟩) (lit_sl w k t)
  exact this
theorem Flds.form {w : World} {B : Nat} {v : Value} {vals : List Value} {FS : List (List Pt)} (h : Flds w B v vals FS) : ∃ a c, v = .slice a FS.length c ∧ ∀ i (hi : i < FS.length), ∃ b, a = some ⟨b, 0, none⟩ ∧ w.cell? ⟨b, i, none⟩ = some (vals[i]'(by rw [h.len]; exact hi)) := by
  rcases h.own.2 with ⟨h1, h0⟩ | ⟨b, cap, cur, rfl, h2, h3, h4⟩
  · exact ⟨none, 0, by rw [h0]; exact h1, fun i hi => by omega⟩
  · refine ⟨_, cap, rfl, fun i hi => ⟨b, rfl, ?_⟩⟩
    rw [World.ownsRow.cellAt h.own i (by omega), List.getElem?_eq_getElem]
theorem p3s_len (FS : List (List Pt)) : (p3s FS).length = FS.length := by simp [p3s]
set_option maxRecDepth 100000 in
set_option maxHeartbeats 2000000 in
theorem alive_any (w : World) : Calls Try.prog 6 #[] w fun e w' => e = .returned (.bool true) ∧ Below w.heap.size w w' := by
  have HO := Lib.hid (one_part w 1 ⟨#[97, 32, 98]⟩ (by decide) (by decide))
  have HB : Hid (Below w.heap.size w (w.alloc (.cells #[.int .i64 1, .string ⟨#[97, 32, 98]⟩, .string ⟨#[]⟩, .string ⟨#[]⟩, .slice none 0 0, .bool false] 31))) := (Below.refl _ _).alloc (Nat.le_refl _) _
  go_enter Try.func6, Try.ntmps6
  go_wp2_with (go_at_call 9; refine HO.out.mono ?_)
  rintro e w5 ⟨v, vals, FS, rfl, hF, hp, _, _, hb⟩
  have hl : FS.length = 2 := by rw [← p3s_len, hp]; decide
  obtain ⟨a, c, rfl, h0⟩ := hF.form
  rw [hl]
  have HB2 := Lib.hid (HB.out.trans (hb.mono HB.out.size))
  clear h0 hF hp hl hb
  simp only []
  go_wp2_with fail
  go_ret
  exact ⟨rfl, HB2.out⟩

/-- Strings, to be read behind v. -/
structure Txt (w : World) (v : Value) (l : List ByteArray) : Prop where
  form : ∃ a c, v = .slice a l.length c ∧ ∀ i (h : i < l.length), ∃ b off, a = some ⟨b, off, none⟩ ∧ b < w.heap.size ∧ w.cell? ⟨b, off + i, none⟩ = some (.string l[i])
theorem Txt.below {w w' : World} {v : Value} {l : List ByteArray} (h : Txt w v l) (hb : Below w.heap.size w w') : Txt w' v l := by
  obtain ⟨a, c, h1, h2⟩ := h.form
  refine ⟨a, c, h1, fun i hi => ?_⟩
  obtain ⟨b, off, e1, e2, e3⟩ := h2 i hi
  exact ⟨b, off, e1, Nat.lt_of_lt_of_le e2 hb.size, (hb.cell (p := ⟨b, _, none⟩) e2).trans e3⟩
theorem open_strs {H : Type} {enc : TypeId × Value → H} {base : Nat} {W : World} {v : Value} {d : DataW H} {p : List MemPlace}
    (hv : Value.okWide Try.prog W .any base 32 v) (h : DataW.Trod enc Try.prog W 0 (fun _ => true) true 32 v d p) : ∃ l, Txt W v l ∧ l.length ≤ maxLen ∧ ∀ x ∈ l, x.size ≤ maxLen := by
  obtain ⟨a0, len, cap, rfl⟩ := okWide_slice Try.underlying32 hv
  obtain ⟨fuel, hf⟩ := h
  have hf2 : DataW.trod enc Try.prog W 0 (fun _ => true) true fuel 32 [.slice a0 len cap] = some (d, p) := hf
  have c9 : Try.prog.cellsOf 9 = 1 := by kernel_rfl
  have u9 : Try.prog.underlying 9 = some .string := by kernel_rfl
  rcases Go.Deep.open_slice Try.underlying32 hf2 with ⟨h0, _⟩ | ⟨a, len', cap', m, n, D, Pl, h0, hb, hl, hm, hmm, _, hx⟩
  · simp at h0
    obtain ⟨rfl, rfl, rfl⟩ := h0
    exact ⟨[], ⟨none, 0, rfl, fun i hi => absurd hi (by simp)⟩, by simp, by simp⟩
  · simp at h0
    obtain ⟨rfl, rfl, rfl⟩ := h0
    have each : ∀ i, i < len → ∃ q : ByteArray, W.cell? (a.add i) = some (.string q) ∧ q.size ≤ maxLen := by
      intro i hi
      have him : i < m := by rw [hmm]; split <;> omega
      obtain ⟨cs', h1, h2⟩ := hx i him
      rw [c9, Nat.mul_one] at h1
      obtain ⟨_, hlen, hcell⟩ := World.cells?_some h1
      match cs', hlen with
      | [u], _ =>
        obtain ⟨s1, e1, _, z1⟩ := DataW.trod_string u9 h2
        have := hcell 0 (by omega)
        simp at e1
        subst e1
        exact ⟨s1, by simpa [Addr.add] using this, z1⟩
    obtain ⟨q, hq⟩ := Go.Deep.choose_lt each
    have hlen : ((List.range len).map q).length = len := by simp
    refine ⟨(List.range len).map q, ⟨some a, cap, by rw [hlen], fun k hk => ?_⟩, by rw [hlen]; omega, fun x hx => ?_⟩
    · rw [hlen] at hk
      obtain ⟨h1, h2⟩ := hq k hk
      have hb : a.block < W.heap.size := by
        have := World.block_lt_of_cell? W _ h1
        revert this
        unfold Addr.add
        split <;> exact id
      have hs : a.spot = none := World.cell?_spot (a := a) (by simpa [Addr.add] using (hq 0 (by omega)).1)
      obtain ⟨b, off, sp⟩ := a
      simp only at hs
      subst hs
      rw [addn] at h1
      have e : ((List.range len).map q)[k]'(by rw [hlen]; exact hk) = q k := by simp
      rw [e]
      exact ⟨b, off, rfl, hb, h1⟩
    · obtain ⟨i, hi, rfl⟩ := List.mem_map.1 hx
      exact (hq i (List.mem_range.1 hi)).2
/-- Strings in a row of the call's own. -/
structure Wn (w0 w : World) (v : Value) (l : List ByteArray) : Prop where
  own : w.ownsRow w0.heap.size 9 1 v l.length (l.map .string)
  old : Below w0.heap.size w0 w
theorem info9 : (Try.prog.info? 9).map (fun i => (i.zero, i.size, i.bytes)) = some (some (.string ⟨#[]⟩), 1, 16) := by kernel_rfl
theorem Wn.push {w0 w : World} {v : Value} {l : List ByteArray} (h : Wn w0 w v l) (hl : l.length ≤ 90000) (x : ByteArray) :
    ∃ v' w', (Builtin.append_ #[32, 32] 32 #[v, .slice (some ⟨w.heap.size, 0, none⟩) 1 1]).run Try.prog (w.alloc (.cells #[.string x] 9)) = .ok v' w' ∧ Wn w0 w' v' (l ++ [x]) := by
  obtain ⟨i0, hi, hz0, hz1, hz2⟩ := info_parts info9
  have hw0 : Below w.heap.size w (w.alloc (.cells #[.string x] 9)) := (Below.refl _ _).alloc (Nat.le_refl _) _
  have hown : (w.alloc (.cells #[.string x] 9)).ownsRow w0.heap.size 9 1 v l.length (l.map .string) := h.own.alloc _
  obtain ⟨v', w', h2, h3, h4, h5⟩ := run_append_own (P := Try.prog) (w.alloc (.cells #[.string x] 9)) w0.heap.size 32 32 9 i0 _ 1 16 Try.underlying32 hi hz0 hz1 hz2 rfl (by decide) v l.length _ hown ⟨w.heap.size, 0, none⟩ 1 1 [.string x] rfl
    (fun j u hj => by
      match j, hj with
      | 0, hj => simp at hj; subst hj; rw [addn]; simp only [World.cell?, heap_alloc_new w]; rfl) (by
      intro u hu
      simp at hu; subst hu
      rfl) (by unfold maxLen; omega) (by omega) (by have := h.old.size; have := hw0.size; omega)
  refine ⟨v', w', h2, by rw [List.map_append, List.length_append]; exact h3, ?_⟩
  exact h.old.trans ((hw0.mono h.old.size).trans ((Only.of_grown (S := fun i => v.ownBlock = some i) h4 (fun k hk => hk)).below (fun k hk => (hown.lt k hk).1) (by have := h.old.size; have := hw0.size; omega)))
theorem Wn.below {w0 w w' : World} {v : Value} {l : List ByteArray} (h : Wn w0 w v l) (hb : Below w.heap.size w w') : Wn w0 w' v l := by
  refine ⟨⟨h.own.1, ?_⟩, h.old.trans (hb.mono h.old.size)⟩
  rcases h.own.2 with h1 | ⟨b, cap, cur, rfl, h2, h3, h4⟩
  · exact .inl h1
  · exact .inr ⟨b, cap, cur, rfl, h2, (hb.block b (Array.getElem?_eq_some_iff.1 h3).1).trans h3, h4⟩
theorem Wn.nil (w0 : World) : Wn w0 w0 (.slice none 0 0) [] := ⟨World.ownsRow_nil _ _ _ _, Below.refl _ _⟩
theorem Wn.txt {w0 w : World} {v : Value} {l : List ByteArray} (h : Wn w0 w v l) : Txt w v l := by
  rcases h.own.2 with ⟨h1, h0⟩ | ⟨b, cap, cur, rfl, h2, h3, h4⟩
  · exact ⟨none, 0, by rw [h0]; exact h1, fun i hi => by omega⟩
  · refine ⟨_, cap, rfl, fun i hi => ⟨b, 0, rfl, (Array.getElem?_eq_some_iff.1 h3).1, ?_⟩⟩
    rw [Nat.zero_add, World.ownsRow.cellAt h.own i (by omega), List.getElem?_map, List.getElem?_eq_getElem hi]; rfl
theorem one_txt (w : World) (x : ByteArray) : Txt (w.alloc (.cells #[.string x] 9)) (.slice (some ⟨w.heap.size, 0, none⟩) 1 1) [x] :=
  ⟨_, 1, rfl, fun i hi => by
    obtain rfl : i = 0 := by simpa using hi
    exact ⟨w.heap.size, 0, rfl, by simp, by simp only [World.cell?, heap_alloc_new w]; rfl⟩⟩
end Go.Proofs.Ytdkkfcpnfhfjdaa
