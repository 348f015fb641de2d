import Derived.Test.YtdkkfcpnfhfjdaaD
namespace Go.Proofs.Ytdkkfcpnfhfjdaa
open Go.RowKit
set_option linter.unusedVariables false

def wtP (F : List Pt) (t : ByteArray) : List Pt := if t.data.toList = [] then F else F ++ [lit 1 t]
theorem wtP_p2 (F : List Pt) (t : ByteArray) : (wtP F t).map Pt.p2 = wt (F.map Pt.p2) t.data.toList := by
  unfold wtP wt
  split <;> simp [lit, Pt.p2]
theorem wtP_len (F : List Pt) (t : ByteArray) : (wtP F t).length ≤ F.length + 1 := by
  unfold wtP; split <;> simp
/-- What an appending call leaves of a row. -/
def Grown (B : Nat) (v : Value) (L : List Pt) (w : World) (e : Ending) (w' : World) : Prop :=
  ∃ v', e = .returned v' ∧ Row w' B v' L ∧ Only (fun i => v.ownBlock = some i) w w' ∧ (v'.ownBlock = v.ownBlock ∨ ∀ j, v'.ownBlock = some j → w.heap.size ≤ j)
set_option maxRecDepth 100000 in
set_option maxHeartbeats 2000000 in
theorem withText_any (v : Value) (F : List Pt) (t : ByteArray) (B : Nat) (w : World) (hF : F.length ≤ 90000) (hR : Row w B v F) (hB : B ≤ w.heap.size) :
    Calls Try.prog 17 #[v, .string t] w (Grown B v (wtP F t) w) := by
  by_cases h0 : t.data.toList = []
  · have hE : Hid (Grown B v (wtP F t) w (.returned v) w) := by
      unfold wtP; rw [if_pos h0]
      exact ⟨v, rfl, hR, Only.refl _ _, .inl rfl⟩
    have h1 : t.toList = [] := by rw [Lib.toList_data]; exact h0
    have h2 : (!t.toList.isEmpty) = false := by rw [h1]; rfl
    clear h0 hR
    go_enter Try.func17, Try.ntmps17
    go_wp2_with fail
    go_ret
    exact hE.out
  · have h1 : t.toList.isEmpty = false := by
      rw [Lib.toList_data]
      cases h : t.data.toList with
      | nil => exact absurd h h0
      | cons a t => rfl
    have h2 : (!t.toList.isEmpty) = true := by rw [h1]; rfl
    have hw0 : Below w.heap.size w (w.alloc (.cells (lit 1 t).cs.toArray 31)) := (Below.refl _ _).alloc (Nat.le_refl _) _
    obtain ⟨v', w', r1, r2, r3, r4⟩ := append_part (w.alloc (.cells (lit 1 t).cs.toArray 31)) B v F (by omega) (hR.below hw0) (by have := hw0.size; omega) w.heap.size 1 (lit 1 t) (lit_ok _ _) (lit_new w _) 22
    have hE : Hid (Grown B v (wtP F t) w (.returned v') w') := by
      unfold wtP; rw [if_neg h0]
      refine ⟨v', rfl, r2, (Only.of_below (S := fun _ => False) hw0).trans (Only.of_grown (S := fun i => v.ownBlock = some i) r3 (fun k hk => hk)) (fun _ e => e.elim) (fun _ _ e => e), ?_⟩
      rcases r4 with e | e
      · exact .inl e
      · exact .inr fun j hj => by rw [e] at hj; cases hj; exact hw0.size
    have r1' : (Builtin.append_ #[22, 22] 22 #[v, .slice (some ⟨w.heap.size, 0, none⟩) 1 1]).run Try.prog (w.alloc (.cells #[.int .i64 1, .string t, .string ⟨#[]⟩, .string ⟨#[]⟩, .slice none 0 0, .bool false] 31)) = .ok v' w' := r1
    clear h0 hR r1 r2 r3 r4 hw0
    go_enter Try.func17, Try.ntmps17
    go_wp2_with (at_builtin; refine wpList_run_append _ rfl _ _ 22 22 rfl _ _ rfl rfl r1' ?_)
    go_ret
    exact hE.out
/-- The fields FS, in a row of the call's own. -/
structure Flds (w : World) (B : Nat) (v : Value) (vals : List Value) (FS : List (List Pt)) : Prop where
  len : vals.length = FS.length
  own : w.ownsRow B 22 1 v FS.length vals
  rows : ∀ i (h : i < FS.length), Row w B (vals[i]'(by rw [len]; exact h)) FS[i]
theorem Flds.nil (w : World) (B : Nat) : Flds w B (.slice none 0 0) [] [] := ⟨rfl, World.ownsRow_nil _ _ _ _, fun i h => absurd h (by simp)⟩
theorem Flds.only {S : Nat → Prop} {w w' : World} {B : Nat} {v : Value} {vals : List Value} {FS : List (List Pt)} (h : Flds w B v vals FS) (hO : Only S w w') (hn : ∀ k, v.ownBlock = some k → ¬ S k) (hr : ∀ u ∈ vals, ∀ k, u.ownBlock = some k → ¬ S k) : Flds w' B v vals FS := by
  refine ⟨h.len, ⟨h.own.1, ?_⟩, fun i hi => (h.rows i hi).only hO (hr _ (List.getElem_mem _))⟩
  rcases h.own.2 with h1 | ⟨b, cap, cur, rfl, h2, h3, h4⟩
  · exact .inl h1
  · exact .inr ⟨b, cap, cur, rfl, h2, (hO.block b (Array.getElem?_eq_some_iff.1 h3).1 (hn b rfl)).trans h3, h4⟩
theorem Flds.below {w w' : World} {B : Nat} {v : Value} {vals : List Value} {FS : List (List Pt)} (h : Flds w B v vals FS) (hb : Below w.heap.size w w') : Flds w' B v vals FS :=
  h.only (S := fun _ => False) (Only.of_below hb) (fun _ _ e => e) (fun _ _ _ _ e => e)
/-- A row of fields and a row of parts are never one block. -/
theorem kinds_apart {w : World} {B : Nat} {v u : Value} {n : Nat} {vals : List Value} {L : List Pt} (h : w.ownsRow B 22 1 v n vals) (k : Row w B u L) : ∀ j, v.ownBlock = some j → u.ownBlock ≠ some j := by
  intro j hj e
  rcases h.2 with ⟨rfl, _⟩ | ⟨b, cap, cur, rfl, _, h3, _⟩
  · simp [Value.ownBlock] at hj
  · simp [Value.ownBlock] at hj
    subst hj
    rcases k.own.2 with ⟨rfl, _⟩ | ⟨b', cap', cur', rfl, _, h3', _⟩
    · simp [Value.ownBlock] at e
    · simp [Value.ownBlock] at e
      subst e
      rw [h3] at h3'
      injection h3' with h3'
      injection h3' with _ e2 _
      exact absurd e2 (by decide)
/-- What stands in hand while a word is divided. -/
structure St (w0 w : World) (fsv fv : Value) (vals : List Value) (FS : List (List Pt)) (F : List Pt) : Prop where
  fs : Flds w w0.heap.size fsv vals FS
  f : Row w w0.heap.size fv F
  ap : ∀ u ∈ vals, ∀ k, u.ownBlock = some k → fv.ownBlock ≠ some k
  old : Below w0.heap.size w0 w
theorem St.grow {w0 w w' : World} {fsv fv fv' : Value} {vals : List Value} {FS : List (List Pt)} {F F' : List Pt} (h : St w0 w fsv fv vals FS F) (hR : Row w' w0.heap.size fv' F') (hO : Only (fun i => fv.ownBlock = some i) w w') (hw : fv'.ownBlock = fv.ownBlock ∨ ∀ j, fv'.ownBlock = some j → w.heap.size ≤ j) :
    St w0 w' fsv fv' vals FS F' := by
  refine ⟨h.fs.only hO (fun k hk e => kinds_apart h.fs.own h.f k hk e) (fun u hu k hk e => h.ap u hu k hk e), hR, fun u hu k hk e => ?_, h.old.trans (hO.below (fun k hk => (h.f.own.lt k hk).1) h.old.size)⟩
  rcases hw with e2 | e2
  · rw [e2] at e; exact h.ap u hu k hk e
  · have h1 := e2 k e
    obtain ⟨i, hi, rfl⟩ := List.mem_iff_getElem.1 hu
    have h2 := ((h.fs.rows i (by rw [← h.fs.len]; exact hi)).own.lt k hk).2
    omega
theorem St.below {w0 w w' : World} {fsv fv : Value} {vals : List Value} {FS : List (List Pt)} {F : List Pt} (h : St w0 w fsv fv vals FS F) (hb : Below w.heap.size w w') : St w0 w' fsv fv vals FS F :=
  ⟨h.fs.below hb, h.f.below hb, h.ap, h.old.trans (hb.mono h.old.size)⟩
/-- A field that is whole, among the others; a new one begins. -/
theorem St.push {w0 w : World} {fsv fv : Value} {vals : List Value} {FS : List (List Pt)} {F : List Pt} (h : St w0 w fsv fv vals FS F) (hl : FS.length ≤ 90000) (ty : TypeId) :
    ∃ v' w', (Builtin.append_ #[26, 26] ty #[fsv, .slice (some ⟨w.heap.size, 0, none⟩) 1 1]).run Try.prog (w.alloc (.cells #[fv] 22)) = .ok v' w' ∧ St w0 w' v' (.slice none 0 0) (vals ++ [fv]) (FS ++ [F]) [] := by
  obtain ⟨i0, hi, hz0, hz1, hz2⟩ := info_parts info22
  have hw0 : Below w.heap.size w (w.alloc (.cells #[fv] 22)) := (Below.refl _ _).alloc (Nat.le_refl _) _
  have hfs := h.fs.below hw0
  have hf := h.f.below hw0
  obtain ⟨v', w', h2, h3, h4, h5⟩ := run_append_own (P := Try.prog) (w.alloc (.cells #[fv] 22)) w0.heap.size 26 ty 22 i0 _ 1 24 Try.underlying26 hi hz0 hz1 hz2 rfl (by decide) fsv FS.length vals hfs.own ⟨w.heap.size, 0, none⟩ 1 1 [fv] rfl
    (fun j u hj => by
      match j, hj with
      | 0, hj => simp at hj; subst hj; rw [addn]; simp only [World.cell?, heap_alloc_new w]; rfl) (by
      intro u hu
      simp at hu; subst hu
      obtain ⟨s, c, e⟩ := h.f.form
      rw [e]; rfl) (by unfold maxLen; omega) (by omega) (by have := h.old.size; have := hw0.size; omega)
  have hO : Only (fun i => fsv.ownBlock = some i) (w.alloc (.cells #[fv] 22)) w' := Only.of_grown h4 (fun k hk => hk)
  have hrow : ∀ {u : Value} {L : List Pt}, Row (w.alloc (.cells #[fv] 22)) w0.heap.size u L → Row w' w0.heap.size u L := fun hr => hr.only hO (fun k hk e => kinds_apart hfs.own hr k e hk)
  refine ⟨v', w', h2, ⟨by rw [List.length_append, List.length_append, h.fs.len]; rfl, by rw [List.length_append]; exact h3, fun i hi => ?_⟩, Row.nil _ _, fun u _ k _ e => by simp [Value.ownBlock] at e, ?_⟩
  · by_cases hil : i < FS.length
    · have e1 : (vals ++ [fv])[i]'(by rw [List.length_append, h.fs.len]; omega) = vals[i]'(by rw [h.fs.len]; exact hil) := List.getElem_append_left _
      have e2 : (FS ++ [F])[i] = FS[i] := List.getElem_append_left _
      rw [e1, e2]
      exact hrow (hfs.rows i hil)
    · have hi2 : i = FS.length := by rw [List.length_append, List.length_singleton] at hi; omega
      subst hi2
      have e1 : (vals ++ [fv])[FS.length]'(by rw [List.length_append, h.fs.len]; simp) = fv := by
        rw [List.getElem_append_right (by rw [h.fs.len]; exact Nat.le_refl _)]; simp [h.fs.len]
      have e2 : (FS ++ [F])[FS.length] = F := by simp
      rw [e1, e2]
      exact hrow hf
  · exact h.old.trans ((hw0.mono h.old.size).trans (hO.below (fun k hk => (hfs.own.lt k hk).1) (by have := h.old.size; have := hw0.size; omega)))
end Go.Proofs.Ytdkkfcpnfhfjdaa
