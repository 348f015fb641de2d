import Derived.Test.YtkdacdbmlgffgaaI
import Derived.Test.YtkdacdbmlgffgaaD
namespace Go.Proofs.Ytkdacdbmlgffgaa
open Go.RowKit
set_option linter.unusedVariables false

/-- What a set of variables' own blocks are. -/
def foot (g : Nat) (v : Value) (i : Nat) : Prop := i = g ∨ v.ownBlock = some i
/-- What a call that writes a set of variables leaves. -/
def Moved (T : TypeId) (B g : Nat) (v : Value) (L : List Pr) (w w' : World) : Prop :=
  ∃ v', VAt w' T B g v' L ∧ Only (foot g v) w w' ∧ (v'.ownBlock = v.ownBlock ∨ ∀ j, v'.ownBlock = some j → w.heap.size ≤ j)
theorem Insert_any (w : World) (B : Nat) (v : Value) (L : List Pr) (hL : L.length ≤ 100000) (hR : Row w B v L) (hB : B ≤ w.heap.size) (k : Nat) (hk : k ≤ L.length) (vb c : Nat) (p : Pr) (h1 : One w vb p) (hne : v.ownBlock ≠ some vb) :
    Calls Try.prog 23 #[v, .int .i64 k, .slice (some ⟨vb, 0, none⟩) 1 c] w (Insd B v (L.take k ++ [p] ++ L.drop k) w) := by
  by_cases he : k = L.length
  · subst he
    rw [List.take_length, List.drop_length, List.append_nil]
    exact Insert_end w B v L hL hR hB vb c p h1
  · rcases hR.2 with ⟨rfl, h0⟩ | ⟨b, cap, cur, rfl, hBb, hg, hnc, hcm, hcs, ht⟩
    · omega
    · by_cases hroom : L.length + 1 ≤ cap
      · exact Insert_room w B b cap cur L hL hg hBb hcm hcs ht k (by omega) hroom vb c p h1 (fun e => hne (by rw [e]; rfl))
      · exact Insert_grow w B b cap cur L hL hg hB hcm hcs hnc ht k (by omega) (by omega) vb c p h1
theorem VAt.put {w w' : World} {T : TypeId} {B g : Nat} {v v' : Value} {L L' : List Pr} (h : VAt w T B g v L) (hR : Row w' B v' L') (hO : Only (fun i => v.ownBlock = some i) w w') (hw : v'.ownBlock = v.ownBlock ∨ ∀ j, v'.ownBlock = some j → w.heap.size ≤ j) :
    VAt (w'.setCell ⟨g, 0, none⟩ v') T B g v' L' ∧ Only (foot g v) w (w'.setCell ⟨g, 0, none⟩ v') := by
  have hb : w'.heap[g]? = some (.cells #[v] T (0, 0)) := (hO.block g h.lt (fun e => h.ne e)).trans h.blk
  have hne : v'.ownBlock ≠ some g := by
    rcases hw with e | e
    · rw [e]; exact h.ne
    · intro e2; have := e g e2; have := h.lt; omega
  refine ⟨⟨?_, ?_, h.le, hne⟩, ?_⟩
  · have := heap_setCell_same w' g 0 _ T v' hb
    simpa using this
  · exact hR.only (S := fun i => i = g) ((Only.refl (fun i => i = g) w').set (g := g) (.inl rfl) 0 v') (fun k hk e => hne (by rw [hk, e]))
  · exact (hO.mono (fun i hi => .inr hi)).set (.inl (.inl rfl)) 0 v'
theorem put_cell {w w' : World} {T : TypeId} {B g : Nat} {v : Value} {L : List Pr} (h : VAt w T B g v L) (hO : Only (fun i => v.ownBlock = some i) w w') : w'.cell? ⟨g, 0, none⟩ = some v ∧ w'.frozen? ⟨g, 0, none⟩ = false := by
  have hb : w'.heap[g]? = some (.cells #[v] T (0, 0)) := (hO.block g h.lt (fun e => h.ne e)).trans h.blk
  exact ⟨by simp only [World.cell?, hb]; rfl, by simp [World.frozen?, hb]⟩
theorem Moved.of_below {T : TypeId} {B g : Nat} {v : Value} {L : List Pr} {w w1 w' : World} (hb : Below w.heap.size w w1) (h : Moved T B g v L w1 w') : Moved T B g v L w w' := by
  obtain ⟨v', h1, h2, h3⟩ := h
  refine ⟨v', h1, (Only.of_below (S := fun _ => False) hb).trans h2 (fun _ e => e.elim) (fun _ _ e => e), ?_⟩
  rcases h3 with e | e
  · exact .inl e
  · exact .inr fun j hj => Nat.le_trans hb.size (e j hj)
theorem contains0 (s : ByteArray) (w : World) : Calls Try.prog 21 #[.string s, .string ⟨#[0]⟩] w fun e w' => e = .returned (.bool (decide (0 ≤ Lib.indexByte s.data.toList 0))) ∧ w' = w := Try.strings_Contains_one s 0 w
/-- What Set answers. -/
def setE (L : List Pr) (n v : ByteArray) : Int :=
  if okName n = true ∧ decide (0 ≤ Lib.indexByte v.data.toList 0) = false then
    if 4096 < v.size ∨ (has L n.data.toList = false ∧ 500 ≤ L.length) then 3 else 0
  else 1
def setR (L : List Pr) (n v : ByteArray) : List Pr := if setE L n v = 0 then setL L n v else L
theorem Moved.refl {T : TypeId} {B g : Nat} {v : Value} {L : List Pr} {w w' : World} (h : VAt w T B g v L) (hb : Below w.heap.size w w') : Moved T B g v L w w' :=
  ⟨v, h.below hb, Only.of_below hb, .inl rfl⟩
set_option maxRecDepth 100000 in
set_option maxHeartbeats 4000000 in
theorem Unset_any (g : Nat) (v : Value) (L : List Pr) (x : ByteArray) (B : Nat) (w : World) (hL : L.length ≤ 100000) (hr : Ris L) (hV : VAt w 26 B g v L) :
    Calls Try.prog 8 #[.pointer (some ⟨g, 0, none⟩), .string x] w fun e w' => e = .returned (.tuple #[]) ∧ Moved 26 B g v (unsetL L x.data.toList) w w' := by
  have HF := Lib.hid (find_any g v L x B w hL hr hV)
  obtain ⟨P, hP⟩ : ∃ P, pos L x.data.toList = P := ⟨_, rfl⟩
  obtain ⟨H, hH⟩ : ∃ H, has L x.data.toList = H := ⟨_, rfl⟩
  rw [hP, hH] at HF
  have HU : Hid (unsetL L x.data.toList = if H then L.eraseIdx P else L) := by rw [Hid, unsetL, hP, hH]
  obtain ⟨U, hU⟩ : ∃ U, unsetL L x.data.toList = U := ⟨_, rfl⟩
  rw [hU] at HU ⊢
  have HLT := Lib.hid (fun (h : H = true) => (has_iff.1 (hH.trans h)).1)
  rw [hP] at HLT
  have HV := Lib.hid hV
  have hpI : (P : Int) ≤ 100000 := by have := pos_le L x.data.toList; omega
  have hp0 : (0 : Int) ≤ (P : Int) := by omega
  clear hU hH hP hV hr
  go_enter Try.func8, Try.ntmps8
  go_wp2_with fail
  refine HF.out.mono ?_
  rintro e w1 ⟨rfl, hb1⟩
  have HV1 := Lib.hid (HV.out.below hb1)
  have hc1 := HV1.out.cell
  have hf1 := HV1.out.free
  have HB1 := Lib.hid hb1
  clear hb1
  simp only []
  cases H with
  | false =>
    have HE : Hid (U = L) := HU.out
    go_wp2_with fail
    go_end0
    exact ⟨rfl, by rw [HE.out]; exact Moved.refl HV.out HB1.out⟩
  | true =>
    have HE : Hid (U = L.eraseIdx P) := HU.out
    have HD := Lib.hid (Delete_any w1 B v L hL HV1.out.row P (HLT.out rfl))
    go_wp2_with fail
    refine HD.out.mono ?_
    rintro e w2 ⟨v', rfl, hR2, hO2, hw2⟩
    have HP2 := Lib.hid (HV1.out.put hR2 hO2 hw2)
    obtain ⟨hc2, hf2⟩ := put_cell HV1.out hO2
    have HW2 := Lib.hid hw2
    rcases hR2.form with ⟨rfl, _⟩ | ⟨b, cap, rfl, _⟩
    all_goals
      clear hR2 hO2 hw2
      simp only []
      go_wp2_with fail
      go_end0
      exact ⟨rfl, by rw [HE.out]; exact Moved.of_below HB1.out ⟨_, HP2.out.1, HP2.out.2, HW2.out⟩⟩
end Go.Proofs.Ytkdacdbmlgffgaa
