import Derived.Test.YtjagnihkpgbjeaaDoorGD
import Derived.Test.YtjagnihkpgbjeaaDoorVL
namespace Go.Proofs.YtjagnihkpgbjeaaDoor
open Go.RowKit Go.Maps Go.ChangeMaps
set_option linter.unusedVariables false
theorem Old_any {w : World} {B N f : Nat} {c : Cn} {T : Tr} {F : Nat → Prop} {s : Bz} (hF : Fs w B N f c T F) (hs : Nm s) (ms v nv mv : Value) (rs : List Rl) (hv : RsV w v rs) (hl : rs.length ≤ 1000) (L M : List Bs) (hnv : SlS w nv L) (hnl : L.length ≤ 1000) (hL : ∀ x ∈ L, Nm x) (hmv : SlS w mv M) (hml : M.length ≤ 1000)
    (b : Bool) (hb : oldF rs T s L M = b) :
    Calls Tryd.prog 34 #[.agg #[ms, v], .pointer (some ⟨f, 0, none⟩), .string ⟨#[47]⟩, .string (nameB s), nv, mv] w fun e w' => e = .returned (.bool b) ∧ Below w.heap.size w w' := by
  unfold oldF at hb
  cases h1 : hasF rs phB.data.toList s with
  | true =>
    rw [h1] at hb
    rw [← hb]
    exact Old_first hF hs ms v nv mv rs hv hl L hnv hnl hL (by rw [h1]; rfl)
  | false =>
    cases h2 : thF T s with
    | false =>
      rw [h1, h2] at hb
      rw [← hb]
      exact Old_first hF hs ms v nv mv rs hv hl L hnv hnl hL (by rw [h1, h2]; rfl)
    | true =>
      cases h3 : (newerF T s L).isEmpty with
      | false =>
        rw [h1, h2, h3] at hb
        rw [← hb]
        exact Old_first hF hs ms v nv mv rs hv hl L hnv hnl hL (by rw [h1, h2, h3]; rfl)
      | true =>
        rw [h1, h2, h3] at hb
        simp only [Bool.false_or, Bool.not_true] at hb
        rw [← hb]
        exact Old_rest hF hs ms v nv mv rs hv hl L M hnv hnl hL hmv hml h1 h2 h3
theorem New_small (n m : Int) (hn0 : 0 ≤ n) (hn : n ≤ 10000) (hm0 : 0 ≤ m) (hm : m ≤ 1048576) (w : World) {B : Nat} (hB : B ≤ w.heap.size) : Calls Tryd.prog 13 #[.int .i64 n, .int .i64 m] w fun e w1 => ∃ f, e = .returned (.pointer (some ⟨f, 0, none⟩)) ∧ Fs w1 B 0 f ⟨n, m, 0, 0, 0⟩ newT (fun j => w.heap.size ≤ j ∧ j < w1.heap.size) ∧ Below w.heap.size w w1 := by
  refine (New_any n m w (B := B) (N := 0) hB).mono ?_
  rintro e w1 ⟨f, h1, h2, h3⟩
  rw [show min (max n 0) 10000 = n by omega, show min (max m 0) 1048576 = m by omega] at h2
  exact ⟨f, h1, h2.cap, h3⟩
section
variable {w : World} {B N f : Nat} {c : Cn} {T : Tr} {F : Nat → Prop} {s : Bz}
theorem WriteN (hF : Fs w B N f c T F) (hs : Nm s) (hn : T [s] = none) (hc : c.Ok) (hN : N < maxLen) (hB : B ≤ w.heap.size) (hfull : ¬ c.nodes ≤ c.count) (hroom : c.size ≤ c.bytes) :
    Calls Tryd.prog 15 #[.pointer (some ⟨f, 0, none⟩), .string (pathB s), .slice none 0 0, .bool false] w (MutP w B N f F 0 (setF T [s] (some ⟨true, [], c.clock + 1⟩)) { c with count := c.count + 1, size := c.size, clock := c.clock + 1 }) := by
  obtain ⟨e1, e2, e3⟩ := nm_one hs
  have := Write_new w (pathB s) false hF e3 hc hN hB (e2 T) (by rw [e1]; exact hn) [] none 0 ⟨none, 0, rfl, fun i h => absurd h (by simp)⟩ (fun a h => by cases h) (by simp) hfull (by simp; omega)
  rw [e1] at this
  simpa using this
theorem TouchN (hF : Fs w B N f c T F) (hs : Nm s) (hn : T [s] = none) (hc : c.Ok) (hN : N < maxLen) (hB : B ≤ w.heap.size) (hfull : ¬ c.nodes ≤ c.count) (hroom : c.size ≤ c.bytes) :
    Calls Tryd.prog 21 #[.pointer (some ⟨f, 0, none⟩), .string (pathB s)] w (MutP w B N f F 0 (setF T [s] (some ⟨true, [], c.clock + 1⟩)) { c with count := c.count + 1, size := c.size, clock := c.clock + 1 }) := by
  obtain ⟨e1, e2, e3⟩ := nm_one hs
  have := Touch_new (p := pathB s) hF e3 hc hN hB (e2 T) (by rw [e1]; exact hn) hfull hroom
  rw [e1] at this
  simpa using this
theorem TouchO {n : Nd} (hF : Fs w B N f c T F) (hs : Nm s) (hn : T [s] = some n) (hc : c.Ok) :
    Calls Tryd.prog 21 #[.pointer (some ⟨f, 0, none⟩), .string (pathB s)] w (MutP w B N f F 0 (setF T [s] (some { n with time := c.clock + 1 })) { c with clock := c.clock + 1 }) := by
  obtain ⟨e1, e2, e3⟩ := nm_one hs
  have := Touch_old (n := n) (p := pathB s) hF e3 hc (e2 T) (by rw [e1]; simp) (by rw [e1]; exact hn)
  rw [e1] at this
  exact this
end
theorem MutP.fs {w w' : World} {B N f : Nat} {F : Nat → Prop} {er : Int} {T : Tr} {c : Cn} {e : Ending} (h : MutP w B N f F er T c e w') : e = .returned (.int .i64 er) ∧ Fs w' B (N + 1) f c T (fun j => (F j ∨ w.heap.size ≤ j) ∧ j < w'.heap.size) ∧ Only F w w' :=
  ⟨h.1, h.2.1.cap, h.2.2⟩
def mk0 : Value := .agg #[.slice none 0 0, .slice none 0 0]
theorem nmA : Nm [97] := ⟨by decide, by decide, by decide, by decide, by decide, by decide⟩
theorem nmB : Nm [98] := ⟨by decide, by decide, by decide, by decide, by decide, by decide⟩
theorem nmC : Nm [99] := ⟨by decide, by decide, by decide, by decide, by decide, by decide⟩
theorem rs0 (w : World) : RsV w (.slice none 0 0) [] := .inl ⟨rfl, rfl⟩
theorem sl0 (w : World) : SlS w (.slice none 0 0) [] := .inl ⟨rfl, rfl⟩
theorem OldA {w : World} {B N f : Nat} {c : Cn} {T : Tr} {F : Nat → Prop} (hF : Fs w B N f c T F) (v nv mv : Value) (rs : List Rl) (hv : RsV w v rs) (hl : rs.length ≤ 1000) (L M : List Bs) (hnv : SlS w nv L) (hnl : L.length ≤ 1000) (hL : ∀ x ∈ L, Nm x) (hmv : SlS w mv M) (hml : M.length ≤ 1000)
    (b : Bool) (hb : oldF rs T [97] L M = b) :
    Calls Tryd.prog 34 #[.agg #[.slice none 0 0, v], .pointer (some ⟨f, 0, none⟩), .string ⟨#[47]⟩, .string ⟨#[97]⟩, nv, mv] w fun e w' => e = .returned (.bool b) ∧ Below w.heap.size w w' :=
  Old_any (s := [97]) hF nmA (.slice none 0 0) v nv mv rs hv hl L M hnv hnl hL hmv hml b hb
theorem OldB {w : World} {B N f : Nat} {c : Cn} {T : Tr} {F : Nat → Prop} (hF : Fs w B N f c T F) (v nv mv : Value) (rs : List Rl) (hv : RsV w v rs) (hl : rs.length ≤ 1000) (L M : List Bs) (hnv : SlS w nv L) (hnl : L.length ≤ 1000) (hL : ∀ x ∈ L, Nm x) (hmv : SlS w mv M) (hml : M.length ≤ 1000)
    (b : Bool) (hb : oldF rs T [98] L M = b) :
    Calls Tryd.prog 34 #[.agg #[.slice none 0 0, v], .pointer (some ⟨f, 0, none⟩), .string ⟨#[47]⟩, .string ⟨#[98]⟩, nv, mv] w fun e w' => e = .returned (.bool b) ∧ Below w.heap.size w w' :=
  Old_any (s := [98]) hF nmB (.slice none 0 0) v nv mv rs hv hl L M hnv hnl hL hmv hml b hb
/-- A file is written: a state's way on. -/
structure Sx (B : Nat) (w : World) (N f : Nat) (c : Cn) (T : Tr) : Prop where
  fs : ∃ F : Nat → Prop, Fs w B N f c T F ∧ ∀ j, F j → B ≤ j ∧ j < w.heap.size
  le : B ≤ w.heap.size
theorem Sx.below {B : Nat} {w w' : World} {N f : Nat} {c : Cn} {T : Tr} (h : Sx B w N f c T) (hb : Below w.heap.size w w') : Sx B w' N f c T := by
  obtain ⟨⟨F, h1, h2⟩, h3⟩ := h
  exact ⟨⟨F, h1.below hb, fun j hj => ⟨(h2 j hj).1, Nat.lt_of_lt_of_le (h2 j hj).2 hb.size⟩⟩, Nat.le_trans h3 hb.size⟩
theorem New_sx (n m : Int) (hn0 : 0 ≤ n) (hn : n ≤ 10000) (hm0 : 0 ≤ m) (hm : m ≤ 1048576) (w : World) : Calls Tryd.prog 13 #[.int .i64 n, .int .i64 m] w fun e w1 => ∃ f, e = .returned (.pointer (some ⟨f, 0, none⟩)) ∧ Sx w.heap.size w1 0 f ⟨n, m, 0, 0, 0⟩ newT ∧ Below w.heap.size w w1 := by
  refine (New_small n m hn0 hn hm0 hm w (B := w.heap.size) (Nat.le_refl _)).mono ?_
  rintro e w1 ⟨f, h1, h2, h3⟩
  exact ⟨f, h1, ⟨⟨_, h2, fun j hj => hj⟩, h3.size⟩, h3⟩
theorem Sx.mut {B : Nat} {w w' : World} {N f : Nat} {c c' : Cn} {T T' : Tr} {F : Nat → Prop} {er : Int} {e : Ending} (h1 : Fs w B N f c T F) (h2 : ∀ j, F j → B ≤ j ∧ j < w.heap.size) (h3 : B ≤ w.heap.size) (h : MutP w B N f F er T' c' e w') :
    e = .returned (.int .i64 er) ∧ Sx B w' (N + 1) f c' T' ∧ Below B w w' := by
  obtain ⟨e1, e2, e3⟩ := h.fs
  refine ⟨e1, ⟨⟨_, e2, fun j hj => ⟨?_, hj.2⟩⟩, Nat.le_trans h3 e3.size⟩, e3.below (fun k hk => (h2 k hk).1) h3⟩
  rcases hj.1 with h | h
  · exact (h2 j h).1
  · exact Nat.le_trans h3 h
theorem Write_sx {B : Nat} {w : World} {N f : Nat} {c : Cn} {T : Tr} {s : Bz} (h : Sx B w N f c T) (hs : Nm s) (hn : T [s] = none) (hc : c.Ok) (hN : N < maxLen) (hfull : ¬ c.nodes ≤ c.count) (hroom : c.size ≤ c.bytes) :
    Calls Tryd.prog 15 #[.pointer (some ⟨f, 0, none⟩), .string (pathB s), .slice none 0 0, .bool false] w fun e w' => e = .returned (.int .i64 0) ∧ Sx B w' (N + 1) f ⟨c.nodes, c.bytes, c.count + 1, c.size, c.clock + 1⟩ (setF T [s] (some ⟨true, [], c.clock + 1⟩)) ∧ Below B w w' := by
  obtain ⟨⟨F, h1, h2⟩, h3⟩ := h
  refine (WriteN h1 hs hn hc hN h3 hfull hroom).mono ?_
  intro e w' hm
  exact Sx.mut h1 h2 h3 hm
set_option maxRecDepth 100000 in
set_option maxHeartbeats 4000000 in
theorem alive33 (w : World) : Calls Tryd.prog 33 #[] w fun e w' => e = .returned (.bool true) ∧ Below w.heap.size w w' := by
  have HNEW := Lib.hid (New_sx 3 10 (by omega) (by omega) (by omega) (by omega) w)
  have HO1 := Lib.hid (fun (w1 : World) (f : Nat) (h : Sx w.heap.size w1 0 f ⟨3, 10, 0, 0, 0⟩ newT) => by
    obtain ⟨F, h1, h2⟩ := h.fs
    exact OldA h1 (.slice none 0 0) (.slice none 0 0) (.slice none 0 0) [] (rs0 _) (by simp) [] [] (sl0 _) (by simp) (by simp) (sl0 _) (by simp) true (by decide))
  have HW1 := Lib.hid (fun (w1 : World) (f : Nat) (h : Sx w.heap.size w1 0 f ⟨3, 10, 0, 0, 0⟩ newT) => Write_sx (s := [97]) h nmA rfl ⟨by decide, by decide, by decide, by decide, by decide⟩ (by decide) (by decide) (by decide))
  have HO2 := Lib.hid (fun (w1 : World) (f : Nat) (h : Sx w.heap.size w1 1 f ⟨3, 10, 0 + 1, 0, 0 + 1⟩ (setF newT [[97]] (some ⟨true, [], 0 + 1⟩))) => by
    obtain ⟨F, h1, h2⟩ := h.fs
    exact OldA h1 (.slice none 0 0) (.slice none 0 0) (.slice none 0 0) [] (rs0 _) (by simp) [] [] (sl0 _) (by simp) (by simp) (sl0 _) (by simp) false (by decide))
  rw [show pathB [97] = ⟨#[47, 97]⟩ from rfl] at HW1
  go_enter Tryd.func33, Tryd.ntmps33
  go_wp2_with (first
    | (go_at_call 13; refine HNEW.out.mono ?_; rintro e w1 ⟨f, rfl, hf, h1⟩; have HF := Lib.hid hf; have H1 := Lib.hid h1; clear hf h1; simp only [])
    | (go_at_call 15; ((with_reducible refine (HW1.out _ _ (HF.out.below H2.out)).mono ?_)); rintro e w3 ⟨rfl, hf3, h3⟩; have HF3 := Lib.hid hf3; have H3 := Lib.hid h3; clear h3 hf3; simp only [])
    | (go_at_call 34; ((with_reducible refine (HO2.out _ _ HF3.out).mono ?_)); rintro e w4 ⟨rfl, h4⟩; have H4 := Lib.hid h4; clear h4; simp only [])
    | (go_at_call 34; ((with_reducible refine (HO1.out _ _ HF.out).mono ?_)); rintro e w2 ⟨rfl, h2⟩; have H2 := Lib.hid h2; clear h2; simp only []))
  go_ret
  exact ⟨rfl, (H1.out.trans (H2.out.mono HF.out.le)).trans (H3.out.trans (H4.out.mono HF3.out.le))⟩
end Go.Proofs.YtjagnihkpgbjeaaDoor
