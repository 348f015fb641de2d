import Derived.Test.YtdiggmlickdfdaaDoorVU
namespace Go.Proofs.YtdiggmlickdfdaaDoor
open Go.RowKit Go.Maps Go.ChangeMaps
set_option linter.unusedVariables false
/-- The directory /d holds the names S. -/
structure Tq (T : Tr) (S : List Bz) : Prop where
  dir : ∃ dn, T [[100]] = some dn ∧ dn.file = false
  has : ∀ x, (T [[100], x]).isSome = true ↔ x ∈ S
/-- The counters behind k changes at the most. -/
structure Ck (c : Cn) (k : Nat) : Prop where
  nodes : c.nodes = 50
  bytes : c.bytes = 50
  size : c.size = 0
  count : 0 ≤ c.count ∧ c.count ≤ k
  clock : 0 ≤ c.clock ∧ c.clock ≤ k
theorem Ck.ok {c : Cn} {k : Nat} (h : Ck c k) (hk : k ≤ 1000) : c.Ok := by
  have := h.nodes; have := h.bytes; have := h.size; have := h.count; have := h.clock
  exact ⟨by omega, by omega, by omega, by omega, by omega⟩
theorem Ck.mono {c : Cn} {k k' : Nat} (h : Ck c k) (hk : k ≤ k') : Ck c k' := by
  have := h.count; have := h.clock
  exact ⟨h.nodes, h.bytes, h.size, by omega, by omega⟩
theorem Tq.way {T : Tr} {S : List Bz} (h : Tq T S) (s : Bz) : wayE T [] [[100], s] = 0 := by
  obtain ⟨dn, h1, h2⟩ := h.dir
  unfold wayE
  rw [show ([] : Pth) ++ [[100]] = [[100]] from rfl, h1]
  simp [h2, wayE]
theorem Tq.set {T : Tr} {S : List Bz} (h : Tq T S) (s : Bz) (n : Nd) : Tq (setF T [[100], s] (some n)) (s :: S) := by
  obtain ⟨dn, h1, h2⟩ := h.dir
  refine ⟨⟨dn, by rw [setF_other _ _ (by simp)]; exact h1, h2⟩, fun x => ?_⟩
  by_cases hx : x = s
  · subst hx
    rw [setF_same]; simp
  · rw [setF_other _ _ (by simpa using hx), h.has x]
    simp [hx]
theorem Tq.old {T : Tr} {S : List Bz} (h : Tq T S) (s : Bz) (hs : (T [[100], s]).isSome = true) : Tq T (s :: S) :=
  ⟨h.dir, fun x => by
    rw [h.has x]
    have := (h.has s).1 hs
    constructor
    · exact fun e => List.mem_cons_of_mem _ e
    · intro e
      rcases List.mem_cons.1 e with rfl | e
      · exact this
      · exact e⟩
def StepP (w : World) (B N f : Nat) (F : Nat → Prop) (S : List Bz) (s : Bz) (k : Nat) (e : Ending) (w' : World) : Prop :=
  ∃ er T' c', MutP w B N f F er T' c' e w' ∧ Tq T' (s :: S) ∧ Ck c' (k + 1)
theorem mk_step {w : World} {B N f : Nat} {c : Cn} {T : Tr} {F : Nat → Prop} {S : List Bz} {k : Nat} (s : ByteArray) (hs : Nm s.data.toList) (hF : Fs w B N f c T F) (hT : Tq T S) (hc : Ck c k) (hk : k ≤ 40) (hN : N < maxLen) (hB : B ≤ w.heap.size) :
    Calls Tryd.prog 7 #[.pointer (some ⟨f, 0, none⟩), .string (⟨#[47, 100, 47]⟩ ++ s)] w (StepP w B N f F S s.data.toList k) := by
  obtain ⟨p1, p2, p3⟩ := nm_path hs _ (.inl rfl)
  have hE : findE T (⟨#[47, 100, 47]⟩ ++ s) = 0 := by rw [p2, hT.way]; rfl
  obtain ⟨er, T', c', hm⟩ : ∃ er T' c', mkdirF T c (⟨#[47, 100, 47]⟩ ++ s) = (er, T', c') := ⟨_, _, _, rfl⟩
  refine (Mkdir_any w _ hF p3 (hc.ok (by omega)) hN hB er T' c' hm).mono ?_
  intro e w' h
  refine ⟨er, T', c', h, ?_⟩
  rw [mkdirF, if_neg (fun e => e hE), p1] at hm
  by_cases hx : (T [[100], s.data.toList]).isSome = true
  · rw [if_pos hx] at hm
    injection hm with _ hm
    injection hm with e2 e3
    subst e2; subst e3
    exact ⟨hT.old _ hx, hc.mono (by omega)⟩
  · have := hc.nodes; have := hc.count; have := hc.clock
    rw [if_neg hx, if_neg (by omega)] at hm
    injection hm with _ hm
    injection hm with e2 e3
    subst e2; subst e3
    exact ⟨hT.set _ _, ⟨hc.nodes, hc.bytes, hc.size, ⟨by show 0 ≤ c.count + 1; omega, by show c.count + 1 ≤ _; omega⟩, ⟨by show 0 ≤ c.clock + 1; omega, by show c.clock + 1 ≤ _; omega⟩⟩⟩
theorem touch_step {w : World} {B N f : Nat} {c : Cn} {T : Tr} {F : Nat → Prop} {S : List Bz} {k : Nat} (s : ByteArray) (hs : Nm s.data.toList) (hF : Fs w B N f c T F) (hT : Tq T S) (hc : Ck c k) (hk : k ≤ 40) (hN : N < maxLen) (hB : B ≤ w.heap.size) :
    Calls Tryd.prog 14 #[.pointer (some ⟨f, 0, none⟩), .string (⟨#[100, 47]⟩ ++ s)] w (StepP w B N f F S s.data.toList k) := by
  obtain ⟨p1, p2, p3⟩ := nm_path hs _ (.inr rfl)
  have hE : findE T (⟨#[100, 47]⟩ ++ s) = 0 := by rw [p2, hT.way]; rfl
  have := hc.nodes; have := hc.count; have := hc.clock; have := hc.size; have := hc.bytes
  cases hx : T [[100], s.data.toList] with
  | some n =>
    refine (Touch_old (n := n) hF p3 (hc.ok (by omega)) hE (by rw [p1]; simp) (by rw [p1]; exact hx)).mono ?_
    intro e w' h
    rw [p1] at h
    exact ⟨_, _, _, h, hT.set _ _, ⟨hc.nodes, hc.bytes, hc.size, ⟨by show 0 ≤ c.count; omega, by show c.count ≤ _; omega⟩, ⟨by show 0 ≤ c.clock + 1; omega, by show c.clock + 1 ≤ _; omega⟩⟩⟩
  | none =>
    refine (Touch_new hF p3 (hc.ok (by omega)) hN hB hE (by rw [p1]; exact hx) (by omega) (by omega)).mono ?_
    intro e w' h
    rw [p1] at h
    exact ⟨_, _, _, h, hT.set _ _, ⟨hc.nodes, hc.bytes, by show c.size + 0 = 0; omega, ⟨by show 0 ≤ c.count + 1; omega, by show c.count + 1 ≤ _; omega⟩, ⟨by show 0 ≤ c.clock + 1; omega, by show c.clock + 1 ≤ _; omega⟩⟩⟩
end Go.Proofs.YtdiggmlickdfdaaDoor
