import Derived.Test.YtjagnihkpgbjeaaDoorVH
namespace Go.Proofs.YtjagnihkpgbjeaaDoor
open Go.RowKit Go.Maps Go.ChangeMaps
set_option linter.unusedVariables false
def leafT (n : Nd) (q : Pth) : Option Nd := if q = [] then some n else none
theorem TreeAt.leaf' {w : World} {B N : Nat} {n : Nd} {c : Nat} {v : Value} {ty : TypeId} {tl : List Value} (hb : w.heap[c]? = some (.cells (ndC n v none ++ tl).toArray ty (0, 0))) (hd : w.ownsRow B 5 1 v n.data.length (u8s n.data)) (hB : B ≤ c) :
    TreeAt w B N c ty tl (leafT n) (fun _ => c) (fun _ => none) (fun _ => v) := by
  have e0 : ∀ {p : Pth} {m : Nd}, leafT n p = some m → p = [] ∧ m = n := fun {p m} h => by
    unfold leafT at h
    by_cases e : p = []
    · rw [if_pos e] at h; cases h; exact ⟨e, rfl⟩
    · rw [if_neg e] at h; cases h
  have e1 : ∀ {p : Pth}, (leafT n p).isSome = true → p = [] := fun {p} h => by
    unfold leafT at h
    by_cases e : p = []
    · exact e
    · rw [if_neg e] at h; cases h
  refine ⟨rfl, ⟨n, if_pos rfl⟩, fun p k h => absurd (e1 h) (by simp), fun p m h => ?_, fun p m h => ?_, fun p m h => ⟨fun _ k => ?_, fun b e => (nomatch e)⟩, fun p m h => ⟨hB, fun b e => (nomatch e)⟩, fun p q hp hq _ => ?_, fun p q b hp hq e => (nomatch e), fun p q b hp hq _ _ => ?_⟩
  · obtain ⟨rfl, rfl⟩ := e0 h; exact hb
  · obtain ⟨rfl, rfl⟩ := e0 h; exact hd
  · unfold kidsOf leafT; rw [if_neg (by simp)]
  · rw [e1 hp, e1 hq]
  · rw [e1 hp, e1 hq]
theorem leaf_foot {n : Nd} {c : Nat} {v : Value} {j : Nat} (h : foot (leafT n) (fun _ => c) (fun _ => none) (fun _ => v) j) : j = c ∨ v.ownBlock = some j := by
  obtain ⟨p, m, _, e | e | e⟩ := h
  · exact .inl e.symm
  · cases e
  · exact .inr e
/-- A file system lies at block f, within the blocks F. -/
def Fs (w : World) (B N f : Nat) (c : Cn) (T : Tr) (F : Nat → Prop) : Prop :=
  ∃ A M V, TreeAt w B N f 71 c.tl T A M V ∧ (∀ j, foot T A M V j → F j) ∧ ∃ r0, T [] = some r0 ∧ r0.file = false
def newT : Tr := leafT ⟨false, [], 0⟩
set_option maxRecDepth 100000 in
set_option maxHeartbeats 1000000 in
theorem New_any (n m : Int) (w : World) {B N : Nat} (hB : B ≤ w.heap.size) :
    Calls Tryd.prog 13 #[.int .i64 n, .int .i64 m] w fun e w' => ∃ f, e = .returned (.pointer (some ⟨f, 0, none⟩)) ∧ Fs w' B N f ⟨min (max n 0) 10000, min (max m 0) 1048576, 0, 0, 0⟩ newT (fun j => w.heap.size ≤ j) ∧ Below w.heap.size w w' := by
  go_enter Tryd.func13, Tryd.ntmps13
  go_wp2_with fail
  go_ret
  refine ⟨w.heap.size, rfl, ⟨fun _ => w.heap.size, fun _ => none, fun _ => .slice none 0 0, TreeAt.leaf' (n := ⟨false, [], 0⟩) (v := .slice none 0 0) (heap_alloc_new w _) ⟨rfl, .inl ⟨rfl, rfl⟩⟩ hB, fun j hj => ?_, ⟨_, rfl, rfl⟩⟩, (Below.refl _ _).alloc (Nat.le_refl _) _⟩
  rcases leaf_foot hj with e | e
  · omega
  · cases e
section
variable {f : Nat} {p : ByteArray} {w : World} {B N : Nat} {tl : List Value} {T : Tr} {A : Pth → Nat} {M : Pth → Option Nat} {V : Pth → Value} {r0 : Nd}
/-- What the length of a path's names is. -/
structure PathOk (p : ByteArray) : Prop where
  sz : p.size ≤ 30000
  len : (abs_ root1 p).1.length ≤ 40000
  few : (findL p).length ≤ 1000000
  each : ∀ x ∈ findL p, x.length ≤ maxLen
theorem find_bad (hT : TreeAt w B N f 71 tl T A M V) (h0 : T [] = some r0) (hr0 : r0.file = false) (hp : PathOk p) (hE : findE T p ≠ 0) :
    Calls Tryd.prog 38 #[.pointer (some ⟨f, 0, none⟩), .string p] w fun e w' => e = .returned (.tuple #[spot0, .int .i64 (findE T p)]) ∧ Below w.heap.size w w' := by
  refine (find_any f p w hT h0 hr0 hp.sz hp.len ⟨hp.few, hp.each⟩).mono ?_
  rintro e w' ⟨h1, ⟨_, h2⟩ | ⟨h2, _⟩ | ⟨h2, _⟩⟩
  · exact ⟨h2, h1⟩
  · exact absurd h2 hE
  · exact absurd h2 hE
theorem find_root (hT : TreeAt w B N f 71 tl T A M V) (h0 : T [] = some r0) (hr0 : r0.file = false) (hp : PathOk p) (hE : findE T p = 0) (hL : findL p = []) :
    Calls Tryd.prog 38 #[.pointer (some ⟨f, 0, none⟩), .string p] w fun e w' => e = .returned (.tuple #[spotV (.pointer none) ⟨#[]⟩ (.pointer (some ⟨f, 0, none⟩)) (.slice none 0 0), .int .i64 0]) ∧ Below w.heap.size w w' := by
  refine (find_any f p w hT h0 hr0 hp.sz hp.len ⟨hp.few, hp.each⟩).mono ?_
  rintro e w' ⟨h1, ⟨h2, _⟩ | ⟨_, _, h2⟩ | ⟨_, d, k, dn, nv, h2, _⟩⟩
  · exact absurd hE h2
  · exact ⟨h2, h1⟩
  · rw [hL] at h2; simp at h2
theorem find_good {d : Pth} {k : Bz} (hT : TreeAt w B N f 71 tl T A M V) (h0 : T [] = some r0) (hr0 : r0.file = false) (hp : PathOk p) (hE : findE T p = 0) (hL : findL p = d ++ [k]) :
    Calls Tryd.prog 38 #[.pointer (some ⟨f, 0, none⟩), .string p] w fun e w' => ∃ dn g c, T d = some dn ∧ dn.file = false ∧ e = .returned (.tuple #[spotV (.pointer (some ⟨A d, 0, none⟩)) ⟨k.toArray⟩ (ptrV (kidsOf T A d k)) (.slice (some ⟨g, 0, none⟩) (d ++ [k]).length c), .int .i64 0]) ∧
      w'.ownsRow w.heap.size 9 1 (.slice (some ⟨g, 0, none⟩) (d ++ [k]).length c) (d ++ [k]).length ((d ++ [k]).map encStr) ∧ Below w.heap.size w w' := by
  refine (find_any f p w hT h0 hr0 hp.sz hp.len ⟨hp.few, hp.each⟩).mono ?_
  rintro e w' ⟨h1, ⟨h2, _⟩ | ⟨_, h2, _⟩ | ⟨_, d', k', dn, nv, h2, h3, h4, h5, h6⟩⟩
  · exact absurd hE h2
  · rw [hL] at h2; simp at h2
  · obtain ⟨e1, e2⟩ := List.append_inj' (hL.symm.trans h2) rfl
    have e2 : k = k' := by simpa using e2
    subst e1; subst e2
    obtain ⟨g, c, rfl, _⟩ := h5.form (by simp)
    exact ⟨dn, g, c, h3, h4, h6, h5, h1⟩
end
end Go.Proofs.YtjagnihkpgbjeaaDoor
