import Derived.Test.YtdiggmlickdfdaaDoorVO
import Derived.Test.YtdiggmlickdfdaaDoorVQ
import Derived.Sort.KeysCollected
namespace Go.Proofs.YtdiggmlickdfdaaDoor
open Go.RowKit Go.Maps Go.ChangeMaps Go.Sort Go.Lib
set_option linter.unusedVariables false
theorem keys_of {w : World} {b nn : Nat} {D : DataW Unit} (h : w.ownsMap Tryd.prog 9 ptrR b nn D) : (strKeys D).Nodup ∧ ∀ x, x ∈ strKeys D ↔ Maps.has D (.string x) = true := by
  obtain ⟨es, rfl, hp, hk⟩ := h.entries keyedS
  obtain ⟨es', e, hks⟩ := h.keysOf
  injection e with e
  subst e
  have hst : ∀ p ∈ es, ∃ x, p.1 = .string x := fun p hp' => by
    obtain ⟨v, hv⟩ := hks p hp'
    obtain ⟨x, _, h2, _⟩ := Maps.keyOf_str Tryd.underlying9 hv
    exact ⟨x, h2⟩
  constructor
  · show (es.map fun p => strOf p.1).Nodup
    refine List.pairwise_map.2 (hp.imp_of_mem fun {p q} hp' hq' hne e => hne ?_)
    obtain ⟨a, ha⟩ := hst p hp'
    obtain ⟨c, hc⟩ := hst q hq'
    rw [ha, hc] at e ⊢
    exact congrArg _ e
  · intro x
    rw [Maps.has_eq, List.any_eq_true]
    show x ∈ (es.map fun p => strOf p.1) ↔ _
    rw [List.mem_map]
    constructor
    · rintro ⟨p, hp', rfl⟩
      obtain ⟨a, ha⟩ := hst p hp'
      exact ⟨p, hp', by rw [ha]; simp [Lit.sameKey, strOf]⟩
    · rintro ⟨p, hp', hs⟩
      obtain ⟨a, ha⟩ := hst p hp'
      rw [ha] at hs
      exact ⟨p, hp', by rw [ha]; simpa [Lit.sameKey, strOf] using hs⟩
/-- The names in a directory, in ascending order. -/
def NamesP (g : Bz → Option Nat) (w : World) (e : Ending) (w' : World) : Prop :=
  ∃ (v : Value) (L : List Bz), e = .returned v ∧ w'.ownsRow w.heap.size 9 1 v L.length (L.map encStr) ∧ Ris L ∧ (∀ x, x ∈ L ↔ (g x).isSome = true) ∧ Below w.heap.size w w'
theorem sorted_ris {l : List Bz} (h : l.Nodup) : Ris (l.mergeSort fun x y => decide (x ≤ y)) := by
  have h1 := sort_le l
  have h2 : (l.mergeSort fun x y => decide (x ≤ y)).Pairwise (· ≠ ·) := (List.mergeSort_perm l _).nodup_iff.2 h
  refine (h1.and h2).imp fun {a b} hab => ?_
  by_cases e : a < b
  · exact e
  · exact absurd (bs_eq e (bs_le.1 hab.1)) hab.2
theorem row9_base {w : World} {B B' n : Nat} {v : Value} {xs : List Value} (h : w.ownsRow B 9 1 v n xs) (hB : B' ≤ B) : w.ownsRow B' 9 1 v n xs := by
  refine ⟨h.1, ?_⟩
  rcases h.2 with hn | ⟨g, cap, cur, e, h1, r⟩
  · exact .inl hn
  · exact .inr ⟨g, cap, cur, e, Nat.le_trans hB h1, r⟩
set_option maxRecDepth 100000 in
set_option maxHeartbeats 2000000 in
theorem names_any (a N : Nat) (m : Option Nat) (g : Bz → Option Nat) (w : World) (hcell : w.cell? ⟨a, 3, none⟩ = some (.map m)) (hk : Kids w N m g) (hN : N ≤ 1000000) : Calls Tryd.prog 26 #[.pointer (some ⟨a, 0, none⟩)] w (NamesP g w) := by
  refine (callsIn_wide (n := 6)).1 ?_
  have hfK : Fence.wide.fn 34 := trivial
  have hfS : Fence.wide.fn 33 := trivial
  cases m with
  | none =>
    have HK := Lib.hid hk
    clear hk
    refine callsIn_of_wp Tryd.func26 rfl trivial ?_ rfl
    simp only [Tryd.ntmps26, List.size_toArray, List.length_cons, List.length_nil, Nat.reduceAdd, Nat.reduceSub, Array.replicate_succ, Array.replicate_zero, List.push_toArray, List.append_toArray, List.nil_append, List.cons_append]
    gi_wp2_with (first
      | (gi_at_call 34; refine (Tryd.maps_Keys_34 _ _).mono ?_; rintro e w' ⟨rfl, rfl⟩)
      | (gi_at_call 33; refine (Tryd.slices_Sorted_keys_nil_33_34 w).mono ?_; rintro e w' ⟨v, ss, rfl, hS, hrow, hnil, hb⟩))
    go_ret
    subst hS
    refine ⟨v, [], rfl, by have h9 := row9_base (B' := w.heap.size) hrow (by simp); simpa using h9, List.Pairwise.nil, fun x => ?_, ((Below.refl _ w).alloc (Nat.le_refl _) _).trans (hb.mono (by simp))⟩
    rw [HK.out.no rfl]; simp
  | some b =>
    obtain ⟨nn, D, hnn, hown, hg⟩ := hk.yes b rfl
    have HK := Lib.hid hg
    have hsz : Maps.size D ≤ 1000000 := Nat.le_trans hown.size_le (Nat.le_trans hnn hN)
    clear hk hg
    refine callsIn_of_wp Tryd.func26 rfl trivial ?_ rfl
    simp only [Tryd.ntmps26, List.size_toArray, List.length_cons, List.length_nil, Nat.reduceAdd, Nat.reduceSub, Array.replicate_succ, Array.replicate_zero, List.push_toArray, List.append_toArray, List.nil_append, List.cons_append]
    gi_wp2_with (first
      | (gi_at_call 34; refine (Tryd.maps_Keys_34 _ _).mono ?_; rintro e w' ⟨rfl, rfl⟩)
      | (gi_at_call 33; refine (Tryd.slices_Sorted_keys_33_34 b nn D ptrR w hown (by unfold maxLen; omega) (by omega)).mono ?_; rintro e w' ⟨v, ss, rfl, hS, hrow, hnil, hb⟩))
    go_ret
    have hkeys := keys_of hown
    have hnd : ss.Nodup := hS.nodup_iff.2 hkeys.1
    refine ⟨v, ss.mergeSort fun x y => decide (x ≤ y), rfl, ?_, sorted_ris hnd, fun x => ?_, ((Below.refl _ w).alloc (Nat.le_refl _) _).trans (hb.mono (by simp))⟩
    · rw [List.length_mergeSort]; exact row9_base hrow (by simp)
    · rw [(List.mergeSort_perm ss _).mem_iff, hS.mem_iff, hkeys.2, (HK.out x).2]
end Go.Proofs.YtdiggmlickdfdaaDoor
