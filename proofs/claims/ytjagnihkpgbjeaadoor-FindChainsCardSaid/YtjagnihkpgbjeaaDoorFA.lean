import Derived.Test.YtjagnihkpgbjeaaDoorPA
import Derived.Test.YtjagnihkpgbjeaaDoorA
import Derived.Test.YtjagnihkpgbjeaaDoorZ
namespace Go.Proofs.YtjagnihkpgbjeaaDoor
open Go.RowKit
set_option linter.unusedVariables false
/-! Strings in a slice: is a text there; is a pattern there. -/
theorem strs_sl {w : World} {a : Option Addr} {n c : Nat} {l : List Bs} (h : SlS w (.slice a n c) l) : StrsL w a l := by
  intro h0
  rcases h with ⟨_, rfl⟩ | ⟨g, off, c', e, h1, h2, h3, h4⟩
  · simp at h0
  · injection e with e _ _
    exact ⟨g, off, e, h3, h4⟩
/-- Is there a % in a text? -/
def pct (b : Bs) : Bool := decide (0 ≤ Lib.indexByte b 37)
theorem addk (g off k : Nat) : (⟨g, off, none⟩ : Addr).add k = ⟨g, off + k, none⟩ := by unfold Addr.add; by_cases h : k = 0 <;> simp [h]
def IdxP (z : Int) (p : Prop) : Prop := 0 ≤ z ↔ p
set_option maxRecDepth 100000 in
set_option maxHeartbeats 2000000 in
theorem Index_any (v : Value) (L : List Bs) (x : ByteArray) (w : World) (hv : SlS w v L) (hn : L.length ≤ 1000000000) :
    Calls Tryd.prog 104 #[v, .string x] w fun e w' => (∃ z : Int, e = .returned (.int .i64 z) ∧ IdxP z (x.data.toList ∈ L)) ∧ w' = w := by
  obtain ⟨a, c, rfl⟩ := hv.len
  have HS := Lib.hid (strs_sl hv)
  obtain ⟨n, hln⟩ : ∃ n, L.length = n := ⟨_, rfl⟩
  rw [hln] at hn ⊢
  have HLN := Lib.hid hln
  clear hv hln
  go_enter Tryd.func104, Tryd.ntmps104
  go_wp2_with fail
  go_loop [8] (fun i => ∃ k : Nat, k ≤ n ∧ i = .int .i64 k ∧ Hid (∀ j (h : j < L.length), j < k → L[j] ≠ x.data.toList)) (fun i => n - (intOf i).toNat)
  case atStart => exact ⟨0, by omega, rfl, fun j _ hj => by omega⟩
  case round =>
    obtain ⟨k, hk, rfl, HN⟩ := hrel
    by_cases hlt : k < n
    · have hltI : (k : Int) < (n : Int) := by omega
      have h0 : (0 : Int) ≤ (k : Int) := by omega
      have hltL : k < L.length := by rw [HLN.out]; exact hlt
      obtain ⟨g, off, rfl, _, hc⟩ := HS.out (by omega)
      have hck := hc k hltL
      have hadd := addk g off k
      clear hc
      by_cases hx : L[k] = x.data.toList
      · have HX := Lib.hid hx
        rw [show encStr L[k] = .string ⟨L[k].toArray⟩ from rfl, hx, show (⟨x.data.toList.toArray⟩ : ByteArray) = x by cases x; simp] at hck
        clear hx
        go_wp2_with fail
        go_ret
        refine ⟨⟨_, rfl, ?_⟩, rfl⟩
        exact ⟨fun _ => HX.out ▸ List.getElem_mem hltL, fun _ => h0⟩
      · have hne : (x.toList == (⟨L[k].toArray⟩ : ByteArray).toList) = false := by
          rw [beq_eq_false_iff_ne, Lib.toList_data, Lib.toList_data]
          intro e; exact hx (by simpa using e.symm)
        have HN2 : Hid (∀ j (h : j < L.length), j < k + 1 → L[j] ≠ x.data.toList) := fun j h hj => by
          by_cases e : j = k
          · subst e; exact hx
          · exact HN.out j h (by omega)
        obtain ⟨s, hs⟩ : ∃ s : ByteArray, ⟨L[k].toArray⟩ = s := ⟨_, rfl⟩
        rw [show encStr L[k] = .string ⟨L[k].toArray⟩ from rfl, hs] at hck
        rw [hs] at hne
        clear hx hs
        go_wp2_with fail
        exact ⟨⟨k + 1, by omega, by go_num, HN2.out⟩, by simp [intOf]; omega⟩
    · have hltI : ¬ (k : Int) < (n : Int) := by omega
      go_wp2_with fail
      go_ret
      refine ⟨⟨_, rfl, ?_⟩, rfl⟩
      refine ⟨fun h => absurd h (by decide), fun h => ?_⟩
      obtain ⟨j, hj, e⟩ := List.mem_iff_getElem.1 h
      exact absurd e (HN.out j hj (by have := HLN.out; omega))
set_option maxRecDepth 100000 in
theorem Contains_any (v : Value) (L : List Bs) (x : ByteArray) (w : World) (hv : SlS w v L) (hn : L.length ≤ 1000000000) (b : Bool) (hb : L.contains x.data.toList = b) :
    Calls Tryd.prog 78 #[v, .string x] w fun e w' => e = .returned (.bool b) ∧ w' = w := by
  have HI := Lib.hid (Index_any v L x w hv hn)
  have HB : Hid (x.data.toList ∈ L ↔ b = true) := by rw [Hid, ← hb]; exact List.contains_iff_mem.symm
  obtain ⟨a, c, rfl⟩ := hv.len
  clear hv hb
  go_enter Tryd.func78, Tryd.ntmps78
  go_wp2_with fail
  refine HI.out.mono ?_
  rintro e w' ⟨⟨z, rfl, hz0⟩, h⟩
  obtain rfl := h.symm
  simp only []
  have hz := Iff.trans (show 0 ≤ z ↔ _ from hz0) HB.out
  clear HB hz0
  cases b
  · have hz1 : ¬ (0 : Int) ≤ z := fun e => by simpa using hz.1 e
    clear hz
    go_wp2_with fail
    go_ret
    exact ⟨rfl, rfl⟩
  · have hz1 : (0 : Int) ≤ z := hz.2 rfl
    clear hz
    go_wp2_with fail
    go_ret
    exact ⟨rfl, rfl⟩
set_option maxRecDepth 100000 in
theorem Is_any (p : ByteArray) (w : World) (b : Bool) (hb : pct p.data.toList = b) : Calls Tryd.prog 58 #[.string p] w fun e w' => e = .returned (.bool b) ∧ w' = w := by
  have h1 : Calls Tryd.prog 60 #[.string p, .string ⟨#[37]⟩] w fun e w' => e = .returned (.bool b) ∧ w' = w := by rw [← hb]; exact Tryd.strings_Contains_one p 37 w
  have H1 := Lib.hid h1
  clear h1 hb
  go_enter Tryd.func58, Tryd.ntmps58
  go_wp2_with fail
  refine H1.out.mono ?_
  rintro e w1 ⟨rfl, hw1⟩
  obtain rfl := hw1.symm
  simp only []
  go_wp2_with fail
  go_ret
  exact ⟨rfl, rfl⟩
set_option maxRecDepth 100000 in
set_option maxHeartbeats 2000000 in
theorem IndexF_any (v : Value) (L : List Bs) (w : World) (hv : SlS w v L) (hn : L.length ≤ 1000000000) :
    Calls Tryd.prog 84 #[v, .func (.func 58) #[] #[]] w fun e w' => (∃ z : Int, e = .returned (.int .i64 z) ∧ IdxP z (L.any pct = true)) ∧ w' = w := by
  obtain ⟨a, c, rfl⟩ := hv.len
  have HS := Lib.hid (strs_sl hv)
  obtain ⟨n, hln⟩ : ∃ n, L.length = n := ⟨_, rfl⟩
  rw [hln] at hn ⊢
  have HLN := Lib.hid hln
  clear hv hln
  go_enter Tryd.func84, Tryd.ntmps84
  go_wp2_with fail
  go_loop [8] (fun i => ∃ k : Nat, k ≤ n ∧ i = .int .i64 k ∧ Hid (∀ j (h : j < L.length), j < k → pct L[j] = false)) (fun i => n - (intOf i).toNat)
  case atStart => exact ⟨0, by omega, rfl, fun j _ hj => by omega⟩
  case round =>
    obtain ⟨k, hk, rfl, HN⟩ := hrel
    by_cases hlt : k < n
    · have hltI : (k : Int) < (n : Int) := by omega
      have h0 : (0 : Int) ≤ (k : Int) := by omega
      have hltL : k < L.length := by rw [HLN.out]; exact hlt
      obtain ⟨g, off, rfl, _, hc⟩ := HS.out (by omega)
      have hck := hc k hltL
      have hadd := addk g off k
      clear hc
      obtain ⟨s, hs⟩ : ∃ s : ByteArray, ⟨L[k].toArray⟩ = s := ⟨_, rfl⟩
      obtain ⟨b, hb⟩ : ∃ b, pct L[k] = b := ⟨_, rfl⟩
      have HI := Lib.hid (Is_any s w b (by rw [← hs]; simpa using hb))
      rw [show encStr L[k] = .string ⟨L[k].toArray⟩ from rfl, hs] at hck
      have HB := Lib.hid hb
      clear hb hs
      cases b with
      | false =>
        have HN2 : Hid (∀ j (h : j < L.length), j < k + 1 → pct L[j] = false) := fun j h hj => by
          by_cases e : j = k
          · subst e; exact HB.out
          · exact HN.out j h (by omega)
        go_wp2_with (go_at_call 58; refine HI.out.mono ?_; rintro e w1 ⟨rfl, h1⟩; obtain rfl := h1.symm; simp only [])
        exact ⟨⟨k + 1, by omega, by go_num, HN2.out⟩, by simp [intOf]; omega⟩
      | true =>
        go_wp2_with (go_at_call 58; refine HI.out.mono ?_; rintro e w1 ⟨rfl, h1⟩; obtain rfl := h1.symm; simp only [])
        go_ret
        refine ⟨⟨_, rfl, ?_⟩, rfl⟩
        exact ⟨fun _ => ⟨_, List.getElem_mem hltL, HB.out⟩, fun _ => h0⟩
    · have hltI : ¬ (k : Int) < (n : Int) := by omega
      go_wp2_with fail
      go_ret
      refine ⟨⟨_, rfl, ?_⟩, rfl⟩
      refine ⟨fun h => absurd h (by decide), fun h => ?_⟩
      obtain ⟨x, hx, hp⟩ := h
      obtain ⟨j, hj, rfl⟩ := List.mem_iff_getElem.1 hx
      rw [HN.out j hj (by have := HLN.out; omega)] at hp
      cases hp
set_option maxRecDepth 100000 in
theorem ContainsF_any (v : Value) (L : List Bs) (w : World) (hv : SlS w v L) (hn : L.length ≤ 1000000000) (b : Bool) (hb : L.any pct = b) :
    Calls Tryd.prog 57 #[v, .func (.func 58) #[] #[]] w fun e w' => e = .returned (.bool b) ∧ w' = w := by
  have HI := Lib.hid (IndexF_any v L w hv hn)
  have HB : Hid (L.any pct = true ↔ b = true) := by rw [Hid, ← hb]
  obtain ⟨a, c, rfl⟩ := hv.len
  clear hv hb
  go_enter Tryd.func57, Tryd.ntmps57
  go_wp2_with fail
  refine HI.out.mono ?_
  rintro e w' ⟨⟨z, rfl, hz0⟩, h⟩
  obtain rfl := h.symm
  simp only []
  have hz := Iff.trans (show 0 ≤ z ↔ _ from hz0) HB.out
  clear HB hz0
  cases b
  · have hz1 : ¬ (0 : Int) ≤ z := fun e => by simpa using hz.1 e
    clear hz
    go_wp2_with fail
    go_ret
    exact ⟨rfl, rfl⟩
  · have hz1 : (0 : Int) ≤ z := hz.2 rfl
    clear hz
    go_wp2_with fail
    go_ret
    exact ⟨rfl, rfl⟩
end Go.Proofs.YtjagnihkpgbjeaaDoor
