import Derived.Test.YtkdacdbmlgffgaaT
namespace Go.Proofs.Ytkdacdbmlgffgaa
open Go.RowKit
set_option linter.unusedVariables false

/-- No name among the first k. -/
def NoK (L : List Pr) (x : Bs) (k : Nat) : Prop := ∀ j (h : j < L.length), j < k → L[j].key ≠ x
theorem get_hit {L : List Pr} (hr : Ris L) {x : Bs} {k : Nat} (h : k < L.length) (hx : L[k].key = x) : getL L x = L[k].v ∧ has L x = true := by
  have hp := pos_of_eq hr h hx
  have hh : has L x = true := by rw [← hx]; exact has_of_mem hr h
  refine ⟨?_, hh⟩
  unfold getL
  rw [if_pos hh, hp, List.getElem?_eq_getElem h]; rfl
theorem get_miss {L : List Pr} {x : Bs} (h : NoK L x L.length) : getL L x = ⟨#[]⟩ ∧ has L x = false := by
  have hh : has L x = false := by
    cases e : has L x with
    | false => rfl
    | true =>
      obtain ⟨h1, h2⟩ := has_iff.1 e
      exact absurd h2 (h _ h1 h1)
  refine ⟨?_, hh⟩
  unfold getL
  rw [hh]; rfl
set_option maxRecDepth 100000 in
set_option maxHeartbeats 4000000 in
theorem RefGet_any (g : Nat) (v : Value) (L : List Pr) (x : ByteArray) (B : Nat) (w : World) (hL : L.length ≤ 50000) (hr : Ris L) (hV : VAt w 29 B g v L) :
    Calls Try.prog 13 #[.pointer (some ⟨g, 0, none⟩), .string x] w fun e w' => e = .returned (.tuple #[.string (getL L x.data.toList), .bool (has L x.data.toList)]) ∧ w' = w := by
  have HIT := Lib.hid (fun k h hx => get_hit hr (x := x.data.toList) (k := k) h hx)
  have MISS := Lib.hid (fun h => get_miss (L := L) (x := x.data.toList) h)
  obtain ⟨G, hG⟩ : ∃ G, getL L x.data.toList = G := ⟨_, rfl⟩
  obtain ⟨H, hH⟩ : ∃ H, has L x.data.toList = H := ⟨_, rfl⟩
  rw [hG, hH] at HIT MISS
  rw [hG, hH]
  have hlI : (L.length : Int) ≤ 50000 := by omega
  have hc := hV.cell
  obtain ⟨s0, c0, hf0⟩ : ∃ s c, v = .slice s L.length c := by
    rcases hV.row.form with ⟨rfl, rfl⟩ | ⟨b, cap, rfl, _⟩ <;> exact ⟨_, _, rfl⟩
  subst hf0
  have HC : Hid (∀ i (h : i < L.length), ∃ b, s0 = some ⟨b, 0, none⟩ ∧ b < w.heap.size ∧ w.cell? ⟨b, i * 2, none⟩ = some (.string L[i].n) ∧ w.cell? ⟨b, i * 2 + 1, none⟩ = some (.string L[i].v)) := by
    intro i hi
    rcases hV.row.form with ⟨_, h⟩ | ⟨b, cap, h, h1, h2, _, _, hcells, _⟩
    · rw [h] at hi; simp at hi
    · injection h with h3 _ _
      exact ⟨b, h3, h2, hcells i hi⟩
  clear hV hr hG hH
  go_enter Try.func13, Try.ntmps13
  go_wp2_with fail
  go_loop [6] (fun i => ∃ k : Nat, k ≤ L.length ∧ i = .int .i64 k ∧ Hid (NoK L x.data.toList k)) (fun i => L.length - (intOf i).toNat)
  case atStart => exact ⟨0, by omega, rfl, fun j h hj => by omega⟩
  case round =>
    obtain ⟨k, hk, rfl, HN⟩ := hrel
    by_cases hlt : k < L.length
    · have hltI : (k : Int) < (L.length : Int) := by omega
      have hk0 : (0 : Int) ≤ (k : Int) := by omega
      obtain ⟨b, rfl, hbl, p1, p2⟩ := HC.out k hlt
      have ad := add2 b k
      by_cases he : L[k].key = x.data.toList
      · obtain ⟨h1, h2⟩ := HIT.out k hlt he
        have hne : (L[k].n.toList == x.toList) = true := by
          rw [Lib.toList_data, Lib.toList_data]; simpa [Pr.key] using he
        rw [← h1] at p2
        have H2 := Lib.hid h2
        obtain ⟨s1, hs1⟩ : ∃ s, L[k].n = s := ⟨_, rfl⟩
        rw [hs1] at p1 hne
        clear hs1 he h1 h2
        go_wp2_with fail
        go_ret2
        exact ⟨by rw [H2.out]; rfl, rfl⟩
      · have hne : (L[k].n.toList == x.toList) = false := by
          rw [Lib.toList_data, Lib.toList_data]; simpa [Pr.key] using he
        have HN1 : Hid (NoK L x.data.toList (k + 1)) := fun j h hj => by
          by_cases e : j = k
          · subst e; exact he
          · exact HN.out j h (by omega)
        obtain ⟨s1, hs1⟩ : ∃ s, L[k].n = s := ⟨_, rfl⟩
        rw [hs1] at p1 hne
        clear hs1 he p2
        go_wp2_with fail
        exact ⟨⟨k + 1, by omega, by go_num, HN1.out⟩, by simp [intOf]; omega⟩
    · have hge : ¬ (k : Int) < (L.length : Int) := by omega
      obtain ⟨h1, h2⟩ := MISS.out (fun j h hj => HN.out j h (by omega))
      have H1 := Lib.hid h1
      have H2 := Lib.hid h2
      clear h1 h2
      go_wp2_with fail
      go_ret2
      exact ⟨by rw [H1.out, H2.out]; rfl, rfl⟩
theorem at_snoc {l : Bs} {k : Nat} {c : UInt8} : (∀ j, j < k → l[j]? ≠ some c) → l[k]? = some c → Lib.indexByte l c = k := by
  induction l generalizing k with
  | nil => intro _ h; simp at h
  | cons a t ih =>
    intro h1 h2
    rw [Lib.indexByte]
    cases k with
    | zero => simp at h2; subst h2; simp
    | succ k =>
      have ha : (a == c) = false := by
        have := h1 0 (by omega)
        simpa using this
      have := ih (k := k) (fun j hj => by have := h1 (j + 1) (by omega); simpa using this) (by simpa using h2)
      rw [ha, this]
      have hk : ((k : Int) == -1) = false := by rw [beq_eq_false_iff_ne]; omega
      simp [hk]
theorem at_none {l : Bs} {c : UInt8} (h : ∀ j : Nat, j < l.length → l[j]? ≠ some c) : Lib.indexByte l c = -1 := by
  induction l with
  | nil => rfl
  | cons a t ih =>
    rw [Lib.indexByte]
    have ha : (a == c) = false := by
      have := h 0 (by simp)
      simpa using this
    have := ih (fun j hj => by have := h (j + 1) (by simpa using hj); simpa using this)
    rw [ha, this]; rfl
set_option maxRecDepth 100000 in
set_option maxHeartbeats 4000000 in
theorem RefAt_any (s : ByteArray) (w : World) (hs : s.size ≤ 9223372036854775807) : Calls Try.prog 25 #[.string s, .int .u8 0] w fun e w' => e = .returned (.int .i64 (Lib.indexByte s.data.toList 0)) ∧ w' = w := by
  have HL := Lib.hid (dlen s)
  obtain ⟨R, hR⟩ : ∃ R, Lib.indexByte s.data.toList 0 = R := ⟨_, rfl⟩
  rw [hR]
  have HR := Lib.hid hR
  have hsI : (s.size : Int) ≤ 9223372036854775807 := by omega
  clear hR
  go_enter Try.func25, Try.ntmps25
  go_wp2_with fail
  go_loop [5] (fun i => ∃ k : Nat, k ≤ s.size ∧ i = .int .i64 k ∧ Hid (∀ j, j < k → s.data.toList[j]? ≠ some 0)) (fun i => s.size - (intOf i).toNat)
  case atStart => exact ⟨0, by omega, rfl, fun j hj => by omega⟩
  case round =>
    obtain ⟨k, hk, rfl, HN⟩ := hrel
    by_cases hlt : k < s.size
    · have hltI : (k : Int) < (s.size : Int) := by omega
      have hk0 : (0 : Int) ≤ (k : Int) := by omega
      have hgb := gb_eq s k hlt
      have HAT := Lib.hid (gb_at hlt)
      obtain ⟨c, hc⟩ : ∃ c, gb s k = c := ⟨_, rfl⟩
      rw [hc] at hgb HAT
      clear hc
      by_cases h0 : c = 0
      · have hb : ((c.toNat : Int) == 0) = true := by rw [h0]; rfl
        have HE : Hid ((k : Int) = R) := by rw [Hid, ← HR.out, at_snoc HN.out (by rw [HAT.out, h0])]
        clear h0
        go_wp2_with fail
        go_ret
        exact ⟨by rw [← HE.out]; rfl, rfl⟩
      · have hb : ((c.toNat : Int) == 0) = false := by
          rw [beq_eq_false_iff_ne]
          intro e
          exact h0 (by apply UInt8.toNat.inj; simp; omega)
        have HN1 : Hid (∀ j, j < k + 1 → s.data.toList[j]? ≠ some 0) := fun j hj => by
          by_cases e : j = k
          · subst e; rw [HAT.out]; intro e2; exact h0 (Option.some.inj e2)
          · exact HN.out j (by omega)
        clear h0
        go_wp2_with fail
        exact ⟨⟨k + 1, by omega, by go_num, HN1.out⟩, by simp [intOf]; omega⟩
    · have hge : ¬ (k : Int) < (s.size : Int) := by omega
      have HE : Hid (-1 = R) := by rw [Hid, ← HR.out, at_none (fun j hj => HN.out j (by rw [HL.out] at hj; omega))]
      go_wp2_with fail
      go_ret
      exact ⟨by rw [← HE.out]; rfl, rfl⟩
end Go.Proofs.Ytkdacdbmlgffgaa
