import Derived.Test.YtpgaeldjiiaoiaaXF
namespace Go.Proofs.Ytpgaeldjiiaoiaa
open Go.RowKit
set_option linter.unusedVariables false

/-- What a pattern's pieces are. -/
def pat (p : ByteArray) : List It := pcs p (p.size + 1) 0 true
def Ints (w : World) (r : Value) (B : Nat) (l : List Nat) : Prop := w.ownsRow B 3 1 r l.length (l.map encI)
set_option maxRecDepth 100000 in
set_option maxHeartbeats 4000000 in
theorem Heads_any (p s : ByteArray) (w : World) (hp : p.size ≤ 100000) (hs : s.size ≤ 100000) :
    Calls Try.prog 16 #[.string p, .string s] w fun e w' => (∃ r B, e = .returned r ∧ Ints w' r B (ends s (pat p) (s.size + 1))) ∧ Below w.heap.size w w' := by
  go_enter Try.func16, Try.ntmps16
  go_wp2_with fail
  have hc0 : (w.alloc (.cells #[.string s] 9)).cell? ⟨w.heap.size, 0, none⟩ = some (.string s) := new_cell _ _ _
  have hB0 : Below w.heap.size w (w.alloc (.cells #[.string s] 9)) := (Below.refl _ _).alloc (Nat.le_refl _) _
  have hz0 : w.heap.size < (w.alloc (.cells #[.string s] 9)).heap.size := by rw [World.size_alloc]; omega
  obtain ⟨b, hb⟩ : ∃ b, w.heap.size = b := ⟨_, rfl⟩
  obtain ⟨w1, hw1⟩ : ∃ w1, w.alloc (.cells #[.string s] 9) = w1 := ⟨_, rfl⟩
  rw [hw1] at hc0 hB0 hz0 ⊢
  have hz1 := hz0
  rw [hb] at hc0 hz1 ⊢
  have HPC : Hid (∀ w' : World, w'.cell? ⟨b, 0, none⟩ = some (.string s) → Below w.heap.size w w' → Calls Try.prog 22 #[.string p] w' fun e w'' => ∃ v ps, e = .returned v ∧ Sl w'' v ps ∧ ps.map sem = pat p ∧ ps.length ≤ 100000 ∧ w''.cell? ⟨b, 0, none⟩ = some (.string s) ∧ Below w.heap.size w w'') := fun w' hc hB =>
    (pieces_core p w' hp (pat p) rfl).mono fun e w'' ⟨v, ps, he, hown, hlt, hsem, hlen, hB2⟩ =>
      ⟨v, ps, he, sl_of_row hown hlt, hsem, hlen, by rw [hB2.cell (World.block_lt_of_cell? w' _ hc)]; exact hc, hB.trans (hB2.mono hB.size)⟩
  have HLN : Hid (∀ (w' : World) v ps, w'.cell? ⟨b, 0, none⟩ = some (.string s) → Below w.heap.size w w' → Sl w' v ps → ps.map sem = pat p → ps.length ≤ 100000 → Calls Try.prog 25 #[v, .int .i64 s.size, .func (.func 26) #[] #[.pointer (some ⟨b, 0, none⟩)]] w' fun e w'' => (∃ r B, e = .returned r ∧ Ints w'' r B (ends s (pat p) (s.size + 1))) ∧ Below w.heap.size w w'') := fun w' v ps hc hB hsl hsem hlen =>
    (lengths_26 (.pointer (some ⟨b, 0, none⟩)) v ps (pat p) hsem s w' hs hlen hsl (fun k hk w'' hB2 => Heads1_any b k s w'' hk hs (by rw [hB2.cell (World.block_lt_of_cell? w' _ hc)]; exact hc))).mono fun e w'' ⟨r, he, hown, hB2⟩ =>
      ⟨⟨r, _, he, hown⟩, hB.trans (hB2.mono hB.size)⟩
  have hc1 : w1.drew.cell? ⟨b, 0, none⟩ = some (.string s) := hc0
  have hB1 : Below w.heap.size w w1.drew := below_drewN hB0 1
  clear hb hw1 hz0 hz1
  go_region_with (first
    | (go_at_call 22; refine (HPC.out _ (by assumption) (by assumption)).mono ?_; rintro e w2 ⟨v, ps, rfl, hsl, hsem, hlen, hc2, hB2⟩)
    | (go_at_call 25; refine (HLN.out _ _ ps (by assumption) (by assumption) hsl hsem hlen).mono ?_; rintro e w3 ⟨⟨r, B, rfl, hr⟩, hB3⟩))
  all_goals
    go_wp2_with fail
    go_ret
    exact ⟨⟨r, B, rfl, hr⟩, hB3⟩
end Go.Proofs.Ytpgaeldjiiaoiaa
