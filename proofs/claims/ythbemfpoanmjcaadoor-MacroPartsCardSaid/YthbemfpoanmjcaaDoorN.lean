import Derived.Test.YthbemfpoanmjcaaDoorM
namespace Go.Proofs.YthbemfpoanmjcaaDoor
open Go.RowKit
set_option linter.unusedVariables false

def ExpP (w : World) (r : R) (e : Ending) (w' : World) : Prop := ∃ t : ByteArray, e = .returned (.tuple #[.string t, .int .i64 r.1.2]) ∧ t.data.toList = r.1.1 ∧ Below w.heap.size w w'
set_option maxRecDepth 100000 in
set_option maxHeartbeats 8000000 in
theorem Expand_any (lv av : Value) (l au : Prs) (hau : ∀ p ∈ au, p.2.size ≤ 300000) (w : World) (s : ByteArray) (hl : PV w.heap.size w lv l) (ha : PV w.heap.size w av au) (hm : ∃ m, w.cell? ⟨0, 0, none⟩ = some (.int .i64 m)) :
    Calls Tryd.prog 15 #[.string s, lv, av] w (ExpP w (expandF (bsl l) (bsl au) 40 [] s.data.toList 0)) := by
  obtain ⟨lo, lc, hlv⟩ := hl.form
  obtain ⟨ao, ac, hav⟩ := ha.form
  subst hlv
  subst hav
  have HALL := Lib.hid (expand_all w.heap.size w.heap.size (.slice lo l.length lc) (.slice ao au.length ac) l au hau 40)
  have hb : Below w.heap.size w (w.alloc (.cells #[.slice lo l.length lc, .slice ao au.length ac, .int .i64 0, .slice none 0 0] 48)) := (Below.refl _ _).alloc (Nat.le_refl _) _
  have h0 : 0 < w.heap.size := by obtain ⟨m, hm⟩ := hm; exact World.block_lt_of_cell? w _ hm
  have hex : Ex w.heap.size w.heap.size (w.alloc (.cells #[.slice lo l.length lc, .slice ao au.length ac, .int .i64 0, .slice none 0 0] 48)) (.slice lo l.length lc) (.slice ao au.length ac) l au 0 [] :=
    ⟨Nat.le_refl _, ⟨_, heap_alloc_new w _, World.ownsRow_nil _ _ _ _⟩, hl.mono hb (Nat.le_refl _), ha.mono hb (Nat.le_refl _), h0, mx_keep h0 hm hb⟩
  have HC : Hid (Calls Tryd.prog 23 #[.pointer (some ⟨w.heap.size, 0, none⟩), .string s, .int .i64 0] (w.alloc (.cells #[.slice lo l.length lc, .slice ao au.length ac, .int .i64 0, .slice none 0 0] 48)) (ExpP w (expandF (bsl l) (bsl au) 40 [] s.data.toList 0))) := by
    refine Calls.mono (HALL.out _ 0 0 [] s hex (by omega) rfl (by simp)) ?_
    rintro e w' ⟨t, h1, h2, _, h4⟩
    exact ⟨t, h1, h2, hb.trans h4.bl⟩
  clear hau hex hb hl ha hm HALL
  go_enter Tryd.func15, Tryd.ntmps15
  go_wp2_with (go_at_call 23; refine HC.out.mono ?_)
  rintro e w5 ⟨t, rfl, ht, hB⟩
  have HEND : Hid (ExpP w (expandF (bsl l) (bsl au) 40 [] s.data.toList 0) (.returned (.tuple #[.string t, .int .i64 (expandF (bsl l) (bsl au) 40 [] s.data.toList 0).1.2])) w5) := ⟨t, rfl, ht, hB⟩
  clear ht hB
  simp only []
  go_wp2_with fail
  go_ret2
  exact HEND.out
/-! What every law begins with. -/
theorem Below.pv {w w' : World} {pv : Value} {l : Prs} (h : PV w.heap.size w pv l) (hb : Below w.heap.size w w') : PV w'.heap.size w' pv l := h.mono hb hb.size
def PB (b : Nat) (p : ByteArray × ByteArray) : Value := .slice (some ⟨b, 0, none⟩) 1 1
/-- One pair that has just been laid. -/
theorem PV.one (w : World) (p : ByteArray × ByteArray) (hp : p.2.size ≤ 9223372036854775807) : PV (w.alloc (.cells #[.string p.1, .string p.2] 36)).heap.size (w.alloc (.cells #[.string p.1, .string p.2] 36)) (.slice (some ⟨w.heap.size, 0, none⟩) 1 1) [p] := by
  refine ⟨by simp, fun q hq => by simp at hq; rw [hq]; exact hp, .inr ⟨w.heap.size, 0, 1, rfl, by simp, by simp, fun k hk => ?_⟩⟩
  obtain rfl : k = 0 := by simpa using hk
  constructor <;> (simp only [World.cell?, heap_alloc_new w]; rfl)
end Go.Proofs.YthbemfpoanmjcaaDoor
