import Derived.Test.YthbemfpoanmjcaaDoorD
import Derived.Test.YthbemfpoanmjcaaDoorE
namespace Go.Proofs.YthbemfpoanmjcaaDoor
open Go.RowKit
set_option linter.unusedVariables false

/-! What an expander's calls leave as it was. -/
structure Kp (B eb : Nat) (w w' : World) : Prop where
  bl : Below B w w'
  ok : Lib.OthersKept 9 (some eb) w w'
theorem Kp.refl (B eb : Nat) (w : World) : Kp B eb w w := ⟨Below.refl _ _, Lib.OthersKept.refl _ _ _⟩
theorem Kp.trans {B eb : Nat} {a b c : World} (h : Kp B eb a b) (k : Kp B eb b c) : Kp B eb a c := ⟨h.bl.trans k.bl, h.ok.trans k.ok⟩
theorem Kp.step {B eb : Nat} {a b c : World} (h : Kp B eb a b) (k : Below a.heap.size b c) (hB : B ≤ a.heap.size) : Kp B eb a c :=
  ⟨h.bl.trans (k.mono hB), fun i o hi hne ho => by
    have h1 := h.ok i o hi hne ho
    rw [k.block i (Array.getElem?_eq_some_iff.1 hi).1]; exact h1⟩
theorem Kp.of_below {B eb : Nat} {a b : World} (k : Below a.heap.size a b) (hB : B ≤ a.heap.size) : Kp B eb a b := (Kp.refl B eb a).step k hB
/-- An expander: its macros, how many references it has met, and the names that are open. -/
structure Ex (B eb : Nat) (w : World) (lv av : Value) (l au : Prs) (cnt : Nat) (op : List ByteArray) : Prop where
  le : B ≤ eb
  vo : ∃ vo, w.heap[eb]? = some (.cells #[lv, av, .int .i64 cnt, vo] 48 (0, 0)) ∧ w.ownsRow B 9 1 vo op.length (op.map .string)
  pl : PV B w lv l
  pa : PV B w av au
  h0 : 0 < B
  mx : ∃ m, w.cell? ⟨0, 0, none⟩ = some (.int .i64 m)
theorem mx_keep {B : Nat} {w w' : World} (h0 : 0 < B) (h : ∃ m, w.cell? ⟨0, 0, none⟩ = some (.int .i64 m)) (hb : Below B w w') : ∃ m, w'.cell? ⟨0, 0, none⟩ = some (.int .i64 m) := by
  obtain ⟨m, hm⟩ := h
  exact ⟨m, (hb.cell (p := ⟨0, 0, none⟩) h0).trans hm⟩
theorem Ex.lt {B eb : Nat} {w : World} {lv av : Value} {l au : Prs} {cnt : Nat} {op : List ByteArray} (h : Ex B eb w lv av l au cnt op) : eb < w.heap.size := by
  obtain ⟨vo, h1, _⟩ := h.vo
  exact (Array.getElem?_eq_some_iff.1 h1).1
theorem own_keep {w w' : World} {B e sz n : Nat} {v : Value} {xs : List Value} (h : w.ownsRow B e sz v n xs) (hk : ∀ (g : Nat) (c : Array Value), w.heap[g]? = some (Obj.cells c e) → w'.heap[g]? = some (Obj.cells c e)) : w'.ownsRow B e sz v n xs := by
  refine ⟨h.1, ?_⟩
  rcases h.2 with h1 | ⟨b, cap, cur, rfl, h2, h3, h4⟩
  · exact .inl h1
  · exact .inr ⟨b, cap, cur, rfl, h2, hk _ _ h3, h4⟩
/-- What a builder's writes leave. -/
theorem Ex.write {B eb S b : Nat} {w w' : World} {lv av : Value} {l au : Prs} {cnt : Nat} {op : List ByteArray} (h : Ex B eb w lv av l au cnt op) (hb : Below S w w') (hk : Lib.OthersKept 5 (some b) w w') (hS : eb < S) (hB : B ≤ S)
    (hbb : ∃ c fz, w.heap[b]? = some (.cells c 60 fz)) : Ex B eb w' lv av l au cnt op := by
  obtain ⟨vo, h1, h2⟩ := h.vo
  refine ⟨h.le, ⟨vo, (hb.block eb hS).trans h1, own_keep h2 (fun g c hg => hk g _ hg (fun e => ?_) (fun c' fz' e => ?_))⟩, h.pl.mono (hb.mono hB) (Nat.le_refl _), h.pa.mono (hb.mono hB) (Nat.le_refl _), h.h0, mx_keep h.h0 h.mx (hb.mono hB)⟩
  · injection e with e
    subst e
    obtain ⟨c', fz', h3⟩ := hbb
    rw [hg] at h3
    injection h3 with h3
    injection h3 with _ h4 _
    exact absurd h4 (by decide)
  · injection e with _ h4 _
    exact absurd h4 (by decide)
/-- What lays new blocks alone leaves it. -/
theorem Ex.below {B eb : Nat} {w w' : World} {lv av : Value} {l au : Prs} {cnt : Nat} {op : List ByteArray} (h : Ex B eb w lv av l au cnt op) (hb : Below w.heap.size w w') : Ex B eb w' lv av l au cnt op := by
  have hB : B ≤ w.heap.size := Nat.le_trans h.le (Nat.le_of_lt h.lt)
  obtain ⟨vo, h1, h2⟩ := h.vo
  exact ⟨h.le, ⟨vo, (hb.block eb h.lt).trans h1, own_keep h2 (fun g c hg => (hb.block g (Array.getElem?_eq_some_iff.1 hg).1).trans hg)⟩, h.pl.mono (hb.mono hB) (Nat.le_refl _), h.pa.mono (hb.mono hB) (Nat.le_refl _), h.h0, mx_keep h.h0 h.mx (hb.mono hB)⟩
/-- A builder of the call's own that holds l, the call begun at w0. -/
structure Bd (S : Nat) (w : World) (b : Nat) (l : Bs) : Prop where
  bd : Lib.IsBuilder 60 5 S b (Lib.byteCells l) w
theorem Bd.blk {S : Nat} {w : World} {b : Nat} {l : Bs} (h : Bd S w b l) : ∃ c fz, w.heap[b]? = some (.cells c 60 fz) := by
  rcases h.bd with ⟨_, v, h1, _⟩ | ⟨_, v, h1, _⟩ <;> exact ⟨_, _, h1⟩
theorem Bd.kp {S B eb : Nat} {w w' : World} {b : Nat} {l : Bs} (h : Bd S w b l) (hk : Lib.OthersKept 9 (some eb) w w') (he : eb < S) : Bd S w' b l := by
  have key : ∀ p, Lib.BuilderAt 60 5 S b p (Lib.byteCells l) w → Lib.BuilderAt 60 5 S b p (Lib.byteCells l) w' := by
    rintro p ⟨hB, v, hbk, hown, hne⟩
    refine ⟨hB, v, hk b _ hbk (fun e => by injection e with e; omega) (fun c fz e => by injection e with _ h4 _; exact absurd h4 (by decide)), ?_, hne⟩
    refine ⟨hown.1, ?_⟩
    rcases hown.2 with h1 | ⟨g, cap, cur, rfl, h2, h3, h4⟩
    · exact .inl h1
    · exact .inr ⟨g, cap, cur, rfl, h2, hk g _ h3 (fun e => by injection e with e; omega) (fun c fz e => by injection e with _ h4 _; exact absurd h4 (by decide)), h4⟩
  exact ⟨h.bd.elim (fun x => .inl (key _ x)) (fun x => .inr (key _ x))⟩
theorem Bd.new (w0 : World) : Bd w0.heap.size (w0.alloc (.cells #[.pointer none, .slice none 0 0] 60)) w0.heap.size [] := ⟨bd_new w0 _ (Nat.le_refl _)⟩
theorem Bd.below {S : Nat} {w w' : World} {b : Nat} {l : Bs} (h : Bd S w b l) (hb : Below w.heap.size w w') : Bd S w' b l := ⟨bd_below h.bd hb⟩
theorem cells_add (a : Bs) (s : ByteArray) : Lib.byteCells a ++ Lib.strCells s = Lib.byteCells (a ++ s.data.toList) := by
  rw [Lib.strCells_eq]; simp [Lib.byteCells]
theorem cells_one (a : Bs) (c : UInt8) : Lib.byteCells a ++ [.int .u8 c.toNat] = Lib.byteCells (a ++ [c]) := by simp [Lib.byteCells]
set_option maxHeartbeats 2000000 in
set_option maxRecDepth 100000 in
theorem bd_writeAny (B b : Nat) (bs : List Value) (s : ByteArray) (w : World) (h : Lib.IsBuilder 60 5 B b bs w) (hlen : bs.length + s.size ≤ 140737488355328) (hBw : B ≤ w.heap.size) :
    Calls Tryd.prog 29 #[.pointer (some ⟨b, 0, none⟩), .string s] w fun e w' => e = .returned (.tuple #[.int .i64 s.size, .nilIface]) ∧ Lib.IsBuilder 60 5 B b (bs ++ Lib.strCells s) w' ∧ Below B w w' ∧ Lib.OthersKept 5 (some b) w w' := by
  obtain ⟨i0, hi, hz0, hz1, hz2⟩ := info_parts bd_byte
  go_enter Tryd.func29, Tryd.ntmps29
  go_wp2_with (go_at_call 39; refine (bd_check B b bs _ h).mono ?_)
  rintro e w1 ⟨rfl, ⟨hB, v, hbk, hown, hne⟩, hb1, hk1⟩
  have c0 : w1.cell? ⟨b, 0, none⟩ = some (.pointer (some ⟨b, 0, none⟩)) := by rw [Lib.cell_of_heap hbk]; rfl
  have c1 : w1.cell? ⟨b, 1, none⟩ = some v := by rw [Lib.cell_of_heap hbk]; rfl
  go_wp2_with (at_builtin; refine Lib.wpList_append_own_string _ rfl _ _ 58 9 rfl B 5 i0 Tryd.underlying58 Tryd.underlying9 hi hz0 hz1 hz2 _ _ _ rfl hown s rfl (by unfold maxLen; omega) hlen (by have := hb1.size; omega) ?_)
  intro v' w2 hown' hgrow _
  have hb2 : w2.heap[b]? = some (.cells #[.pointer (some ⟨b, 0, none⟩), v] 60 (0, 0)) := by
    rw [hgrow.block b (Array.getElem?_eq_some_iff.1 hbk).1 (fun e => hne e.symm)]
    exact hbk
  have d0 : w2.cell? ⟨b, 0, none⟩ = some (.pointer (some ⟨b, 0, none⟩)) := by rw [Lib.cell_of_heap hb2]; rfl
  have d1 : w2.cell? ⟨b, 1, none⟩ = some v := by rw [Lib.cell_of_heap hb2]; rfl
  have f1 : w2.frozen? ⟨b, 1, none⟩ = false := Lib.frozen_of_heap hb2 1
  obtain ⟨g, cap, rfl⟩ : ∃ g cap, v' = .slice g (bs.length + s.size) cap := by
    rcases hown'.2 with ⟨h1, h0⟩ | ⟨g, cap, cur, hv, _⟩
    · exact ⟨none, 0, by rw [h0]; exact h1⟩
    · exact ⟨_, cap, hv⟩
  go_wp2
  go_ret2
  refine ⟨rfl, .inr ?_, ?_, (hk1.grown hgrow (Lib.ownsRowF_kind (World.ownsRowF_of hown))).setCell ⟨b, 1, none⟩ rfl _⟩
  · exact Lib.BuilderAt.put (T := 60) (e := 5) hB hb2 (bs' := bs ++ Lib.strCells s) (by rw [List.length_append, Lib.strCells_length]; exact hown') (by decide)
  · exact (hb1.grown hgrow (by have := hb1.size; omega) (fun k hk => (hown.lt k hk).1)).setCell (p := ⟨b, 1, none⟩) hB _
theorem Bd.write {S : Nat} {w : World} {b : Nat} {l : Bs} (h : Bd S w b l) (hS : S ≤ w.heap.size) (s : ByteArray) (hl : l.length + s.size ≤ 10000000) :
    Calls Tryd.prog 29 #[.pointer (some ⟨b, 0, none⟩), .string s] w fun e w' => e = .returned (.tuple #[.int .i64 s.size, .nilIface]) ∧ Bd S w' b (l ++ s.data.toList) ∧ Below S w w' ∧ Lib.OthersKept 5 (some b) w w' := by
  refine (bd_writeAny S b _ s w h.bd (by rw [Lib.byteCells_length]; omega) hS).mono ?_
  rintro e w' ⟨rfl, h1, h2, h3⟩
  rw [cells_add] at h1
  exact ⟨rfl, ⟨h1⟩, h2, h3⟩
theorem Bd.byte {S : Nat} {w : World} {b : Nat} {l : Bs} (h : Bd S w b l) (hS : S ≤ w.heap.size) (c : UInt8) (hl : l.length ≤ 10000000) :
    Calls Tryd.prog 30 #[.pointer (some ⟨b, 0, none⟩), .int .u8 c.toNat] w fun e w' => e = .returned .nilIface ∧ Bd S w' b (l ++ [c]) ∧ Below S w w' ∧ Lib.OthersKept 5 (some b) w w' := by
  refine (bd_writeByte S b _ c.toNat w h.bd (by rw [Lib.byteCells_length]; omega) hS).mono ?_
  rintro e w' ⟨rfl, h1, h2, h3⟩
  rw [cells_one] at h1
  exact ⟨rfl, ⟨h1⟩, h2, h3⟩
theorem Bd.str {S : Nat} {w : World} {b : Nat} {l : Bs} (h : Bd S w b l) (hS : S ≤ w.heap.size) : Calls Tryd.prog 34 #[.pointer (some ⟨b, 0, none⟩)] w fun e w' => e = .returned (.string ⟨l.toArray⟩) ∧ Below S w w' :=
  Tryd.Builder_String_any S b l w h.bd hS
theorem Bd.len {S : Nat} {w : World} {b : Nat} {l : Bs} (h : Bd S w b l) : Calls Tryd.prog 31 #[.pointer (some ⟨b, 0, none⟩)] w fun e w' => e = .returned (.int .i64 l.length) ∧ w' = w := by
  have := Tryd.Builder_Len S b _ w h.bd
  rw [Lib.byteCells_length] at this
  exact this
end Go.Proofs.YthbemfpoanmjcaaDoor
