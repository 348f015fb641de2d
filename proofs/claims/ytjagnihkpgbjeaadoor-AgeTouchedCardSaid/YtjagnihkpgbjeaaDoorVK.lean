import Derived.Test.YtjagnihkpgbjeaaDoorVJ
import Derived.Laws.AppendOwn
import Derived.Laws.AppendOwnNone
namespace Go.Proofs.YtjagnihkpgbjeaaDoor
open Go.RowKit Go.Maps Go.ChangeMaps
set_option linter.unusedVariables false
/-- What a call of Write comes to. -/
def writeF (T : Tr) (c : Cn) (p : ByteArray) (bl : Bz) (more : Bool) : Int × Tr × Cn :=
  if findE T p ≠ 0 then (findE T p, T, c)
  else match T (findL p) with
    | none => if c.nodes ≤ c.count ∨ c.bytes - c.size < bl.length then (13, T, c)
      else (0, setF T (findL p) (some ⟨true, bl, c.clock + 1⟩), { c with count := c.count + 1, size := c.size + bl.length, clock := c.clock + 1 })
    | some n => if n.file = false then (10, T, c)
      else if c.bytes - (c.size - n.data.length + (if more then n.data else []).length) < bl.length then (13, T, c)
      else (0, setF T (findL p) (some ⟨true, (if more then n.data else []) ++ bl, c.clock + 1⟩), { c with size := c.size - n.data.length + ((if more then n.data else []) ++ bl).length, clock := c.clock + 1 })
/-- Bytes to be read behind b. -/
def Bin (w : World) (b : Value) (bl : Bz) : Prop := ∃ a cp, b = .slice a bl.length cp ∧ ∀ i (h : i < bl.length), ∃ g o, a = some ⟨g, o, none⟩ ∧ g < w.heap.size ∧ w.cell? ⟨g, o + i, none⟩ = some (.int .u8 bl[i].toNat)
theorem Bin.below {w w' : World} {b : Value} {bl : Bz} (h : Bin w b bl) (hb : Below w.heap.size w w') : Bin w' b bl := by
  obtain ⟨a, cp, h1, h2⟩ := h
  refine ⟨a, cp, h1, fun i hi => ?_⟩
  obtain ⟨g, o, e1, e2, e3⟩ := h2 i hi
  exact ⟨g, o, e1, Nat.lt_of_lt_of_le e2 hb.size, (hb.cell (p := ⟨g, _, none⟩) e2).trans e3⟩
set_option maxRecDepth 100000 in
set_option maxHeartbeats 4000000 in
theorem Write_no (w : World) {B N f : Nat} {c : Cn} {T : Tr} {F : Nat → Prop} (p : ByteArray) (b : Value) (bl : Bz) (more : Bool) (hF : Fs w B N f c T F) (hp : PathOk p) (er : Int)
    (hm : (findE T p ≠ 0 ∧ er = findE T p) ∨ (findE T p = 0 ∧ (∃ n, T (findL p) = some n ∧ n.file = false) ∧ er = 10)) (hb : ∃ a n cp, b = .slice a n cp) :
    Calls Tryd.prog 15 #[.pointer (some ⟨f, 0, none⟩), .string p, b, .bool more] w (MutP w B N f F er T c) := by
  obtain ⟨A, M, V, hT, hft, r0, h0, hr0⟩ := hF
  have HF : Hid (Fs w B N f c T F) := ⟨A, M, V, hT, hft, r0, h0, hr0⟩
  have HHE := Lib.hid (fun w => here_any f w)
  obtain ⟨Q, hQ⟩ : ∃ Q, MutP w B N f F er T c = Q := ⟨_, rfl⟩
  rw [hQ]
  have HQ := Lib.hid hQ
  obtain ⟨ba, bn, bc, rfl⟩ := hb
  rcases hm with ⟨hE, rfl⟩ | ⟨hE, ⟨n, hn, hnf⟩, rfl⟩
  · have HB := Lib.hid (find_bad (w := w) hT h0 hr0 hp hE)
    obtain ⟨er, her⟩ : ∃ er, findE T p = er := ⟨_, rfl⟩
    rw [her] at HB hE HQ
    have HQ2 : Hid (MutP w B N f F er T c = Q) := HQ.out
    have hne : (er != 0) = true := by simpa using hE
    clear hT hft h0 hr0 hQ hp hE her HQ
    go_enter Tryd.func15, Tryd.ntmps15
    go_wp2_with (first
      | (go_at_call 38; refine HB.out.mono ?_; rintro e w1 ⟨rfl, h1⟩; have H1 := Lib.hid h1; clear h1; simp only [spot0, spotV])
      | (go_at_call 39; refine (HHE.out _).mono ?_; rintro e w2 ⟨rfl, h2⟩; obtain rfl := h2.symm; simp only []))
    rw [← HQ2.out]
    exact MutP.same HF.out (H1.out.alloc H1.out.size _)
  · have HT := Lib.hid hT
    rcases List.eq_nil_or_concat (findL p) with hL | ⟨d, k, hL⟩
    · have HB := Lib.hid (find_root (w := w) hT h0 hr0 hp hE hL)
      have HN : Hid (T [] = some n) := by rw [Hid, ← hL]; exact hn
      clear hT hft h0 hr0 hQ hp hE hL hn
      go_enter Tryd.func15, Tryd.ntmps15
      go_wp2_with (first
        | (go_at_call 38; refine HB.out.mono ?_; rintro e w1 ⟨rfl, h1⟩; have H1 := Lib.hid h1; have h2 := (HT.out.only (X := fun _ => False) (Only.of_below h1) (fun _ h => h.elim)).rootBlk HN.out; have q0 : w1.cell? ⟨f, 0, none⟩ = some (.bool n.file) := cell_of h2 0; rw [hnf] at q0; have hlf := blk_lt h2; clear h1 h2; simp only [spot0, spotV])
        | (go_at_call 39; refine (HHE.out _).mono ?_; rintro e w2 ⟨rfl, h2⟩; obtain rfl := h2.symm; simp only []))
      have q2 : (w1.alloc (.cells #[.pointer none, .string ⟨#[]⟩, .pointer (some ⟨f, 0, none⟩), .slice none 0 0] 74)).cell? ⟨w1.heap.size, 2, none⟩ = some (.pointer (some ⟨f, 0, none⟩)) := cell_of (cs := [.pointer none, .string ⟨#[]⟩, .pointer (some ⟨f, 0, none⟩), .slice none 0 0]) (heap_alloc_new w1 _) 2
      go_quiet (fail)
      obtain ⟨W, hW⟩ : ∃ W, (w1.alloc (.cells #[.pointer none, .string ⟨#[]⟩, .pointer (some ⟨f, 0, none⟩), .slice none 0 0] 74)).drewN nq = W := ⟨_, rfl⟩
      rw [hW]
      have hbW : Below w.heap.size w W := by rw [← hW]; exact below_drewN (H1.out.alloc H1.out.size _) _
      have q0' : W.cell? ⟨f, 0, none⟩ = some (.bool false) := by
        rw [← hW, World.drewN]
        show (w1.alloc _).cell? _ = _
        rw [World.cell?_alloc_old _ _ _ (Nat.ne_of_lt hlf)]; exact q0
      clear hW q2
      go_wp2_with fail
      rw [← HQ.out]
      exact MutP.same HF.out hbW
    · have hL : findL p = d ++ [k] := by rw [hL]; simp
      have HB := Lib.hid (find_good (w := w) hT h0 hr0 hp hE hL)
      obtain ⟨lg, hlg⟩ : ∃ lg, (d ++ [k]).length = lg := ⟨_, rfl⟩
      rw [hlg] at HB
      have HN : Hid (T (d ++ [k]) = some n) := by rw [Hid, ← hL]; exact hn
      have hk : kidsOf T A d k = some (A (d ++ [k])) := by unfold kidsOf; rw [HN.out]; rfl
      rw [hk] at HB
      obtain ⟨na, hna⟩ : ∃ na, A (d ++ [k]) = na := ⟨_, rfl⟩
      rw [hna] at HB
      have HNA := Lib.hid hna
      clear hT hft h0 hr0 hQ hp hE hL hn hk hna
      go_enter Tryd.func15, Tryd.ntmps15
      go_wp2_with (first
        | (go_at_call 38; refine HB.out.mono ?_; rintro e w1 ⟨dn, g, cc, hdn, hdf, rfl, hrow, h1⟩; have H1 := Lib.hid h1; have h2 := (HT.out.only (X := fun _ => False) (Only.of_below h1) (fun _ h => h.elim)).blk _ n HN.out; rw [HNA.out] at h2; have q0 : w1.cell? ⟨na, 0, none⟩ = some (.bool n.file) := cell_of h2 0; rw [hnf] at q0; have hlf := blk_lt h2; clear h1 h2 hrow hdn hdf; simp only [spotV, ptrV])
        | (go_at_call 39; refine (HHE.out _).mono ?_; rintro e w2 ⟨rfl, h2⟩; obtain rfl := h2.symm; simp only []))
      have q2 : (w1.alloc (.cells #[.pointer (some ⟨A d, 0, none⟩), .string ⟨k.toArray⟩, .pointer (some ⟨na, 0, none⟩), .slice (some ⟨g, 0, none⟩) lg cc] 74)).cell? ⟨w1.heap.size, 2, none⟩ = some (.pointer (some ⟨na, 0, none⟩)) := cell_of (cs := [.pointer (some ⟨A d, 0, none⟩), .string ⟨k.toArray⟩, .pointer (some ⟨na, 0, none⟩), .slice (some ⟨g, 0, none⟩) lg cc]) (heap_alloc_new w1 _) 2
      go_quiet (fail)
      obtain ⟨W, hW⟩ : ∃ W, (w1.alloc (.cells #[.pointer (some ⟨A d, 0, none⟩), .string ⟨k.toArray⟩, .pointer (some ⟨na, 0, none⟩), .slice (some ⟨g, 0, none⟩) lg cc] 74)).drewN nq = W := ⟨_, rfl⟩
      rw [hW]
      have hbW : Below w.heap.size w W := by rw [← hW]; exact below_drewN (H1.out.alloc H1.out.size _) _
      have q0' : W.cell? ⟨na, 0, none⟩ = some (.bool false) := by
        rw [← hW, World.drewN]
        show (w1.alloc _).cell? _ = _
        rw [World.cell?_alloc_old _ _ _ (Nat.ne_of_lt hlf)]; exact q0
      clear hW q2
      go_wp2_with fail
      rw [← HQ.out]
      exact MutP.same HF.out hbW
end Go.Proofs.YtjagnihkpgbjeaaDoor
