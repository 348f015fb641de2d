import Derived.Test.YtjagnihkpgbjeaaDoorHI
import Derived.Test.YtjagnihkpgbjeaaDoorFH
namespace Go.Proofs.YtjagnihkpgbjeaaDoor
open Go.RowKit Go.Maps Go.ChangeMaps
set_option linter.unusedVariables false
/-! A makefile that a law puts together: rules with targets, needs and recipes, each list in a block of its own. -/
/-- The texts L, in a block of their own. -/
def SB (w : World) (x : Value) (L : List Bs) : Prop := (x = .slice none 0 0 ∧ L = []) ∨ ∃ g, x = .slice (some ⟨g, 0, none⟩) L.length L.length ∧ w.heap[g]? = some (.cells (L.map encStr).toArray 9 (0, 0)) ∧ L.length ≤ 1000
theorem SB.sl {w : World} {x : Value} {L : List Bs} (h : SB w x L) : SlS w x L := by
  rcases h with h | ⟨g, rfl, h2, h3⟩
  · exact .inl h
  · exact sl_blk h2 h3
theorem SB.len {w : World} {x : Value} {L : List Bs} (h : SB w x L) : L.length ≤ 1000 := by
  rcases h with ⟨_, rfl⟩ | ⟨g, _, _, h3⟩
  · simp
  · exact h3
theorem SB.nil (w : World) : SB w (.slice none 0 0) [] := .inl ⟨rfl, rfl⟩
theorem SB.keep {w w' : World} {x : Value} {L : List Bs} (h : SB w x L) (hk : ∀ (g : Nat) (arr : Array Value), w.heap[g]? = some (.cells arr 9 (0, 0)) → w'.heap[g]? = some (.cells arr 9 (0, 0))) : SB w' x L := by
  rcases h with h | ⟨g, h1, h2, h3⟩
  · exact .inl h
  · exact .inr ⟨g, h1, hk g _ h2, h3⟩
theorem SB.below {w w' : World} {x : Value} {L : List Bs} (h : SB w x L) (hb : Below w.heap.size w w') : SB w' x L :=
  h.keep (fun g arr hg => (hb.block g (Array.getElem?_eq_some_iff.1 hg).1).trans hg)
theorem SB.one (w : World) (b : Bs) : SB (w.alloc (.cells #[.string (nameB b)] 9)) (.slice (some ⟨w.heap.size, 0, none⟩) 1 1) [b] :=
  .inr ⟨w.heap.size, rfl, heap_alloc_new w _, by simp⟩
structure R3 (w : World) (x : Value × Value × Value) (r : Rl) : Prop where
  t : SB w x.1 r.ts
  n : SB w x.2.1 r.ns
  k : SB w x.2.2 r.rc
structure Gr (w0 w : World) (b4 : Nat) (v : Value) (L : List Rl) : Prop where
  blk : w.heap[b4]? = some (.cells [.slice none 0 0, v].toArray 45 (0, 0))
  own : ∃ cs : List (Value × Value × Value), cs.length = L.length ∧ w.ownsRow w0.heap.size 48 3 v L.length (tri cs) ∧ ∀ i (h : i < L.length) (h' : i < cs.length), R3 w cs[i] L[i]
  old : Only (fun j => j = b4) w0 w
  lt : b4 < w0.heap.size
theorem Gr.below {w0 w w' : World} {b4 : Nat} {v : Value} {L : List Rl} (h : Gr w0 w b4 v L) (hb : Below w.heap.size w w') : Gr w0 w' b4 v L := by
  obtain ⟨cs, h1, h2, h3⟩ := h.own
  exact ⟨(hb.block _ (Array.getElem?_eq_some_iff.1 h.blk).1).trans h.blk, ⟨cs, h1, own_keep3 h2 hb, fun i hi hi' => ⟨(h3 i hi hi').t.below hb, (h3 i hi hi').n.below hb, (h3 i hi hi').k.below hb⟩⟩, h.old.trans (Only.of_below (S := fun j => j = b4) hb) (fun _ h => h) (fun _ _ h => h), h.lt⟩
theorem Gr.rsv {w0 w : World} {b4 : Nat} {v : Value} {L : List Rl} (h : Gr w0 w b4 v L) : RsV w v L := by
  obtain ⟨cs, hl, how, hr⟩ := h.own
  rcases how.2 with ⟨h1, h0⟩ | ⟨b, cap, cur, rfl, h2, h3, h4, h5, h6⟩
  · exact .inl ⟨h1, List.eq_nil_of_length_eq_zero h0⟩
  · refine .inr ⟨b, 0, cap, rfl, h4, h5, (Array.getElem?_eq_some_iff.1 h3).1, fun i hi => ?_⟩
    have hc : i < cs.length := by omega
    have e := tri_at cs i hc
    have hh := hr i hi hc
    rw [Nat.zero_add]
    exact ⟨_, _, _, by rw [World.ownsRow.cellAt how (i * 3) (by omega), e.1], by rw [World.ownsRow.cellAt how (i * 3 + 1) (by omega), e.2.1], by rw [World.ownsRow.cellAt how (i * 3 + 2) (by omega), e.2.2],
      hh.t.sl, .inl hh.n.sl, hh.k.sl, by have := hh.t.len; omega, by have := hh.n.len; omega, by have := hh.k.len; omega⟩
theorem Gr.push {w0 w : World} {b4 : Nat} {v : Value} {L : List Rl} (h : Gr w0 w b4 v L) (m : Nat) (hm : L.length = m) (hl : m ≤ 1000) (x y z : Value) (r : Rl) (h3 : R3 w (x, y, z) r) :
    ∃ v' w3, (Builtin.append_ #[43, 43] 43 #[v, .slice (some ⟨w.heap.size, 0, none⟩) 1 1]).run Tryd.prog (w.alloc (.cells #[x, y, z] 48)) = .ok v' w3 ∧
      w3.cell? ⟨b4, 1, none⟩ = some v ∧ w3.frozen? ⟨b4, 1, none⟩ = false ∧ (∃ g c, v' = .slice (some ⟨g, 0, none⟩) (m + 1) c) ∧ Gr w0 (w3.setCell ⟨b4, 1, none⟩ v') b4 v' (L ++ [r]) := by
  subst hm
  obtain ⟨i0, hi, hz0, hz1, hz2⟩ := info_parts info48
  obtain ⟨w2, hw2⟩ : ∃ w2, w.alloc (.cells #[x, y, z] 48) = w2 := ⟨_, rfl⟩
  have hw0 : Below w.heap.size w w2 := hw2 ▸ below_alloc _ _
  have hs2 : w2.heap.size = w.heap.size + 1 := by rw [← hw2, size_alloc]
  have hn2 : w2.heap[w.heap.size]? = some (.cells #[x, y, z] 48 (0, 0)) := hw2 ▸ heap_alloc_new w _
  rw [hw2]
  have h2' := h.below hw0
  obtain ⟨cs, hcl, hown, hr⟩ := h2'.own
  have hsw := h.old.size
  obtain ⟨v', w3, e1, e2, e3, e4⟩ := run_append_own (P := Tryd.prog) w2 w0.heap.size 43 43 48 i0 _ 3 72 Tryd.underlying43 hi hz0 hz1 hz2 rfl (by decide) v L.length (tri cs) hown ⟨w.heap.size, 0, none⟩ 1 1 [x, y, z] rfl
    (fun j u hj => by
      rw [addk, Nat.zero_add]
      simp only [World.cell?, hn2]
      simpa using hj) (by
      intro u hu
      simp only [List.mem_cons, List.not_mem_nil, or_false] at hu
      rcases hu with rfl | rfl | rfl
      · exact oneCell_sl h3.t.sl
      · exact oneCell_sl h3.n.sl
      · exact oneCell_sl h3.k.sl) (by unfold maxLen; omega) (by omega) (by omega)
  have hty : ∀ (g : Nat) (arr : Array Value) (t : TypeId), t ≠ 48 → w2.heap[g]? = some (.cells arr t (0, 0)) → v.ownBlock ≠ some g := fun g arr t ht hg e => by
    rcases hown.2 with ⟨r1, _⟩ | ⟨b, cap, cur, r1, _, r3, _⟩
    · rw [r1] at e; cases e
    · rw [r1] at e
      injection e with e
      have e : b = g := e
      rw [e, hg] at r3
      injection r3 with r3
      injection r3 with _ r3 _
      exact ht r3
  have hb2 := h2'.blk
  have hkeep : ∀ (g : Nat) (arr : Array Value) (t : TypeId), t ≠ 48 → w2.heap[g]? = some (.cells arr t (0, 0)) → w3.heap[g]? = some (.cells arr t (0, 0)) := fun g arr t ht hg =>
    (e3.block g (Array.getElem?_eq_some_iff.1 hg).1 (fun e => hty g arr t ht hg e.symm)).trans hg
  have hb3 := hkeep b4 _ 45 (by decide) hb2
  have hkeep2 : ∀ (g : Nat) (arr : Array Value), w2.heap[g]? = some (.cells arr 9 (0, 0)) → (w3.setCell ⟨b4, 1, none⟩ v').heap[g]? = some (.cells arr 9 (0, 0)) := fun g arr hg => by
    have h3 := hkeep g arr 9 (by decide) hg
    have hne : g ≠ b4 := by
      intro e
      rw [e, hb3] at h3
      injection h3 with h3
      injection h3 with _ h3 _
      cases h3
    rw [Below.heap_setCell _ _ _ _ (by show g ≠ b4; exact hne)]; exact h3
  have h3w : R3 w2 (x, y, z) r := ⟨h3.t.below hw0, h3.n.below hw0, h3.k.below hw0⟩
  obtain ⟨g9, c9, hv9, _⟩ := e2.form (by omega)
  have hGr : Gr w0 (w3.setCell ⟨b4, 1, none⟩ v') b4 v' (L ++ [r]) := by
    refine ⟨set_of hb3 1 v', ⟨cs ++ [(x, y, z)], by simp [hcl], ?_, fun i hi' hi2 => ?_⟩, ?_, h.lt⟩
    · rw [tri_app, List.length_append]
      exact own_onlyS (F := fun j => j = b4) e2 ((Only.refl (fun j => j = b4) w3).set (.inl rfl) 1 v') (fun g hg e => by
        have := (e2.lt g hg).1
        have := h.lt
        omega)
    · by_cases e : i < cs.length
      · have hiL : i < L.length := by omega
        have := hr i hiL e
        rw [List.getElem_append_left e, List.getElem_append_left hiL]
        exact ⟨this.t.keep hkeep2, this.n.keep hkeep2, this.k.keep hkeep2⟩
      · have e2 : i = cs.length := by simp at hi2; omega
        subst e2
        rw [List.getElem_append_right (Nat.le_refl _), List.getElem_append_right (by omega)]
        simp only [hcl, Nat.sub_self, List.getElem_singleton]
        exact ⟨h3w.t.keep hkeep2, h3w.n.keep hkeep2, h3w.k.keep hkeep2⟩
    · refine ((h2'.old).trans (Only.of_grown (S := fun i => v.ownBlock = some i) e3 (fun k hk => hk)) (fun _ h => h) (fun i hi e => ?_)).set (.inl rfl) 1 v'
      have := (hown.lt i e).1
      omega
  exact ⟨v', w3, e1, cell_of hb3 1, free_of hb3 1, ⟨g9, c9, hv9⟩, hGr⟩
end Go.Proofs.YtjagnihkpgbjeaaDoor

namespace Go.Proofs.YtjagnihkpgbjeaaDoor
open Go.RowKit Go.Maps Go.ChangeMaps
set_option linter.unusedVariables false
/-! The pieces of a pattern rule: the kind of a need, the stem of a target, a need filled. -/
def Hm (w : World) : Prop := ∃ m, w.cell? ⟨0, 0, none⟩ = some (.int .i64 m)
theorem Hm.below {w w' : World} (h : Hm w) (hb : Below w.heap.size w w') : Hm w' := by
  obtain ⟨m, hm⟩ := h
  have hlt := World.block_lt_of_cell? w _ hm
  exact ⟨m, by rw [hb.cell (p := ⟨0, 0, none⟩) hlt]; exact hm⟩
section
variable {w : World} {B N f : Nat} {c : Cn} {T : Tr} {F : Nat → Prop} {s : Bz}
set_option maxRecDepth 100000 in
set_option maxHeartbeats 4000000 in
theorem kindG_any (hF : Fs w B N f c T F) (hs : Nm s) (k : Int) (hk : kdF T s = k) (sb : Nat) (hlt : sb < w.heap.size) (q2 : w.cell? ⟨sb, 2, none⟩ = some (.pointer (some ⟨f, 0, none⟩))) (q3 : w.cell? ⟨sb, 3, none⟩ = some (.string ⟨#[47]⟩)) :
    Calls Tryd.prog 107 #[.pointer (some ⟨sb, 0, none⟩), .string (nameB s)] w fun e w' => e = .returned (.int .i64 k) ∧ Below w.heap.size w w' := by
  have HA := Lib.hid (AbsN_any s hs w)
  have HK := Lib.hid (fun (w' : World) (hb : Below w.heap.size w w') => Kind_any (hF.below hb) hs k hk)
  obtain ⟨nb, hnb⟩ : ∃ nb, nameB s = nb := ⟨_, rfl⟩
  obtain ⟨pb, hpb⟩ : ∃ pb, pathB s = pb := ⟨_, rfl⟩
  rw [hnb] at HA ⊢
  rw [hpb] at HA HK
  clear hF hs hk hnb hpb
  go_enter Tryd.func107, Tryd.ntmps107
  go_wp2_with (first
    | (go_at_call 64; refine HA.out.mono ?_; rintro e w1 ⟨rfl, h1⟩; have H1 := Lib.hid h1; have p2 := (h1.cell (p := ⟨sb, 2, none⟩) hlt).trans q2; clear h1; simp only [])
    | (go_at_call 88; refine (HK.out _ H1.out).mono ?_; rintro e w2 ⟨rfl, h2⟩; have H2 := Lib.hid h2; clear h2; simp only []))
  go_ret
  exact ⟨rfl, below_trans H1.out H2.out⟩
end
theorem extract_nm (a b : Bs) : (nameB (a ++ b)).extract 0 a.length = nameB a := by
  refine ByteArray.ext (Array.toList_inj.1 ?_)
  rw [ByteArray.data_extract, Array.toList_extract, nameB_list, nameB_list]
  simp [List.extract]
theorem extract_nm2 (a b : Bs) : (nameB (a ++ b)).extract a.length (a ++ b).length = nameB b := by
  refine ByteArray.ext (Array.toList_inj.1 ?_)
  rw [ByteArray.data_extract, Array.toList_extract, nameB_list, nameB_list]
  simp [List.extract]
theorem match_pt (w : World) (hm : Hm w) (st back : Bs) (hs : st ≠ []) (hl : st.length + back.length ≤ 10000) :
    Calls Tryd.prog 105 #[.string (nameB (37 :: back)), .string (nameB (st ++ back))] w fun e w' => e = .returned (.tuple #[.string (nameB st), .bool true]) ∧ Below w.heap.size w w' := by
  obtain ⟨m, hm⟩ := hm
  have h0 : 0 < st.length := List.length_pos_iff.2 hs
  have hsz : (nameB (st ++ back)).size = st.length + back.length := by rw [nameB_size, List.length_append]
  have hG : (nameB back).size = back.length := nameB_size back
  have hF : (nameB []).size = 0 := nameB_size []
  have hok : Stem.stemOk (nameB []) (nameB back) (nameB (st ++ back)) = true := by
    unfold Stem.stemOk Stem.hp Stem.ends
    rw [hsz, hG, hF]
    have e1 : (nameB (st ++ back)).extract (st.length + back.length - back.length) (st.length + back.length) = nameB back := by
      have := extract_nm2 st back
      rw [List.length_append] at this
      rw [Nat.add_sub_cancel]; exact this
    have e2 : (nameB (st ++ back)).extract 0 0 = nameB [] := extract_nm [] (st ++ back)
    rw [e1, e2]
    simp [h0]
  have := Stem.Match_at (nameB (37 :: back)) (nameB (st ++ back)) (nameB []) (nameB back) [] back w m hm (by rw [nameB_size]; simp; omega) (by rw [hsz]; omega) (by rw [nameB_list]; rfl) (by simp) rfl rfl
  rw [hok, if_pos rfl, hsz, hG, hF] at this
  rw [Nat.add_sub_cancel, extract_nm st back] at this
  refine this.mono ?_
  rintro e w' ⟨rfl, n, rfl⟩
  exact ⟨rfl, below_drewN (Below.refl _ _) n⟩
theorem fill_pt (w : World) (hm : Hm w) (st nb : Bs) (hl : st.length + nb.length ≤ 10000) :
    Calls Tryd.prog 106 #[.string (nameB (37 :: nb)), .string (nameB st)] w fun e w' => e = .returned (.string (nameB (st ++ nb))) ∧ Below w.heap.size w w' := by
  obtain ⟨m, hm⟩ := hm
  refine Stem.Fill_any (nameB (37 :: nb)) (nameB st) w m hm (by rw [nameB_size]; simp; omega) (by rw [nameB_size]; omega) _ ?_
  rw [nameB_list, nameB_list, show (37 : UInt8) :: nb = [] ++ 37 :: nb from rfl, Stem.replace_at [] nb (by simp) st]
  rfl
end Go.Proofs.YtjagnihkpgbjeaaDoor

namespace Go.Proofs.YtjagnihkpgbjeaaDoor
open Go.RowKit Go.Maps Go.ChangeMaps
set_option linter.unusedVariables false
/-! A pattern rule with one target and one need that matches. -/
structure PatS (w w' : World) (b4 b6 : Nat) (nv rcv : Value) (sv : Value) (ns : List Bs) : Prop where
  p : w'.heap[b6]? = some (.cells [nv, rcv, sv, .bool false].toArray 50 (0, 0))
  r : w'.heap[b4]? = some (.cells [.slice none 0 0, .slice none 0 0, .string ⟨#[]⟩, .bool false].toArray 50 (0, 0))
  n : SlS w' nv ns
  old : Below w.heap.size w w'
  ne : b4 ≠ b6
  l4 : w.heap.size ≤ b4
  l6 : w.heap.size ≤ b6
  nb : ∀ g, nv.ownBlock = some g → g ≠ b4 ∧ g ≠ b6 ∧ w.heap.size ≤ g
theorem PatS.below {w w' w2 : World} {b4 b6 : Nat} {nv rcv sv : Value} {ns : List Bs} (h : PatS w w' b4 b6 nv rcv sv ns) (hb : Below w'.heap.size w' w2) : PatS w w2 b4 b6 nv rcv sv ns :=
  ⟨(hb.block _ (Array.getElem?_eq_some_iff.1 h.p).1).trans h.p, (hb.block _ (Array.getElem?_eq_some_iff.1 h.r).1).trans h.r, h.n.below hb, h.old.trans (hb.mono h.old.size), h.ne, h.l4, h.l6, h.nb⟩
theorem PatS.put {w w' : World} {b4 b6 : Nat} {nv rcv sv v' : Value} {ns ns' : List Bs} (h : PatS w w' b4 b6 nv rcv sv ns) (hv : SlS w' v' ns') (hn : ∀ g, v'.ownBlock = some g → g ≠ b4 ∧ g ≠ b6 ∧ w.heap.size ≤ g) : PatS w (w'.setCell ⟨b6, 0, none⟩ v') b4 b6 v' rcv sv ns' :=
  ⟨set_of h.p 0 _, by rw [Below.heap_setCell _ _ _ _ (by show b4 ≠ b6; exact h.ne)]; exact h.r, hv.only2 ((Only.refl (fun j => j = b6) w').set (.inl rfl) 0 v') (fun g _ hg e => (hn g hg).2.1 e), below_set h.old h.l6 _ _, h.ne, h.l4, h.l6, hn⟩
theorem PatS.fin {w w' : World} {b4 b6 : Nat} {nv rcv sv : Value} {ns : List Bs} (h : PatS w w' b4 b6 nv rcv sv ns) (u0 u1 u2 u3 : Value) :
    SlS ((((w'.setCell ⟨b4, 0, none⟩ u0).setCell ⟨b4, 1, none⟩ u1).setCell ⟨b4, 2, none⟩ u2).setCell ⟨b4, 3, none⟩ u3) nv ns ∧ Below w.heap.size w ((((w'.setCell ⟨b4, 0, none⟩ u0).setCell ⟨b4, 1, none⟩ u1).setCell ⟨b4, 2, none⟩ u2).setCell ⟨b4, 3, none⟩ u3) :=
  ⟨h.n.only2 ((((Only.refl (fun j => j = b4) w').set (.inl rfl) 0 u0).set (.inl rfl) 1 u1).set (.inl rfl) 2 u2 |>.set (.inl rfl) 3 u3) (fun g _ hg e => (h.nb g hg).1 e), below_set (below_set (below_set (below_set h.old h.l4 _ _) h.l4 _ _) h.l4 _ _) h.l4 _ _⟩
set_option maxRecDepth 100000 in
set_option maxHeartbeats 4000000 in
theorem pat_any {w : World} {B N f : Nat} {c : Cn} {T : Tr} {F : Nat → Prop} (hF : Fs w B N f c T F) (hm : Hm w) (sb : Nat) (hlt : sb < w.heap.size) (st back nb rc : Bs) (rcl : List Bs) (tv nv rcv ms rv : Value) (rs : List Rl)
    (q0 : w.cell? ⟨sb, 0, none⟩ = some ms) (q1 : w.cell? ⟨sb, 1, none⟩ = some rv) (q2 : w.cell? ⟨sb, 2, none⟩ = some (.pointer (some ⟨f, 0, none⟩))) (q3 : w.cell? ⟨sb, 3, none⟩ = some (.string ⟨#[47]⟩)) (q4 : w.cell? ⟨sb, 4, none⟩ = some (.string (nameB (st ++ back))))
    (h3 : Rl3 w tv nv rcv ⟨[37 :: back], [37 :: nb], rcl⟩) (hst : st ≠ []) (hl1 : st.length + back.length ≤ 10000) (hl2 : st.length + nb.length ≤ 10000) (hneed : Nm (st ++ nb)) (hv : RsV w rv rs) (hl : rs.length ≤ 1000) (hms : ∃ a n c, ms = .slice a n c) (b : Bool) (hb : (decide (kdF T (st ++ nb) ≠ 0) || knownF rs (st ++ nb)) = b) :
    Calls Tryd.prog 80 #[.pointer (some ⟨sb, 0, none⟩), .agg #[tv, nv, rcv]] w fun e w' => ∃ nv', e = .returned (.tuple #[.agg #[nv', rcv, .string (nameB st), .bool false], .bool b]) ∧ SlS w' nv' (if b then [st ++ nb] else []) ∧ Below w.heap.size w w' ∧ ∀ g, nv'.ownBlock = some g → w.heap.size ≤ g := by
  obtain ⟨ta, tc, htv⟩ := h3.t.len
  obtain ⟨na, nc, hnv⟩ := h3.n.len
  obtain ⟨ra, rcc, hrv⟩ := h3.k.len
  obtain ⟨ma, mn, mc, hms⟩ := hms
  obtain ⟨va, vc, hvv⟩ := hv.len
  have htv : tv = .slice ta 1 tc := htv
  have hnv : nv = .slice na 1 nc := hnv
  have hrv : rcv = .slice ra rcl.length rcc := hrv
  subst htv; subst hnv; subst hrv; subst hms; subst hvv
  obtain ⟨gt, ot, rfl, _, hct⟩ := strs_sl h3.t (by simp)
  obtain ⟨gn, on, rfl, _, hcn⟩ := strs_sn h3.n (by simp)
  have t0 : w.cell? ⟨gt, ot, none⟩ = some (.string (nameB (37 :: back))) := hct 0 (by simp)
  have n0 : w.cell? ⟨gn, on, none⟩ = some (.string (nameB (37 :: nb))) := hcn 0 (by simp)
  have HM := Lib.hid hm
  obtain ⟨W2, hW2⟩ : ∃ W2, ((w.alloc (.cells #[.slice (some ⟨gt, ot, none⟩) 1 tc, .slice (some ⟨gn, on, none⟩) 1 nc, .slice ra rcl.length rcc] 48)).alloc (.cells #[.slice none 0 0, .slice none 0 0, .string ⟨#[]⟩, .bool false] 50)).alloc (.cells #[.slice none 0 0, .slice ra rcl.length rcc, .string ⟨#[]⟩, .bool false] 50) = W2 := ⟨_, rfl⟩
  have hB2 : Below w.heap.size w W2 := hW2 ▸ below_trans (below_alloc _ _) (below_trans (below_alloc _ _) (below_alloc _ _))
  have hs2 : W2.heap.size = w.heap.size + 1 + 1 + 1 := by rw [← hW2, size_alloc, size_alloc, size_alloc]
  have z2 : ((w.alloc (.cells #[.slice (some ⟨gt, ot, none⟩) 1 tc, .slice (some ⟨gn, on, none⟩) 1 nc, .slice ra rcl.length rcc] 48)).alloc (.cells #[.slice none 0 0, .slice none 0 0, .string ⟨#[]⟩, .bool false] 50)).cell? ⟨w.heap.size, 2, none⟩ = some (.slice ra rcl.length rcc) := by
    rw [World.cell?, Below.heap_alloc _ _ _ (by rw [size_alloc]; exact Nat.lt_succ_self _), heap_alloc_new]; rfl
  have y3 : W2.heap[w.heap.size]? = some (.cells [.slice (some ⟨gt, ot, none⟩) 1 tc, .slice (some ⟨gn, on, none⟩) 1 nc, .slice ra rcl.length rcc].toArray 48 (0, 0)) := by
    rw [← hW2, Below.heap_alloc _ _ _ (by rw [size_alloc, size_alloc]; omega), Below.heap_alloc _ _ _ (by rw [size_alloc]; omega)]; exact heap_alloc_new w _
  have y4 : W2.heap[w.heap.size + 1]? = some (.cells [.slice none 0 0, .slice none 0 0, .string ⟨#[]⟩, .bool false].toArray 50 (0, 0)) := by
    rw [← hW2, Below.heap_alloc _ _ _ (by rw [size_alloc, size_alloc]; omega)]
    have := heap_alloc_new (w.alloc (.cells #[.slice (some ⟨gt, ot, none⟩) 1 tc, .slice (some ⟨gn, on, none⟩) 1 nc, .slice ra rcl.length rcc] 48)) (.cells #[.slice none 0 0, .slice none 0 0, .string ⟨#[]⟩, .bool false] 50)
    rw [size_alloc] at this; exact this
  have y6 : W2.heap[w.heap.size + 1 + 1]? = some (.cells [.slice none 0 0, .slice ra rcl.length rcc, .string ⟨#[]⟩, .bool false].toArray 50 (0, 0)) := by
    rw [← hW2]
    have := heap_alloc_new ((w.alloc (.cells #[.slice (some ⟨gt, ot, none⟩) 1 tc, .slice (some ⟨gn, on, none⟩) 1 nc, .slice ra rcl.length rcc] 48)).alloc (.cells #[.slice none 0 0, .slice none 0 0, .string ⟨#[]⟩, .bool false] 50)) (.cells #[.slice none 0 0, .slice ra rcl.length rcc, .string ⟨#[]⟩, .bool false] 50)
    rw [size_alloc, size_alloc] at this; exact this
  have zx0 : (((w.alloc (.cells #[.slice (some ⟨gt, ot, none⟩) 1 tc, .slice (some ⟨gn, on, none⟩) 1 nc, .slice ra rcl.length rcc] 48)).alloc (.cells #[.slice none 0 0, .slice none 0 0, .string ⟨#[]⟩, .bool false] 50)).alloc (.cells #[.slice none 0 0, .slice ra rcl.length rcc, .string ⟨#[]⟩, .bool false] 50)).cell? ⟨w.heap.size, 0, none⟩ = some (.slice (some ⟨gt, ot, none⟩) 1 tc) := by rw [hW2]; exact cell_of y3 0
  have HW2 := Lib.hid hW2
  have HB2 := Lib.hid hB2
  have HS2 := Lib.hid hs2
  have HY3 := Lib.hid y3
  have HY4 := Lib.hid y4
  have HY6 := Lib.hid y6
  clear hct hcn hm h3 hW2 hB2 hs2 y3 y4 y6
  go_enter Tryd.func80, Tryd.ntmps80
  go_wp2_with fail
  refine wp_scope_straight ?_
  go_wp2_with fail
  refine wp_label ?_
  go_wp2_with fail
  rw [HW2.out]
  obtain ⟨b6, hb6⟩ : ∃ b6, w.heap.size + 1 + 1 = b6 := ⟨_, rfl⟩
  obtain ⟨b4, hb4⟩ : ∃ b4, w.heap.size + 1 = b4 := ⟨_, rfl⟩
  obtain ⟨b3, hb3⟩ : ∃ b3, w.heap.size = b3 := ⟨_, rfl⟩
  rw [hb6] at HY6
  rw [hb4] at HY4
  have hne43 : b3 ≠ b4 := by omega
  have hne46 : b4 ≠ b6 := by omega
  have hne36 : b3 ≠ b6 := by omega
  have h64 : b6 ≠ b4 := by omega
  have h63 : b6 ≠ b3 := by omega
  have hlb : b3 ≤ b4 ∧ b3 ≤ b6 := by omega
  simp only [hb6]
  simp only [hb4]
  simp only [hb3]
  rw [hb3] at HY3
  clear zx0 z2
  go_loopw [19] (fun i wr => i = .int .i64 0 ∧ wr = W2) (fun i _ => 0)
  case atStart => exact ⟨rfl, rfl⟩
  case round =>
    obtain ⟨rfl, rfl⟩ := hrel
    have p4 := (HB2.out.cell (p := ⟨sb, 4, none⟩) hlt).trans q4
    have pt := (HB2.out.cell (p := ⟨gt, ot, none⟩) (World.block_lt_of_cell? _ _ t0)).trans t0
    have HMT := Lib.hid (match_pt _ (HM.out.below HB2.out) st back hst hl1)
    obtain ⟨TG, hTG⟩ : ∃ TG, nameB (st ++ back) = TG := ⟨_, rfl⟩
    obtain ⟨PT, hPT⟩ : ∃ PT, nameB (37 :: back) = PT := ⟨_, rfl⟩
    obtain ⟨ST, hST⟩ : ∃ ST, nameB st = ST := ⟨_, rfl⟩
    rw [hTG] at p4 HMT
    rw [hPT] at pt HMT
    rw [hST] at HMT
    have HST := Lib.hid hST
    clear hTG hPT hST
    go_wp2_with (go_at_call 105; refine HMT.out.mono ?_; rintro e w3 ⟨rfl, h3⟩; have H3 := Lib.hid h3; obtain ⟨z0, z1, z2, z3, y0, y1, y2, y3⟩ := box50 ((h3.block _ (Array.getElem?_eq_some_iff.1 HY6.out).1).trans HY6.out); have x1 : w3.cell? ⟨b3, 1, none⟩ = some (.slice (some ⟨gn, on, none⟩) 1 nc) := cell_of ((h3.block _ (Array.getElem?_eq_some_iff.1 HY3.out).1).trans HY3.out) 1; clear h3; simp only [])
    have e6 := (H3.out.block _ (Array.getElem?_eq_some_iff.1 HY6.out).1).trans HY6.out
    have e4 := (H3.out.block _ (Array.getElem?_eq_some_iff.1 HY4.out).1).trans HY4.out
    obtain ⟨WL, hWL⟩ : ∃ WL, w3.setCell ⟨b6, 2, none⟩ (.string ST) = WL := ⟨_, rfl⟩
    have HPS : Hid (PatS w WL b4 b6 (.slice none 0 0) (.slice ra rcl.length rcc) (.string ST) []) := by
      rw [← hWL]
      refine ⟨set_of e6 2 _, ?_, .inl ⟨rfl, rfl⟩, below_set (below_trans HB2.out H3.out) (by omega) _ _, hne46, by omega, by omega, fun g hg => by cases hg⟩
      rw [Below.heap_setCell _ _ _ _ (by show b4 ≠ b6; exact hne46)]; exact e4
    rw [hWL]
    clear e6 e4 z0 z1 z2 z3 y0 y1 y2 y3 x1 p4 pt HMT hWL
    go_loopw [41] (fun i wr => (i = .int .i64 0 ∧ Hid (PatS w wr b4 b6 (.slice none 0 0) (.slice ra rcl.length rcc) (.string ST) [])) ∨ (i = .int .i64 1 ∧ Hid (∃ a c', PatS w wr b4 b6 (.slice a 1 c') (.slice ra rcl.length rcc) (.string ST) [st ++ nb]) ∧ Hid (b = true))) (fun i _ => 1 - (intOf i).toNat)
    case atStart => exact .inl ⟨rfl, HPS.out⟩
    case round =>
      clear HPS
      rcases hrel with ⟨rfl, HX⟩ | ⟨rfl, HX, HBT⟩
      · have pn := (HX.out.old.cell (p := ⟨gn, on, none⟩) (World.block_lt_of_cell? _ _ n0)).trans n0
        have HFL := Lib.hid (fun (w' : World) (hb' : Below w.heap.size w w') => fill_pt w' (HM.out.below hb') st nb hl2)
        obtain ⟨kk, hkk⟩ : ∃ kk, kdF T (st ++ nb) = kk := ⟨_, rfl⟩
        have HKD := Lib.hid (fun (w' : World) (hb' : Below w.heap.size w w') => kindG_any (hF.below hb') hneed kk hkk sb (Nat.lt_of_lt_of_le hlt hb'.size) ((hb'.cell (p := ⟨sb, 2, none⟩) hlt).trans q2) ((hb'.cell (p := ⟨sb, 3, none⟩) hlt).trans q3))
        have HC0 := Lib.hid (fun (w' : World) (hb' : Below w.heap.size w w') => (hb'.cell (p := ⟨sb, 0, none⟩) hlt).trans q0)
        have HC1 := Lib.hid (fun (w' : World) (hb' : Below w.heap.size w w') => (hb'.cell (p := ⟨sb, 1, none⟩) hlt).trans q1)
        obtain ⟨kn, hkn⟩ : ∃ kn, knownF rs (st ++ nb) = kn := ⟨_, rfl⟩
        have HKN := Lib.hid (fun (w' : World) (hb' : Below w.heap.size w w') => Known_any (.slice ma mn mc) (.slice va rs.length vc) rs (nameB (st ++ nb)) w' (hv.below hb') hl kn (by rw [nameB_list]; exact hkn))
        rw [hkk, hkn] at hb
        have HBB := Lib.hid hb
        obtain ⟨z0, z1, z2, z3, y0, y1, y2, y3⟩ := box50 HX.out.p
        obtain ⟨PN, hPN⟩ : ∃ PN, nameB (37 :: nb) = PN := ⟨_, rfl⟩
        obtain ⟨ND, hND⟩ : ∃ ND, nameB (st ++ nb) = ND := ⟨_, rfl⟩
        rw [hPN] at pn HFL
        rw [hND] at HFL HKD HKN
        rw [HST.out] at HFL
        have HND := Lib.hid hND
        clear hPN hND hkk hkn hb q0 q1 q2 q3
        have HW0 : Hid (Below wr.heap.size wr wr) := Below.refl _ _
        by_cases hk0 : kk = 0
        · subst hk0
          cases kn with
          | true =>
            have HBT : Hid (b = true) := HBB.out.symm
            go_wp2_with (first
              | (go_at_call 106; ((with_reducible refine (HFL.out _ HX.out.old).mono ?_)); rintro e w5 ⟨rfl, h5⟩; have H5 := Lib.hid (HX.out.below h5); clear h5; simp only [])
              | (go_at_call 107; ((with_reducible refine (HKD.out _ H5.out.old).mono ?_)); rintro e w6 ⟨rfl, h6⟩; have H6 := Lib.hid (H5.out.below h6); clear h6; have p0 := HC0.out _ H6.out.old; have p1 := HC1.out _ H6.out.old; simp only [])
              | (go_at_call 87; ((with_reducible refine (HKN.out _ H6.out.old).mono ?_)); rintro e w7 ⟨rfl, h7⟩; have H7 := Lib.hid (H6.out.below h7); clear h7; obtain ⟨u0, u1, u2, u3, v0, v1, v2, v3⟩ := box50 H7.out.p; obtain ⟨v', w8, hrun, hro⟩ := push_one (StrO.nil w7 w7 (Below.refl _ _)) (st ++ nb) (by simp); rw [show (⟨(st ++ nb).toArray⟩ : ByteArray) = ND from HND.out] at hrun; obtain ⟨va8, vc8, hv8⟩ := hro.sls.len; have hv8 : v' = .slice va8 1 vc8 := hv8; subst hv8; have H8 := Lib.hid (H7.out.below hro.old); have HP8 := Lib.hid (H8.out.put hro.sls (fun g hg => by have := (hro.own.lt g hg).1; have l1 := (Array.getElem?_eq_some_iff.1 H7.out.p).1; have l2 := (Array.getElem?_eq_some_iff.1 H7.out.r).1; have l3 := H7.out.old.size; exact ⟨by omega, by omega, by omega⟩)); have HRUN := Lib.hid hrun; obtain ⟨k0, k1, k2, k3, i0, i1, i2, i3⟩ := box50 H8.out.p; clear hrun hro; simp only [])
              | (at_builtin; refine wpList_run_append _ rfl _ _ 29 29 rfl _ _ rfl rfl HRUN.out ?_))
            exact ⟨.inr ⟨rfl, ⟨_, _, HP8.out⟩, HBT.out⟩, by simp [intOf]⟩
          | false =>
            have HBT : Hid (b = false) := HBB.out.symm
            go_wp2_with (first
              | (go_at_call 106; ((with_reducible refine (HFL.out _ HX.out.old).mono ?_)); rintro e w5 ⟨rfl, h5⟩; have H5 := Lib.hid (HX.out.below h5); clear h5; simp only [])
              | (go_at_call 107; ((with_reducible refine (HKD.out _ H5.out.old).mono ?_)); rintro e w6 ⟨rfl, h6⟩; have H6 := Lib.hid (H5.out.below h6); clear h6; have p0 := HC0.out _ H6.out.old; have p1 := HC1.out _ H6.out.old; simp only [])
              | (go_at_call 87; ((with_reducible refine (HKN.out _ H6.out.old).mono ?_)); rintro e w7 ⟨rfl, h7⟩; have H7 := Lib.hid (H6.out.below h7); clear h7; obtain ⟨u0, u1, u2, u3, v0, v1, v2, v3⟩ := box50 H7.out.p; obtain ⟨k0, k1, k2, k3, i0, i1, i2, i3⟩ := box50 H7.out.r; have HFX := Lib.hid (fin50 (u0 := .slice none 0 0) (u1 := .slice ra rcl.length rcc) (u2 := .string ST) (u3 := .bool false) H7.out.r); simp only []))
            simp +zetaDelta only [Exit.noGoto_ret]
            have hf := HFX.out
            refine bodyPost_ret (v := .tuple #[.agg #[.slice none 0 0, .slice ra rcl.length rcc, .string ST, .bool false], .bool false]) ?_ rfl ?_
            · obtain ⟨k0, k1, k2, k3, _⟩ := box50 hf
              simp [results, Tryd.results80, go_sem, k0, k1, k2, k3]
              try rfl
            · exact ⟨_, by rw [HBT.out, HST.out], by rw [HBT.out]; exact .inl ⟨rfl, rfl⟩, (H7.out.fin _ _ _ _).2, fun g hg => by cases hg⟩
        · have hkb : (kk == 0) = false := by simpa using hk0
          have HBT : Hid (b = true) := by rw [Hid, ← HBB.out]; simp [hk0]
          go_wp2_with (first
            | (go_at_call 106; ((with_reducible refine (HFL.out _ HX.out.old).mono ?_)); rintro e w5 ⟨rfl, h5⟩; have H5 := Lib.hid (HX.out.below h5); clear h5; simp only [])
            | (go_at_call 107; ((with_reducible refine (HKD.out _ H5.out.old).mono ?_)); rintro e w6 ⟨rfl, h6⟩; have H6 := Lib.hid (H5.out.below h6); clear h6; have p0 := HC0.out _ H6.out.old; have p1 := HC1.out _ H6.out.old; obtain ⟨u0, u1, u2, u3, v0, v1, v2, v3⟩ := box50 H6.out.p; obtain ⟨v', w8, hrun, hro⟩ := push_one (StrO.nil w6 w6 (Below.refl _ _)) (st ++ nb) (by simp); rw [show (⟨(st ++ nb).toArray⟩ : ByteArray) = ND from HND.out] at hrun; obtain ⟨va8, vc8, hv8⟩ := hro.sls.len; have hv8 : v' = .slice va8 1 vc8 := hv8; subst hv8; have H8 := Lib.hid (H6.out.below hro.old); have HP8 := Lib.hid (H8.out.put hro.sls (fun g hg => by have := (hro.own.lt g hg).1; have l1 := (Array.getElem?_eq_some_iff.1 H6.out.p).1; have l2 := (Array.getElem?_eq_some_iff.1 H6.out.r).1; have l3 := H6.out.old.size; exact ⟨by omega, by omega, by omega⟩)); have HRUN := Lib.hid hrun; obtain ⟨k0, k1, k2, k3, i0, i1, i2, i3⟩ := box50 H8.out.p; clear hrun hro; simp only [])
            | (at_builtin; refine wpList_run_append _ rfl _ _ 29 29 rfl _ _ rfl rfl HRUN.out ?_))
          exact ⟨.inr ⟨rfl, ⟨_, _, HP8.out⟩, HBT.out⟩, by simp [intOf]⟩
      · obtain ⟨a, c', hX⟩ := HX.out
        obtain ⟨z0, z1, z2, z3, y0, y1, y2, y3⟩ := box50 hX.p
        obtain ⟨k0, k1, k2, k3, i0, i1, i2, i3⟩ := box50 hX.r
        have HP := Lib.hid hX
        have HFX := Lib.hid (fin50 (u0 := .slice a 1 c') (u1 := .slice ra rcl.length rcc) (u2 := .string ST) (u3 := .bool false) hX.r)
        clear hX HX
        go_wp2_with fail
        simp +zetaDelta only [Exit.noGoto_ret]
        have hf := HFX.out
        refine bodyPost_ret (v := .tuple #[.agg #[.slice a 1 c', .slice ra rcl.length rcc, .string ST, .bool false], .bool true]) ?_ rfl ?_
        · obtain ⟨k0, k1, k2, k3, _⟩ := box50 hf
          simp [results, Tryd.results80, go_sem, k0, k1, k2, k3]
          try rfl
        · exact ⟨_, by rw [HBT.out, HST.out], by rw [HBT.out, if_pos rfl]; exact (HP.out.fin _ _ _ _).1, (HP.out.fin _ _ _ _).2, fun g hg => (HP.out.nb g hg).2.2⟩
end Go.Proofs.YtjagnihkpgbjeaaDoor
