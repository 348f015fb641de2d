import Derived.Test.YtcmjpkfinbakkaaGreatDoorWVJ
import Derived.StillTailTactics
namespace Go.Proofs.YtcmjpkfinbakkaaGreatDoor.Vf
set_option maxRecDepth 100000
open Go.RowKit Go.Maps Go.ChangeMaps
set_option linter.unusedVariables false
theorem info5 : (Tryz.prog.info? 5).map (fun i => (i.zero, i.size, i.bytes)) = some (some (.int .u8 0), 1, 1) := by kernel_rfl
theorem addn (b off k : Nat) : (⟨b, off, none⟩ : Addr).add k = ⟨b, off + k, none⟩ := by unfold Addr.add; split <;> simp_all
theorem u8s_one (l : Bz) : ∀ u ∈ u8s l, u.oneCell' = true := by
  intro u hu
  obtain ⟨c, _, rfl⟩ := List.mem_map.1 hu
  rfl
theorem app_nil0 (w : World) (a : Option Addr) (c : Nat) : (Builtin.append_ #[41, 41] 41 #[.slice none 0 0, .slice none 0 c]).run Tryz.prog w = .ok (.slice none 0 0) w := by kernel_rfl
theorem Bin.only {w w' : World} {ba : Option Addr} {bn bc : Nat} {bl : Bz} {X : Nat → Prop} (h : Bin w (.slice ba bn bc) bl) (ho : Only X w w') (hx : ∀ a, ba = some a → 0 < bl.length → ¬ X a.block) : Bin w' (.slice ba bn bc) bl := by
  obtain ⟨a, cp, h1, h2⟩ := h
  refine ⟨a, cp, h1, fun i hi => ?_⟩
  obtain ⟨g, o, e1, e2, e3⟩ := h2 i hi
  refine ⟨g, o, e1, Nat.lt_of_lt_of_le e2 ho.size, ?_⟩
  injection h1 with h1
  have hne := hx ⟨g, o, none⟩ (h1.trans e1) (by omega)
  have := ho.block g e2 hne
  simp only [World.cell?, this]
  exact e3
theorem foot_setV {T : Tr} {A : Pth → Nat} {M : Pth → Option Nat} {V : Pth → Value} {p : Pth} {v : Value} {j : Nat} (h : foot T A M (setF V p v) j) : foot T A M V j ∨ v.ownBlock = some j := by
  obtain ⟨q, n, hq, e⟩ := h
  by_cases hd : q = p
  · rw [hd, setF_same] at e
    rcases e with e | e | e
    · exact .inl ⟨q, n, hq, .inl (by rw [hd]; exact e)⟩
    · exact .inl ⟨q, n, hq, .inr (.inl (by rw [hd]; exact e))⟩
    · exact .inr e
  · rw [setF_other _ _ hd] at e
    exact .inl ⟨q, n, hq, e⟩
theorem row_base {w : World} {B B' n : Nat} {v : Value} {xs : List Value} (h : w.ownsRow B 5 1 v n xs) (hB : B' ≤ B) : w.ownsRow B' 5 1 v n xs := by
  refine ⟨h.1, ?_⟩
  rcases h.2 with hn | ⟨g, cap, cur, e, h1, r⟩
  · exact .inl hn
  · exact .inr ⟨g, cap, cur, e, Nat.le_trans hB h1, r⟩
theorem row_ge {w : World} {B n g : Nat} {v : Value} {xs : List Value} (h : w.ownsRow B 5 1 v n xs) (hg : v.ownBlock = some g) : B ≤ g := by
  rcases h.2 with ⟨rfl, _⟩ | ⟨g', cap, cur, rfl, h1, r⟩
  · cases hg
  · cases hg; exact h1
/-- append(nil, b...). -/
theorem app_bytes {w : World} {ba : Option Addr} {bn bc : Nat} {bl : Bz} (hbn : bl.length = bn) (h : Bin w (.slice ba bn bc) bl) (hl : bl.length ≤ 1000000) :
    ∃ va vc w', (Builtin.append_ #[41, 41] 41 #[.slice none 0 0, .slice ba bn bc]).run Tryz.prog w = .ok (.slice va bn vc) w' ∧ w'.ownsRow w.heap.size 5 1 (.slice va bn vc) bn (u8s bl) ∧ Below w.heap.size w w' := by
  obtain ⟨i0, hi, hz0, hz1, hz2⟩ := info_parts info5
  obtain ⟨a, cp, e, hx⟩ := h
  injection e with e1 e2 e3
  subst e1
  have low : ∀ (ad : Addr) , ba = some ad → (∀ j u, (u8s bl)[j]? = some u → w.cell? (ad.add j) = some u) → ∃ va vc w', (Builtin.append_ #[41, 41] 41 #[.slice none 0 0, .slice ba bn bc]).run Tryz.prog w = .ok (.slice va bn vc) w' ∧ w'.ownsRow w.heap.size 5 1 (.slice va bn vc) bn (u8s bl) ∧ Below w.heap.size w w' := by
    intro ad had hc
    obtain ⟨v', w', hrun, r1, r2, _⟩ := run_append_own (P := Tryz.prog) w w.heap.size 41 41 5 i0 (.int .u8 0) 1 1 Tryz.underlying41 hi hz0 hz1 hz2 rfl (by decide) (.slice none 0 0) 0 [] (World.ownsRow_nil w _ _ _) ad bn bc (u8s bl) (by rw [u8s_len, hbn]; omega) hc (u8s_one bl) (by unfold maxLen; omega) (by omega) (Nat.le_refl _)
    rw [Nat.zero_add, List.nil_append] at r1
    have hbel : Below w.heap.size w w' := ⟨r2.os, r2.tape, r2.output, r2.size, fun k hk => r2.block k hk (by simp [Value.ownBlock])⟩
    rcases r1.2 with ⟨rfl, h0⟩ | ⟨g, cap, cur, rfl, _⟩
    · subst h0
      rw [had]
      exact ⟨_, _, w', hrun, r1, hbel⟩
    · rw [had]
      exact ⟨_, _, w', hrun, r1, hbel⟩
  cases bl with
  | nil =>
    have h0 : bn = 0 := hbn.symm
    subst h0
    cases ba with
    | none => exact ⟨none, 0, w, app_nil0 w none bc, ⟨rfl, .inl ⟨rfl, rfl⟩⟩, Below.refl _ _⟩
    | some ad => exact low ad rfl (fun j u hj => by simp [u8s] at hj)
  | cons c r =>
    obtain ⟨g, o, e1, e2, e3⟩ := hx 0 (by simp)
    refine low ⟨g, o, none⟩ e1 (fun j u hj => ?_)
    have hjl : j < (c :: r).length := by
      by_cases hh : j < (c :: r).length
      · exact hh
      · rw [List.getElem?_eq_none (by rw [u8s_len]; omega)] at hj; cases hj
    obtain ⟨g', o', e1', _, e3'⟩ := hx j hjl
    rw [e1] at e1'
    obtain ⟨rfl, rfl⟩ : g = g' ∧ o = o' := by simpa using e1'
    rw [u8s, List.getElem?_map, List.getElem?_eq_getElem hjl] at hj
    have hu : u = .int .u8 (c :: r)[j].toNat := by simpa using hj.symm
    rw [hu, addn, e3']
theorem wpList_run_append {P : Program} (w : World) {ops : Array Oper} {rest : List Oper} {o : Oper} {a : Act} {Q : Exit → Act → World → Prop} (hgd : o.guard = none) (d s : Operand) (t t' : TypeId)
    (ho : o.op = .call { callee := .builtin .append, args := #[d, s], argTypes := #[t, t'] }) (v u : Value) (hd : a.eval d = v) (hs : a.eval s = u) {v' : Value} {w' : World}
    (hr : (Builtin.append_ #[t, t'] o.type #[v, u]).run P w = .ok v' w') (h : wpList P ops Q rest (a.put o.dst v') w') : wpList P ops Q (o :: rest) a w := by
  refine wpList_plain hgd fun K hK => ?_
  unfold Oper.wp
  simp [execOp, ho, resolve, invoke, builtin, hd, hs, hr, Result.andThen]
  exact hK _ _ h
set_option maxRecDepth 100000 in
set_option maxHeartbeats 4000000 in
theorem Write_new (w : World) {B N f : Nat} {c : Cn} {T : Tr} {F : Nat → Prop} (p : ByteArray) (more : Bool) (hF : Fs w B N f c T F) (hp : PathOk p) (hc : c.Ok) (hN : N < maxLen) (hB : B ≤ w.heap.size) (hE : findE T p = 0) (hn : T (findL p) = none) (bl : Bz) (ba : Option Addr) (bc : Nat) (hb : Bin w (.slice ba bl.length bc) bl) (hba : ∀ a, ba = some a → 0 < bl.length → ¬ F a.block) (hbl : bl.length ≤ 1000000)
    (hfull : ¬ c.nodes ≤ c.count) (hroom : ¬ c.bytes - c.size < bl.length) :
    Calls Tryz.prog 17 #[.pointer (some ⟨f, 0, none⟩), .string p, .slice ba bl.length bc, .bool more] w (MutP w B N f F 0 (setF T (findL p) (some ⟨true, bl, c.clock + 1⟩)) { c with count := c.count + 1, size := c.size + bl.length, clock := c.clock + 1 }) := by
  obtain ⟨A, M, V, hT, hft, r0, h0, hr0⟩ := hF
  have HF : Hid (Fs w B N f c T F) := ⟨A, M, V, hT, hft, r0, h0, hr0⟩
  have HHE := Lib.hid (fun w => here_any f w)
  obtain ⟨Q, hQ⟩ : ∃ Q, MutP w B N f F 0 (setF T (findL p) (some ⟨true, bl, c.clock + 1⟩)) { c with count := c.count + 1, size := c.size + bl.length, clock := c.clock + 1 } = Q := ⟨_, rfl⟩
  rw [hQ]
  have HT := Lib.hid hT
  have H0 := Lib.hid h0
  have HFT := Lib.hid hft
  have HBIN := Lib.hid hb
  rcases List.eq_nil_or_concat (findL p) with hL | ⟨d, k, hL⟩
  · rw [hL, h0] at hn; cases hn
  have hL : findL p = d ++ [k] := by rw [hL]; simp
  rw [hL] at hQ hn
  have HQ := Lib.hid hQ
  have HX := Lib.hid hn
  have HB := Lib.hid (find_good (w := w) hT h0 hr0 hp hE hL)
  obtain ⟨lg, hlg⟩ : ∃ lg, (d ++ [k]).length = lg := ⟨_, rfl⟩
  rw [hlg] at HB
  have hk : kidsOf T A d k = none := by unfold kidsOf; rw [hn]; rfl
  rw [hk] at HB
  have hkl : k.length ≤ maxLen := hp.each k (by rw [hL]; simp)
  have hcount := hc.count
  have hclock := hc.clock
  have hsize := hc.size
  have hbytes := hc.bytes
  obtain ⟨bn, hbn⟩ : ∃ bn, bl.length = bn := ⟨_, rfl⟩
  have HBN := Lib.hid hbn
  rw [hbn] at hroom hbl HBIN ⊢
  have hd : decide (c.nodes ≤ c.count) = false := decide_eq_false hfull
  have hd2 : decide (c.bytes - c.size < (bn : Int)) = false := decide_eq_false hroom
  have hw1 : IntKind.i64.wrap c.size = c.size := IntWalk.i64_in _ (by omega)
  have hw2 : IntKind.i64.wrap (c.bytes - c.size) = c.bytes - c.size := IntWalk.i64_in _ (by omega)
  clear hT hft h0 hQ hp hE hL hk hn hb hc hbn
  go_enter Tryz.func17, Tryz.ntmps17
  go_wp2_with (first
    | (go_at_call 33; refine HB.out.mono ?_; rintro e w1 ⟨dn, g, cc, hdn, hdf, rfl, hrow, h1⟩; have H1 := Lib.hid h1; have h2 := (HT.out.only (X := fun _ => False) (Only.of_below h1) (fun _ h => h.elim)).rootBlk H0.out; have HR := Lib.hid h2; have hlf := blk_lt h2; have HDN := Lib.hid hdn; have HDF := Lib.hid hdf; clear h1 hrow hdn hdf h2; simp only [ptrV, spotV])
    | (go_at_call 34; refine (HHE.out _).mono ?_; rintro e w2 ⟨rfl, h2⟩; obtain rfl := h2.symm; simp only []))
  have q2 : (w1.alloc (.cells #[.pointer (some ⟨A d, 0, none⟩), .string ⟨k.toArray⟩, .pointer none, .slice (some ⟨g, 0, none⟩) lg cc] 74)).cell? ⟨w1.heap.size, 2, none⟩ = some (.pointer none) := cell_of (cs := [.pointer (some ⟨A d, 0, none⟩), .string ⟨k.toArray⟩, .pointer none, .slice (some ⟨g, 0, none⟩) lg cc]) (heap_alloc_new w1 _) 2
  go_quiet (fail)
  obtain ⟨W, hW⟩ : ∃ W, (w1.alloc (.cells #[.pointer (some ⟨A d, 0, none⟩), .string ⟨k.toArray⟩, .pointer none, .slice (some ⟨g, 0, none⟩) lg cc] 74)).drewN nq = W := ⟨_, rfl⟩
  rw [hW]
  have hbW : Below w1.heap.size w1 W := by rw [← hW]; exact below_drewN ((Below.refl _ _).alloc (Nat.le_refl _) _) _
  have hWs : W.heap.size = w1.heap.size + 1 := by rw [← hW]; simp [World.drewN]
  have hbox : Hid (W.heap[w1.heap.size]? = some (.cells [.pointer (some ⟨A d, 0, none⟩), .string ⟨k.toArray⟩, .pointer none, .slice (some ⟨g, 0, none⟩) lg cc].toArray 74 (0, 0))) := by rw [Hid, ← hW]; exact heap_alloc_new w1 _
  have HBW := Lib.hid hbW
  clear hW q2 hbW
  go_wp2_with fail
  obtain ⟨W3, hW3⟩ : ∃ W3, W.alloc (.cells #[.bool true, .slice none 0 0, .int .i64 0, .map none] 69) = W3 := ⟨_, rfl⟩
  rw [hW3]
  have hb3 : Below w1.heap.size w1 W3 := by rw [← hW3]; exact HBW.out.alloc (by omega) _
  have hnew : W3.heap[W.heap.size]? = some (.cells (ndC ⟨true, [], 0⟩ (.slice none 0 0) none ++ []).toArray 69 (0, 0)) := by
    rw [← hW3]; exact heap_alloc_new _ _
  have hbox3 : W3.heap[w1.heap.size]? = some (.cells [.pointer (some ⟨A d, 0, none⟩), .string ⟨k.toArray⟩, .pointer none, .slice (some ⟨g, 0, none⟩) lg cc].toArray 74 (0, 0)) := by
    rw [← hW3, (MapKept.heap_alloc _ _).2 _ (by omega)]; exact hbox.out
  have hR3 : W3.heap[f]? = _ := (hb3.block f hlf).trans HR.out
  have p4 : W3.cell? ⟨f, 4, none⟩ = some (.int .i64 c.nodes) := cell_of hR3 4
  have p5 : W3.cell? ⟨f, 5, none⟩ = some (.int .i64 c.bytes) := cell_of hR3 5
  have p6 : W3.cell? ⟨f, 6, none⟩ = some (.int .i64 c.count) := cell_of hR3 6
  have p7 : W3.cell? ⟨f, 7, none⟩ = some (.int .i64 c.size) := cell_of hR3 7
  obtain ⟨nb, hnb⟩ : ∃ nb, w1.heap.size + 1 = nb := ⟨_, rfl⟩
  rw [hWs] at hnew
  rw [hnb] at hnew ⊢
  have p1 : W3.cell? ⟨nb, 1, none⟩ = some (.slice none 0 0) := cell_of hnew 1
  have HR3 := Lib.hid hR3
  have HNEW := Lib.hid hnew
  have HBOX3 := Lib.hid hbox3
  have HB3 := Lib.hid hb3
  clear hnew hbox3 hR3 hb3
  go_quiet (fail)
  obtain ⟨W4, hW4⟩ : ∃ W4, W3.drewN nq = W4 := ⟨_, rfl⟩
  rw [hW4]
  have h34 : Below W3.heap.size W3 W4 := by rw [← hW4]; exact below_drewN (Below.refl _ _) _
  have hh4 : W4.heap = W3.heap := by rw [← hW4]; rfl
  have hb4 : Below w1.heap.size w1 W4 := HB3.out.trans (h34.mono HB3.out.size)
  have hnew4 := HNEW.out
  rw [← hh4] at hnew4
  obtain ⟨q0, q1, q2, q3, u0, u1, u2, u3⟩ := box_facts (w := W4) (by rw [hh4]; exact HBOX3.out)
  have hw1B : w.heap.size ≤ w1.heap.size := H1.out.size
  have hbel : Below w.heap.size w W4 := H1.out.trans (hb4.mono hw1B)
  have hnbB : w.heap.size ≤ nb := by omega
  have hT4 := HT.out.only (X := fun _ => False) (Only.of_below hbel) (fun _ h => h.elim)
  have hlf4 := TreeAt.leaf' (B := B) (N := 0) (n := ⟨true, [], 0⟩) (v := .slice none 0 0) hnew4 ⟨rfl, .inl ⟨rfl, rfl⟩⟩ (by omega)
  have hdis : ∀ j, foot T A M V j → ¬ foot (leafT ⟨true, [], 0⟩) (fun _ => nb) (fun _ => none) (fun _ => .slice none 0 0) j := fun j h1 h2 => by
    have := HT.out.lt h1
    rcases leaf_foot h2 with e | e
    · omega
    · cases e
  have HADD := add_any hT4 hlf4 (Nat.zero_le _) H0.out HDN.out HDF.out hdis (by have := hbel.size; omega) hkl hN hcount (.pointer none) (.slice (some ⟨g, 0, none⟩) lg cc) none rfl _ _ _ rfl
  simp only [spotV] at HADD
  have HADD := Lib.hid HADD
  have HBEL := Lib.hid hbel
  have HT4 := Lib.hid hT4
  have HLF := Lib.hid (fun j h => leaf_foot (n := ⟨true, [], 0⟩) (c := nb) (v := .slice none 0 0) (j := j) h)
  have HTL : Hid (graftF T (d ++ [k]) (leafT ⟨true, [], 0⟩) (d ++ [k]) = some ⟨true, [], 0⟩) := by rw [Hid, graft_self]; rfl
  have HT0 : Hid (graftF T (d ++ [k]) (leafT ⟨true, [], 0⟩) [] = some r0) := by
    rw [Hid, graftF_out _ _ _ (fun e => by have := e.length_le; simp at this)]; exact H0.out
  clear hW4 h34 hh4 hb4 hnew4 hbel hT4 hlf4 hdis p1 p4 p5 p6 p7
  go_wp2_with (go_at_call 35; refine HADD.out.mono ?_; rintro e w5 ⟨rfl, m', a1, a2, a3⟩; have A1 := Lib.hid a1; have A2 := Lib.hid a2; have A3 := Lib.hid a3; have hr5 := a1.rootBlk HT0.out; have hn5 := a1.blk _ _ HTL.out; rw [graft_self, graft_self, graft_self] at hn5; have p7 : w5.cell? ⟨f, 7, none⟩ = some (.int .i64 c.size) := cell_of hr5 7; have e7 := free_of hr5 7; have p1 : w5.cell? ⟨nb, 1, none⟩ = some (.slice none 0 0) := cell_of hn5 1; have e1 := free_of hn5 1; have hlf5 := blk_lt hr5; have hln5 := blk_lt hn5; clear a1 a2 a3 hr5 hn5; simp only [])
  go_still_tail 12, (by kernel_rfl)
  change wpList _ _ _ _ _ w5.drew
  obtain ⟨w6, hw6⟩ : ∃ w6, w5.drew = w6 := ⟨_, rfl⟩
  have p7d : w6.cell? ⟨f, 7, none⟩ = some (.int .i64 c.size) := by rw [← hw6]; exact p7
  have e7d : w6.frozen? ⟨f, 7, none⟩ = false := by rw [← hw6]; exact e7
  have hA6 := A1.out.only (w' := w6) (X := fun _ => False) (Only.of_below (by rw [← hw6]; exact (Below.refl _ _).drew)) (fun _ h => h.elim)
  rw [hw6]
  obtain ⟨hA7, hO7⟩ := sized hA6 HT0.out c.size
  obtain ⟨w7, hw7⟩ : ∃ w7, w6.setCell ⟨f, 7, none⟩ (.int .i64 c.size) = w7 := ⟨_, rfl⟩
  rw [hw7] at hA7 hO7
  have hff : F f := HFT.out f ⟨[], r0, H0.out, .inl HT.out.a0⟩
  have hO5 : Only F w w5 := (Only.of_below (S := F) HBEL.out).trans A2.out (fun _ h => h) (fun j hj e => by
    rcases e with e | e | e
    · exact HFT.out j ⟨d, dn, HDN.out, .inl e.symm⟩
    · exact HFT.out j ⟨d, dn, HDN.out, .inr (.inl e)⟩
    · rw [e]; exact hff)
  have hO7' : Only F w w7 := (hO5.trans (Only.of_below (S := F) (b := w6) (by rw [← hw6]; exact (Below.refl _ _).drew)) (fun _ h => h) (fun _ _ h => h)).trans hO7 (fun _ h => h) (fun j _ e => by rw [e]; exact hff)
  obtain ⟨va, vc, w8, hrun, hrow, hb8⟩ := app_bytes HBN.out (HBIN.out.only hO7' hba) (by rw [HBN.out]; exact hbl)
  have hA8 := hA7.only (w' := w8) (X := fun _ => False) (Only.of_below hb8) (fun _ h => h.elim)
  have hn8 := hA8.blk _ _ HTL.out
  rw [graft_self, graft_self, graft_self] at hn8
  have s1 : w8.cell? ⟨nb, 1, none⟩ = some (.slice none 0 0) := cell_of hn8 1
  have t1 := free_of hn8 1
  have HRUN := Lib.hid hrun
  have HROW := Lib.hid hrow
  have HB8 := Lib.hid hb8
  have HA8 := Lib.hid hA8
  have HA7 := Lib.hid hA7
  have HO7 := Lib.hid hO7'
  have HW7 := Lib.hid hw7
  have hnf : nb ≠ f := by have := hO5.size; have := HT.out.lt ⟨[], r0, H0.out, .inl HT.out.a0⟩; omega
  have hfn : f ≠ nb := fun e => hnf e.symm
  clear hw7 hrun hrow hb8 hA8 hn8 hA7 hO7 hO7' hO5 hA6 hw6 p7 e7 p1 e1
  go_wp2_with (at_builtin; rw [HW7.out]; refine wpList_run_append _ rfl _ _ 41 41 rfl _ _ rfl rfl HRUN.out ?_)
  have hset := set_of (HA8.out.blk _ _ HTL.out) 1 (.slice va bn vc)
  rw [graft_self] at hset
  obtain ⟨w9, hw9⟩ : ∃ w9, w8.setCell ⟨nb, 1, none⟩ (.slice va bn vc) = w9 := ⟨_, rfl⟩
  rw [hw9] at hset ⊢
  have hO9 : Only (fun j => j = nb) w8 w9 := by rw [← hw9]; exact (Only.refl (fun j => j = nb) _).set (.inl rfl) 1 _
  have hnb8 : nb < w7.heap.size := by have := blk_lt (HA7.out.blk _ _ HTL.out); rw [graft_self] at this; exact this
  have hO79 : Only (fun j => j = nb) w7 w9 := (Only.of_below (S := fun j => j = nb) HB8.out).trans hO9 (fun _ h => h) (fun _ _ h => h)
  have hrow9 : w9.ownsRow w7.heap.size 5 1 (.slice va bn vc) bn (u8s bl) := row_only HROW.out fun g hg _ => by
    rw [← hw9]
    exact Below.heap_setCell _ _ _ _ (fun e => by have := row_ge HROW.out hg; have e : g = nb := e; omega)
  have hB7 : B ≤ w7.heap.size := by have := HO7.out.size; omega
  have hA9 := HA7.out.setNode (w' := w9) (n' := ⟨true, bl, 0⟩) (by decide) HTL.out rfl (.slice va bn vc) hO79 (fun j e => .inl (by rw [graft_self]; exact e)) (by rw [graft_self]; exact hset) (by rw [HBN.out]; exact row_base hrow9 hB7) (fun b e => .inr (row_ge HROW.out e))
  have HT9 : Hid (setF (graftF T (d ++ [k]) (leafT ⟨true, [], 0⟩)) (d ++ [k]) (some ⟨true, bl, 0⟩) [] = some r0) := by
    rw [Hid, setF_other _ _ (by simp)]; exact HT0.out
  have hr9 := hA9.rootBlk HT9.out
  have p7' : w9.cell? ⟨f, 7, none⟩ = some (.int .i64 c.size) := cell_of hr9 7
  have e7' := free_of hr9 7
  have p1' : w9.cell? ⟨nb, 1, none⟩ = some (.slice va bn vc) := cell_of hset 1
  have hw3 : IntKind.i64.wrap (c.size + (bn : Int)) = c.size + (bn : Int) := IntWalk.i64_in _ (by omega)
  have HA9 := Lib.hid hA9
  have HO79 := Lib.hid hO79
  clear hA9 hr9 hset hw9 hO9 hrow9 hO79 s1 t1
  go_still_tail 12, (by kernel_rfl)
  change wpList _ _ _ _ _ w9.drew
  obtain ⟨w10, hw10⟩ : ∃ w10, w9.drew = w10 := ⟨_, rfl⟩
  have p7d' : w10.cell? ⟨f, 7, none⟩ = some (.int .i64 c.size) := by rw [← hw10]; exact p7'
  have e7d' : w10.frozen? ⟨f, 7, none⟩ = false := by rw [← hw10]; exact e7'
  have hA10 := HA9.out.only (w' := w10) (X := fun _ => False) (Only.of_below (by rw [← hw10]; exact (Below.refl _ _).drew)) (fun _ h => h.elim)
  have hO10 : Only (fun _ => False) w9 w10 := Only.of_below (by rw [← hw10]; exact (Below.refl _ _).drew)
  rw [hw10]
  obtain ⟨hA11, hO11⟩ := sized hA10 HT9.out (c.size + bn)
  have HST := stamp_any hA11 HT9.out (p := d ++ [k]) (n := ⟨true, bl, 0⟩) (setF_same _ _ _) (by simp) hclock
  rw [graft_self] at HST
  obtain ⟨w11, hw11⟩ : ∃ w11, w10.setCell ⟨f, 7, none⟩ (.int .i64 (c.size + (bn : Int))) = w11 := ⟨_, rfl⟩
  rw [hw11] at HST hO11
  have HW11 := Lib.hid hw11
  have HST := Lib.hid HST
  have HO10 := Lib.hid hO10
  have HO11 := Lib.hid hO11
  clear hA10 hA11 hO10 hO11 hw10 hw11 p7' e7' p1'
  go_wp2_with (go_at_call 36; rw [HW11.out]; refine HST.out.mono ?_; rintro e w12 ⟨rfl, z1, z2⟩; have Z1 := Lib.hid z1; have Z2 := Lib.hid z2; clear z1 z2; simp only [])
  rw [← HQ.out]
  rw [HBN.out]
  have hGL : graftF T (d ++ [k]) (leafT ⟨true, [], 0⟩) = setF T (d ++ [k]) (some ⟨true, [], 0⟩) := HT.out.graft_leaf HX.out _
  have z1 := Z1.out
  rw [hGL, setF_setF, setF_setF] at z1
  have hw7 : w.heap.size ≤ w7.heap.size := HO7.out.size
  refine ⟨rfl, ⟨_, _, _, z1, fun j hj => ?_, r0, ?_, hr0⟩, ?_⟩
  · have hj2 : foot (setF (graftF T (d ++ [k]) (leafT ⟨true, [], 0⟩)) (d ++ [k]) (some ⟨true, bl, c.clock + 1⟩)) (graftF A (d ++ [k]) fun _ => nb) (graftF (setF M d m') (d ++ [k]) fun _ => none) (setF (graftF V (d ++ [k]) fun _ => .slice none 0 0) (d ++ [k]) (.slice va bn vc)) j := by
      rw [hGL, setF_setF]; exact hj
    rcases foot_setV (foot_setT (by rw [graft_self]; rfl) hj2) with e | e
    · rcases foot_graft e with e | e
      · rcases foot_setM e with e | e
        · exact .inl (HFT.out j e)
        · rcases A3.out with e2 | ⟨b, e2, e3⟩
          · exact .inl (HFT.out j ⟨d, dn, HDN.out, .inr (.inl (e2.symm.trans e))⟩)
          · rw [e2] at e; cases e
            exact .inr (Nat.le_trans HBEL.out.size e3)
      · rcases HLF.out j e with e | e
        · exact .inr (by omega)
        · cases e
    · exact .inr (Nat.le_trans hw7 (row_ge HROW.out e))
  · rw [setF_other _ _ (by simp)]; exact H0.out
  · have hff : F f := HFT.out f ⟨[], r0, H0.out, .inl HT.out.a0⟩
    have t9 : Only (fun j => F j ∨ w.heap.size ≤ j) w7 w9 := HO79.out.mono fun j e => .inr (by have e : j = nb := e; omega)
    have t10 : Only (fun j => F j ∨ w.heap.size ≤ j) w9 w10 := HO10.out.mono fun j e => e.elim
    have t11 : Only (fun j => F j ∨ w.heap.size ≤ j) w10 w11 := HO11.out.mono fun j e => .inl (by have e : j = f := e; rw [e]; exact hff)
    have t12 : Only (fun j => F j ∨ w.heap.size ≤ j) w11 w12 := Z2.out.mono fun j e => by
      rcases e with e | e
      · exact .inl (by rw [e]; exact hff)
      · exact .inr (by rw [e]; exact hnbB)
    exact HO7.out.trans (((t9.trans t10 (fun _ h => h) (fun _ _ h => h)).trans t11 (fun _ h => h) (fun _ _ h => h)).trans t12 (fun _ h => h) (fun _ _ h => h)) (fun _ h => h) (fun j hj e => e.resolve_right (by omega))
end Go.Proofs.YtcmjpkfinbakkaaGreatDoor.Vf
