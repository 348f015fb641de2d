import Derived.Test.YtjagnihkpgbjeaaDoorVG
namespace Go.Proofs.YtjagnihkpgbjeaaDoor
open Go.RowKit Go.Maps Go.ChangeMaps
set_option linter.unusedVariables false
/-- A file system's counters. -/
structure Cn where
  nodes : Int
  bytes : Int
  count : Int
  size : Int
  clock : Int
def Cn.tl (c : Cn) : List Value := [.int .i64 c.nodes, .int .i64 c.bytes, .int .i64 c.count, .int .i64 c.size, .int .i64 c.clock]
theorem setF_id {α : Type} (F : Pth → α) (p : Pth) : setF F p (F p) = F := by
  funext q; unfold setF; by_cases h : q = p
  · rw [if_pos h, h]
  · rw [if_neg h]
section
variable {w w' : World} {B N f : Nat} {c : Cn} {T : Tr} {A : Pth → Nat} {M : Pth → Option Nat} {V : Pth → Value}
theorem TreeAt.rootBlk {ty : TypeId} {tl : List Value} (h : TreeAt w B N f ty tl T A M V) {r0 : Nd} (h0 : T [] = some r0) : w.heap[f]? = some (.cells (ndC r0 (V []) (M []) ++ tl).toArray ty (0, 0)) := by
  have := h.blk [] r0 h0
  rw [h.a0] at this
  exact this
theorem stamped {p : Pth} {n r0 : Nd} (hT : TreeAt w B N f 71 c.tl T A M V) (h0 : T [] = some r0) (hp : T p = some n) (hne : p ≠ []) (t : Int) :
    TreeAt ((w.setCell ⟨f, 8, none⟩ (.int .i64 t)).setCell ⟨A p, 2, none⟩ (.int .i64 t)) B N f 71 ({ c with clock := t } : Cn).tl (setF T p (some { n with time := t })) A M V ∧ Only (fun j => j = f ∨ j = A p) w ((w.setCell ⟨f, 8, none⟩ (.int .i64 t)).setCell ⟨A p, 2, none⟩ (.int .i64 t)) := by
  have h1 : TreeAt (w.setCell ⟨f, 8, none⟩ (.int .i64 t)) B N f 71 ({ c with clock := t } : Cn).tl T A M V :=
    hT.setTl h0 _ ((Only.refl (fun k => k = f) w).set (.inl rfl) 8 _) (set_of (hT.rootBlk h0) 8 _) (by decide)
  have h2 := h1.setNode (by decide) hp (n' := { n with time := t }) rfl (V p) ((Only.refl (fun j => j = A p) _).set (.inl rfl) 2 (.int .i64 t)) (fun k e => .inl e) (set_of (h1.blk p n hp) 2 _) (row_only (h1.data p n hp) fun g hg _ => Below.heap_setCell _ _ _ _ (fun e => h1.neAV (by decide) (by rw [hp]; rfl) (by rw [hp]; rfl) hg e.symm)) (fun b e => .inl e)
  rw [setF_id] at h2
  exact ⟨h2, ((Only.refl (fun j => j = f ∨ j = A p) w).set (.inl (.inl rfl)) 8 _).set (.inl (.inr rfl)) 2 _⟩
set_option maxRecDepth 100000 in
set_option maxHeartbeats 1000000 in
theorem stamp_any {p : Pth} {n r0 : Nd} (hT : TreeAt w B N f 71 c.tl T A M V) (h0 : T [] = some r0) (hp : T p = some n) (hne : p ≠ []) (hc : 0 ≤ c.clock ∧ c.clock ≤ 1000000000000) :
    Calls Tryd.prog 41 #[.pointer (some ⟨f, 0, none⟩), .pointer (some ⟨A p, 0, none⟩)] w fun e w' => e = .returned (.tuple #[]) ∧
      TreeAt w' B N f 71 ({ c with clock := c.clock + 1 } : Cn).tl (setF T p (some { n with time := c.clock + 1 })) A M V ∧ Only (fun j => j = f ∨ j = A p) w w' := by
  have HS := Lib.hid (stamped hT h0 hp hne (c.clock + 1))
  have hb := hT.rootBlk h0
  have q8 : w.cell? ⟨f, 8, none⟩ = some (.int .i64 c.clock) := cell_of hb 8
  have f8 := free_of hb 8
  have q2 : w.cell? ⟨A p, 2, none⟩ = some (.int .i64 n.time) := cell_of (hT.blk p n hp) 2
  have f2 := free_of (hT.blk p n hp) 2
  have hfa : A p ≠ f := fun e => hne (hT.injA p [] (by rw [hp]; rfl) (by rw [h0]; rfl) (e.trans hT.a0.symm))
  have hfa' : f ≠ A p := fun e => hfa e.symm
  have hw : IntKind.i64.wrap (c.clock + 1) = c.clock + 1 := IntWalk.i64_in _ (by omega)
  clear hT hb
  go_enter Tryd.func41, Tryd.ntmps41
  go_wp2_with fail
  go_end0
  exact ⟨rfl, HS.out⟩
theorem counted {r0 : Nd} (hT : TreeAt w B N f 71 c.tl T A M V) (h0 : T [] = some r0) (t : Int) :
    TreeAt (w.setCell ⟨f, 6, none⟩ (.int .i64 t)) B N f 71 ({ c with count := t } : Cn).tl T A M V ∧ Only (fun j => j = f) w (w.setCell ⟨f, 6, none⟩ (.int .i64 t)) :=
  ⟨hT.setTl h0 _ ((Only.refl (fun k => k = f) w).set (.inl rfl) 6 _) (set_of (hT.rootBlk h0) 6 _) (by decide), (Only.refl (fun k => k = f) w).set (.inl rfl) 6 _⟩
theorem sized {r0 : Nd} (hT : TreeAt w B N f 71 c.tl T A M V) (h0 : T [] = some r0) (t : Int) :
    TreeAt (w.setCell ⟨f, 7, none⟩ (.int .i64 t)) B N f 71 ({ c with size := t } : Cn).tl T A M V ∧ Only (fun j => j = f) w (w.setCell ⟨f, 7, none⟩ (.int .i64 t)) :=
  ⟨hT.setTl h0 _ ((Only.refl (fun k => k = f) w).set (.inl rfl) 7 _) (set_of (hT.rootBlk h0) 7 _) (by decide), (Only.refl (fun k => k = f) w).set (.inl rfl) 7 _⟩
theorem clocked {r0 : Nd} (hT : TreeAt w B N f 71 c.tl T A M V) (h0 : T [] = some r0) (t : Int) :
    TreeAt (w.setCell ⟨f, 8, none⟩ (.int .i64 t)) B N f 71 ({ c with clock := t } : Cn).tl T A M V ∧ Only (fun j => j = f) w (w.setCell ⟨f, 8, none⟩ (.int .i64 t)) :=
  ⟨hT.setTl h0 _ ((Only.refl (fun k => k = f) w).set (.inl rfl) 8 _) (set_of (hT.rootBlk h0) 8 _) (by decide), (Only.refl (fun k => k = f) w).set (.inl rfl) 8 _⟩
theorem graft_put {tl : List Value} {kb N2 : Nat} {T2 : Tr} {A2 : Pth → Nat} {M2 : Pth → Option Nat} {V2 : Pth → Value} {d : Pth} {s : ByteArray} {dn : Nd} {e : Ending} (h : TreeAt w B N f 71 tl T A M V) (h2 : TreeAt w B N2 kb 69 [] T2 A2 M2 V2) (hN2 : N2 ≤ N + 1)
    (hd : T d = some dn) (hdf : dn.file = false) (hdis : ∀ j, foot T A M V j → ¬ foot T2 A2 M2 V2 j) (hB : B ≤ w.heap.size)
    (hp : PutP (A d) kb N (ndC dn (V d) (M d) ++ tlOf tl d) (tyOf 71 d) (M d) (kidsOf T A d) s w e w') :
    ∃ m', TreeAt w' B (N + 1) f 71 tl (graftF T (d ++ [s.data.toList]) T2) (graftF A (d ++ [s.data.toList]) A2) (graftF (setF M d m') (d ++ [s.data.toList]) M2) (graftF V (d ++ [s.data.toList]) V2) ∧
      Only (fun j => j = A d ∨ M d = some j) w w' ∧ (m' = M d ∨ m' = some w.heap.size) := by
  obtain ⟨_, m', h3, h4, h5, h6⟩ := hp
  refine ⟨m', h.graft h2 hN2 (by decide) hd hdf hdis h5 (fun j e => e) m' h3 h4 ?_ ?_, h5, ?_⟩
  · rcases h6 with ⟨e, _⟩ | ⟨_, e⟩
    · exact .inl e
    · exact .inr fun b hb => by rw [e] at hb; cases hb; exact Nat.le_refl _
  · intro b hb
    rcases h6 with ⟨e, _⟩ | ⟨_, e⟩
    · exact (h.base d dn hd).2 b (e ▸ hb)
    · rw [e] at hb; cases hb; exact hB
  · rcases h6 with ⟨e, _⟩ | ⟨_, e⟩
    · exact .inl e
    · exact .inr e
def AddP (w : World) (B N f : Nat) (c : Cn) (T : Tr) (A : Pth → Nat) (M : Pth → Option Nat) (V : Pth → Value) (T2 : Tr) (A2 : Pth → Nat) (M2 : Pth → Option Nat) (V2 : Pth → Value) (d : Pth) (k : Bz) (e : Ending) (w' : World) : Prop :=
  e = .returned (.tuple #[]) ∧ ∃ m', TreeAt w' B (N + 1) f 71 ({ c with count := c.count + 1 } : Cn).tl (graftF T (d ++ [k]) T2) (graftF A (d ++ [k]) A2) (graftF (setF M d m') (d ++ [k]) M2) (graftF V (d ++ [k]) V2) ∧
    Only (fun j => j = A d ∨ M d = some j ∨ j = f) w w' ∧ (m' = M d ∨ ∃ b, m' = some b ∧ w.heap.size ≤ b)
set_option maxRecDepth 100000 in
set_option maxHeartbeats 1000000 in
theorem add_any {kb N2 : Nat} {T2 : Tr} {A2 : Pth → Nat} {M2 : Pth → Option Nat} {V2 : Pth → Value} {d : Pth} {k : Bz} {dn r0 : Nd} (h : TreeAt w B N f 71 c.tl T A M V) (h2 : TreeAt w B N2 kb 69 [] T2 A2 M2 V2) (hN2 : N2 ≤ N + 1) (h0 : T [] = some r0)
    (hd : T d = some dn) (hdf : dn.file = false) (hdis : ∀ j, foot T A M V j → ¬ foot T2 A2 M2 V2 j) (hB : B ≤ w.heap.size) (hk : k.length ≤ maxLen) (hN : N < maxLen) (hc : 0 ≤ c.count ∧ c.count ≤ 1000000000000) (nv sv : Value) (o3 : Option Addr) (hnv : nv = .pointer o3) (a4 : Option Addr) (l4 c4 : Nat) (hsv : sv = .slice a4 l4 c4) :
    Calls Tryd.prog 40 #[.pointer (some ⟨f, 0, none⟩), spotV (.pointer (some ⟨A d, 0, none⟩)) ⟨k.toArray⟩ nv sv, .pointer (some ⟨kb, 0, none⟩)] w (AddP w B N f c T A M V T2 A2 M2 V2 d k) := by
  subst hnv; subst hsv
  obtain ⟨w0, hw0⟩ : ∃ w0, w.alloc (.cells #[.pointer (some ⟨A d, 0, none⟩), .string ⟨k.toArray⟩, .pointer o3, .slice a4 l4 c4] 74) = w0 := ⟨_, rfl⟩
  have hbel : Below w.heap.size w w0 := by rw [← hw0]; exact (Below.refl _ _).alloc (Nat.le_refl _) _
  have hsz : w0.heap.size = w.heap.size + 1 := by rw [← hw0]; simp
  have hT0 := h.only (X := fun _ => False) (Only.of_below hbel) (fun _ h => h.elim)
  have h20 := h2.only (X := fun _ => False) (Only.of_below hbel) (fun _ h => h.elim)
  have HP := Lib.hid (put_any (A d) kb N (ndC dn (V d) (M d) ++ tlOf c.tl d) (tyOf 71 d) (M d) (kidsOf T A d) ⟨k.toArray⟩ w0 (hT0.blk d dn hd) rfl (hT0.kids d dn hd) (by simpa [ByteArray.size] using hk) hN)
  obtain ⟨Q, hQ⟩ : ∃ Q, AddP w B N f c T A M V T2 A2 M2 V2 d k = Q := ⟨_, rfl⟩
  rw [hQ]
  have HQ := Lib.hid hQ
  have HT0 := Lib.hid hT0
  have H20 := Lib.hid h20
  have HDIS := Lib.hid hdis
  have HBEL := Lib.hid hbel
  have H0 : Hid (graftF T (d ++ [k]) T2 [] = some r0) := by
    rw [Hid, graftF_out _ _ _ (fun e => by have := e.length_le; simp at this)]
    exact h0
  have hw : IntKind.i64.wrap (c.count + 1) = c.count + 1 := IntWalk.i64_in _ (by omega)
  have HW := Lib.hid hw0
  have HD := Lib.hid hd
  have hBz : B ≤ w0.heap.size := by omega
  clear h h2 h0 hdis hQ hT0 h20 hbel hw0 hd
  simp only [spotV]
  go_enter Tryd.func40, Tryd.ntmps40
  go_wp2_with (go_at_call 67; rw [HW.out]; refine HP.out.mono ?_; rintro e w2 hput; obtain ⟨m', g1, g2, g3⟩ := graft_put HT0.out H20.out hN2 HD.out hdf HDIS.out hBz hput; obtain ⟨rfl, _⟩ := hput; have G1 := Lib.hid g1; have G2 := Lib.hid g2; have G3 := Lib.hid g3; have q6 : w2.cell? ⟨f, 6, none⟩ = some (.int .i64 c.count) := cell_of (g1.rootBlk H0.out) 6; have f6 := free_of (g1.rootBlk H0.out) 6; clear g1 g2 g3; simp only [])
  go_end0
  rw [← HQ.out]
  have hc1 := counted G1.out H0.out (c.count + 1)
  refine ⟨rfl, m', hc1.1, ?_, ?_⟩
  · refine ((Only.of_below (S := fun j => j = A d ∨ M d = some j ∨ j = f) HBEL.out).trans (G2.out.trans (T := fun j => j = A d ∨ M d = some j ∨ j = f) hc1.2 (fun j e => ?_) (fun j _ e => .inr (.inr e))) (fun _ h => h) (fun _ _ h => h))
    rcases e with e | e
    · exact .inl e
    · exact .inr (.inl e)
  · rcases G3.out with e | e
    · exact .inl e
    · exact .inr ⟨_, e, by omega⟩
end
end Go.Proofs.YtjagnihkpgbjeaaDoor
