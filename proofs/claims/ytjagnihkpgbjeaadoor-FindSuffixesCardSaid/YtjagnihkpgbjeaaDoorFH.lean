import Derived.Test.YtjagnihkpgbjeaaDoorGF
import Derived.Test.YtjagnihkpgbjeaaDoorZB
import Derived.Lib.ReplaceLaws
import Derived.Lib.CountLaws
import Derived.Lib.IndexMore
import Derived.Maps.Own
import Derived.Maps.OwnOps
namespace Go.Proofs.YtjagnihkpgbjeaaDoor
open Go.RowKit Go.Maps Go.ChangeMaps
set_option linter.unusedVariables false
/-! Plan where no pattern and no suffix counts. -/
structure Pl where
  ns : List Bs
  rc : List Bs
  rule : Bool
def planL (P : List Rl) : Pl := P.foldl (fun p r => ⟨addF p.ns r.ns, if r.rc = [] then p.rc else r.rc, true⟩) ⟨[], [], false⟩
theorem planL_take (P : List Rl) (k : Nat) (h : k < P.length) : planL (P.take (k + 1)) = ⟨addF (planL (P.take k)).ns P[k].ns, if P[k].rc = [] then (planL (P.take k)).rc else P[k].rc, true⟩ := by
  unfold planL
  rw [List.take_succ_eq_append_getElem h, List.foldl_append]
  rfl
theorem planL_ns : ∀ (P : List Rl) (p : Pl), (∀ r ∈ P, r.ns.length ≤ 100) → (P.foldl (fun p r => (⟨addF p.ns r.ns, if r.rc = [] then p.rc else r.rc, true⟩ : Pl)) p).ns.length ≤ p.ns.length + P.length * 100
  | [], p, _ => by simp
  | r :: P, p, h => by
    have ih := planL_ns P ⟨addF p.ns r.ns, if r.rc = [] then p.rc else r.rc, true⟩ (fun x hx => h x (List.mem_cons_of_mem _ hx))
    have e1 := addF_len r.ns p.ns
    have e2 := h r List.mem_cons_self
    rw [List.foldl_cons]
    simp only [List.length_cons] at ih ⊢
    omega
theorem SlS.only2 {w w' : World} {v : Value} {l : List Bs} {F : Nat → Prop} (h : SlS w v l) (ho : Only F w w') (hf : ∀ g, g < w.heap.size → v.ownBlock = some g → ¬ F g) : SlS w' v l := by
  rcases h with h | ⟨g, off, c, rfl, h1, h2, h3, h4⟩
  · exact .inl h
  · refine .inr ⟨g, off, c, rfl, h1, h2, Nat.lt_of_lt_of_le h3 ho.size, fun i hi => ?_⟩
    have hb := ho.block g h3 (hf g h3 rfl)
    have := h4 i hi
    simp only [World.cell?] at this ⊢
    rw [hb]; exact this
/-- Behind the first k rules: the plan's box at b9, all else as it was. -/
structure PR (w w1 wr : World) (b9 : Nat) (p : Pl) : Prop where
  blk : ∃ a0 n0 c0 a1 n1 c1, wr.heap[b9]? = some (.cells [.slice a0 n0 c0, .slice a1 n1 c1, .string ⟨#[]⟩, .bool p.rule].toArray 50 (0, 0)) ∧ wr.ownsRow w1.heap.size 9 1 (.slice a0 n0 c0) p.ns.length (p.ns.map encStr) ∧ SlS w (.slice a1 n1 c1) p.rc
  oth : Only (fun j => j = b9) w1 wr
  lk : p.rc.length ≤ 100000
theorem Ro.get3 {wb W0 w1 wr : World} {a : Option Addr} {n c : Nat} {L : List Rl} (h : Ro wb W0 w1 (.slice a n c) L) {F : Nat → Prop} (ho : Only F w1 wr) (hF : ∀ j, F j → j < W0.heap.size) (k : Nat) (hk : k < L.length) :
    ∃ g a0 n0 c0 a1 n1 c1 a2 n2 c2, a = some ⟨g, 0, none⟩ ∧ wr.cell? ⟨g, k * 3, none⟩ = some (.slice a0 n0 c0) ∧ wr.cell? ⟨g, k * 3 + 1, none⟩ = some (.slice a1 n1 c1) ∧ wr.cell? ⟨g, k * 3 + 2, none⟩ = some (.slice a2 n2 c2) ∧ Rl3 wb (.slice a0 n0 c0) (.slice a1 n1 c1) (.slice a2 n2 c2) L[k] := by
  obtain ⟨cs, hl, how, hr⟩ := h.own
  have hkc : k < cs.length := by omega
  have hr := hr k hk hkc
  obtain ⟨a0, n0, c0, e0⟩ := sl_form hr.t
  obtain ⟨a1, n1, c1, e1⟩ := sn_form hr.n
  obtain ⟨a2, n2, c2, e2⟩ := sl_form hr.k
  rcases how.2 with ⟨h1, h0⟩ | ⟨b, cap, cur, h1, h2, h3, h4, h5, h6⟩
  · rw [h0] at hk; simp at hk
  · injection h1 with h1 h1b h1c
    subst h1
    have hb := ho.block b (Array.getElem?_eq_some_iff.1 h3).1 (fun e => by have := hF b e; omega)
    have hc : ∀ i, wr.cell? ⟨b, i, none⟩ = w1.cell? ⟨b, i, none⟩ := fun i => by simp only [World.cell?, hb]
    have e := tri_at cs k hkc
    subst h1b
    subst h1c
    refine ⟨b, a0, n0, c0, a1, n1, c1, a2, n2, c2, rfl, ?_, ?_, ?_, by rw [← e0, ← e1, ← e2]; exact hr⟩
    · rw [hc, World.ownsRow.cellAt how (k * 3) (by omega), e.1, e0]
    · rw [hc, World.ownsRow.cellAt how (k * 3 + 1) (by omega), e.2.1, e1]
    · rw [hc, World.ownsRow.cellAt how (k * 3 + 2) (by omega), e.2.2, e2]
theorem own_onlyX {w w' : World} {B e sz n : Nat} {v : Value} {xs : List Value} {F : Nat → Prop} (h : w.ownsRow B e sz v n xs) (ho : Only F w w') (hF : ∀ j, F j → j < B) : w'.ownsRow B e sz v n xs := by
  refine ⟨h.1, ?_⟩
  rcases h.2 with hn | ⟨g, cap, cur, rfl, h1, h2, r⟩
  · exact .inl hn
  · exact .inr ⟨g, cap, cur, rfl, h1, (ho.block g (Array.getElem?_eq_some_iff.1 h2).1 (fun e => by have := hF g e; omega)).trans h2, r⟩
def PlanP (p : Pl) (w : World) (e : Ending) (w' : World) : Prop := ∃ nv rv, e = .returned (.agg #[nv, rv, .string ⟨#[]⟩, .bool p.rule]) ∧ SlS w' nv p.ns ∧ SlS w' rv p.rc ∧ Below w.heap.size w w' ∧ ∀ g, nv.ownBlock = some g → w.heap.size ≤ g
/-- The step of Plan's loop: what stands before the call of add. -/
theorem PR.pre {w w1 wr : World} {b9 : Nat} {p : Pl} (h : PR w w1 wr b9 p) (hb9 : b9 < w1.heap.size) (o : Obj) : Only (fun j => j = b9) w1 ((wr.alloc o).setCell ⟨b9, 3, none⟩ (.bool true)) :=
  (h.oth.trans (Only.of_below (S := fun j => j = b9) (below_alloc wr o)) (fun _ h => h) (fun _ _ h => h)).set (.inl rfl) 3 _
/-- The end of Plan: the copy of the recipe stored, the plan handed on. -/
structure PFin (w w8 : World) (b8 b9 : Nat) (nv v' : Value) (ns rc : List Bs) (rule : Bool) : Prop where
  n : SlS w8 nv ns
  r : SlS w8 v' rc
  blk : w8.heap[b8]? = some (.cells [nv, v', .string ⟨#[]⟩, .bool rule].toArray 50 (0, 0))
  old : Below w.heap.size w w8
  nb : ∀ g, nv.ownBlock = some g → w.heap.size ≤ g
theorem plan_fin {w w1 wr w7 : World} {b9 : Nat} {P : List Rl} {x0 x1 : Option Addr} {xn0 xc0 xn1 xc1 : Nat} {v' : Value}
    (hown : wr.ownsRow w1.heap.size 9 1 (.slice x0 xn0 xc0) (planL P).ns.length ((planL P).ns.map encStr)) (hblk : wr.heap[b9]? = some (.cells [.slice x0 xn0 xc0, .slice x1 xn1 xc1, .string ⟨#[]⟩, .bool (planL P).rule].toArray 50 (0, 0)))
    (hz8 : wr.heap[w.heap.size + 1]? = some (.cells [.slice none 0 0, .slice none 0 0, .string ⟨#[]⟩, .bool false].toArray 50 (0, 0))) (hBW : Below w.heap.size w wr) (h89 : w.heap.size + 1 < b9) (hne : w.heap.size + 1 ≠ b9) (hlt9 : b9 < w1.heap.size) (hw1 : w.heap.size ≤ w1.heap.size) (hoth : Only (fun j => j = b9) w1 wr)
    (hb : Below wr.heap.size wr w7) (hv : SlS w7 v' (planL P).rc) :
    w7.heap[b9]? = some (.cells [.slice x0 xn0 xc0, .slice x1 xn1 xc1, .string ⟨#[]⟩, .bool (planL P).rule].toArray 50 (0, 0)) ∧ w7.heap[w.heap.size + 1]? = some (.cells [.slice none 0 0, .slice none 0 0, .string ⟨#[]⟩, .bool false].toArray 50 (0, 0)) ∧
    ((∀ g, v'.ownBlock = some g → g ≠ b9 ∧ g ≠ w.heap.size + 1) → PFin w (((((w7.setCell ⟨b9, 1, none⟩ v').setCell ⟨w.heap.size + 1, 0, none⟩ (.slice x0 xn0 xc0)).setCell ⟨w.heap.size + 1, 1, none⟩ v').setCell ⟨w.heap.size + 1, 2, none⟩ (.string ⟨#[]⟩)).setCell ⟨w.heap.size + 1, 3, none⟩ (.bool (planL P).rule)) (w.heap.size + 1) b9 (.slice x0 xn0 xc0) v' (planL P).ns (planL P).rc (planL P).rule) := by
  have l9 := (Array.getElem?_eq_some_iff.1 hblk).1
  have l8 := (Array.getElem?_eq_some_iff.1 hz8).1
  have e9 := (hb.block _ l9).trans hblk
  have e8 := (hb.block _ l8).trans hz8
  refine ⟨e9, e8, fun hsep => ?_⟩
  have hO : Only (fun j => j = b9 ∨ j = w.heap.size + 1) w7 (((((w7.setCell ⟨b9, 1, none⟩ v').setCell ⟨w.heap.size + 1, 0, none⟩ (.slice x0 xn0 xc0)).setCell ⟨w.heap.size + 1, 1, none⟩ v').setCell ⟨w.heap.size + 1, 2, none⟩ (.string ⟨#[]⟩)).setCell ⟨w.heap.size + 1, 3, none⟩ (.bool (planL P).rule)) :=
    ((((Only.refl (fun j => j = b9 ∨ j = w.heap.size + 1) w7).set (.inl (.inl rfl)) 1 _).set (.inl (.inr rfl)) 0 _).set (.inl (.inr rfl)) 1 _).set (.inl (.inr rfl)) 2 _ |>.set (.inl (.inr rfl)) 3 _
  have hb8 : (w7.setCell ⟨b9, 1, none⟩ v').heap[w.heap.size + 1]? = some (.cells [.slice none 0 0, .slice none 0 0, .string ⟨#[]⟩, .bool false].toArray 50 (0, 0)) := by
    rw [Below.heap_setCell _ _ _ _ (by show w.heap.size + 1 ≠ b9; exact hne)]; exact e8
  have hB7 : Below w.heap.size w w7 := hBW.trans (hb.mono hBW.size)
  refine ⟨?_, hv.only2 hO (fun g _ hg e => by rcases e with e | e; exact (hsep g hg).1 e; exact (hsep g hg).2 e), fin50 hb8 _ _ _ _, hB7.trans (hO.below (fun k hk => by rcases hk with rfl | rfl <;> omega) hB7.size), fun g hg => Nat.le_trans hw1 (hown.lt g hg).1⟩
  have hsn : SlS w7 (.slice x0 xn0 xc0) (planL P).ns := (SlS.own hown).below hb
  refine hsn.only2 hO (fun g hgl hg e => ?_)
  have hge := (hown.lt g hg).1
  rcases e with e | e <;> omega
set_option maxRecDepth 100000 in
set_option maxHeartbeats 8000000 in
theorem Plan_plain (f : Nat) (cwd tg : ByteArray) (ms v : Value) (rs : List Rl) (w : World) (hv : RsV w v rs) (hl : rs.length ≤ 1000) (hfew : ∀ r ∈ rs, r.ns.length ≤ 100) (htg : tg.data.toList.head? ≠ some 46) (hms : ∃ a n c, ms = .slice a n c)
    (hrc : (planL (plainF rs tg.data.toList)).rc ≠ [] ∨ ∀ r ∈ rs, r.rc = []) :
    Calls Tryd.prog 27 #[.agg #[ms, v], .pointer (some ⟨f, 0, none⟩), .string cwd, .string tg] w (PlanP (planL (plainF rs tg.data.toList)) w) := by
  obtain ⟨am, nm, cm, rfl⟩ := hms
  obtain ⟨xl, hxl⟩ : ∃ xl, tg.data.toList = xl := ⟨_, rfl⟩
  have HSP := Lib.hid (fun w => special_no tg w htg)
  have HPL := Lib.hid (fun (w' : World) (hb : Below w.heap.size w w') => plain_any (.slice am nm cm) v rs tg w w' hv hb hl)
  unfold PlainP at HPL
  rw [hxl] at hrc HPL ⊢
  have HLP := Lib.hid (Nat.le_trans (plain_len rs xl) hl)
  have HFW : Hid (∀ r ∈ plainF rs xl, r.ns.length ≤ 100) := fun r hr => hfew r (List.mem_filter.1 hr).1
  obtain ⟨P, hP⟩ : ∃ P, plainF rs xl = P := ⟨_, rfl⟩
  rw [hP] at hrc HPL HLP HFW ⊢
  have HRC := Lib.hid hrc
  have HRN := Lib.hid (fun (sb : Nat) (w' : World) (hb : Below w.heap.size w w') (h : ∀ r ∈ rs, r.rc = []) (hlt : sb < w'.heap.size) (q0 : w'.cell? ⟨sb, 0, none⟩ = some (.slice am nm cm)) (q1 : w'.cell? ⟨sb, 1, none⟩ = some v) => run_none sb (.slice am nm cm) v rs w' (hv.below hb) hl h hlt q0 q1 rfl)
  obtain ⟨Q, hQ⟩ : ∃ Q, PlanP (planL P) w = Q := ⟨_, rfl⟩
  rw [hQ]
  have HQ := Lib.hid hQ
  obtain ⟨a, n0, c, rfl⟩ : ∃ a n c, v = .slice a n c := by obtain ⟨a, c, rfl⟩ := hv.len; exact ⟨_, _, _, rfl⟩
  obtain ⟨W0, hW0⟩ : ∃ W0, ((w.alloc (.cells #[.slice am nm cm, .slice a n0 c] 45)).alloc (.cells #[.slice none 0 0, .slice none 0 0, .string ⟨#[]⟩, .bool false] 50)).alloc (.cells #[.slice none 0 0, .slice none 0 0, .string ⟨#[]⟩, .bool false] 50) = W0 := ⟨_, rfl⟩
  have HW0 := Lib.hid hW0
  clear hv hfew htg hrc hxl hP hQ hl hW0
  go_enter Tryd.func27, Tryd.ntmps27
  go_wp2_with (go_at_call 50; refine (HSP.out _).mono ?_; rintro e w1 ⟨rfl, h1⟩; obtain rfl := h1.symm; simp only [])
  go_wp2_with fail
  rw [HW0.out]
  have hB0 : Below w.heap.size w W0 := by
    rw [← HW0.out]
    exact below_trans (below_alloc _ _) (below_trans (below_alloc _ _) (below_alloc _ _))
  have hs0 : W0.heap.size = w.heap.size + 1 + 1 + 1 := by rw [← HW0.out, size_alloc, size_alloc, size_alloc]
  have z9 : W0.heap[w.heap.size + 1 + 1]? = some (.cells [.slice none 0 0, .slice none 0 0, .string ⟨#[]⟩, .bool false].toArray 50 (0, 0)) := by
    rw [← HW0.out]
    have := heap_alloc_new ((w.alloc (.cells #[.slice am nm cm, .slice a n0 c] 45)).alloc (.cells #[.slice none 0 0, .slice none 0 0, .string ⟨#[]⟩, .bool false] 50)) (.cells #[.slice none 0 0, .slice none 0 0, .string ⟨#[]⟩, .bool false] 50)
    rw [size_alloc, size_alloc] at this
    exact this
  have z8 : W0.heap[w.heap.size + 1]? = some (.cells [.slice none 0 0, .slice none 0 0, .string ⟨#[]⟩, .bool false].toArray 50 (0, 0)) := by
    rw [← HW0.out, Below.heap_alloc _ _ _ (by rw [size_alloc, size_alloc]; omega)]
    have := heap_alloc_new (w.alloc (.cells #[.slice am nm cm, .slice a n0 c] 45)) (.cells #[.slice none 0 0, .slice none 0 0, .string ⟨#[]⟩, .bool false] 50)
    rw [size_alloc] at this
    exact this
  have z4 : W0.heap[w.heap.size]? = some (.cells #[.slice am nm cm, .slice a n0 c] 45) := by
    rw [← HW0.out, Below.heap_alloc _ _ _ (by rw [size_alloc, size_alloc]; omega), Below.heap_alloc _ _ _ (by rw [size_alloc]; omega)]
    exact heap_alloc_new w _
  have HB0 := Lib.hid hB0
  have HS0 := Lib.hid hs0
  have HZ9 := Lib.hid z9
  have HZ8 := Lib.hid z8
  have HZ4 := Lib.hid z4
  clear hB0 hs0 z9 z8 z4
  refine (HPL.out _ HB0.out).mono ?_
  rintro e w1 ⟨u, rfl, h1⟩
  have H1 := Lib.hid h1
  obtain ⟨ua, uc, hu⟩ := (h1.rsv HB0.out).len
  rw [hu] at H1 ⊢
  clear h1 hu
  obtain ⟨n, hn⟩ : ∃ n, P.length = n := ⟨_, rfl⟩
  rw [hn] at HLP H1
  simp only [hn]
  have HN := Lib.hid hn
  have hnl : n ≤ 1000 := HLP.out
  obtain ⟨b9, hb9⟩ : ∃ b9, w.heap.size + 1 + 1 = b9 := ⟨_, rfl⟩
  rw [hb9] at HZ9
  have HB9 : Hid (b9 < W0.heap.size) := by have := HS0.out; rw [Hid]; omega
  have HB91 : Hid (b9 < w1.heap.size) := Nat.lt_of_lt_of_le HB9.out H1.out.old.size
  have HPR0 : Hid (PR w w1 w1 b9 ⟨[], [], false⟩) := ⟨⟨none, 0, 0, none, 0, 0, (H1.out.old.block _ HB9.out).trans HZ9.out, World.ownsRow_nil _ _ _ _, sl0 _⟩, Only.refl _ _, by simp⟩
  clear hn
  simp only [hb9]
  go_wp2_with fail
  go_loopw [22] (fun i wr => ∃ k : Nat, k ≤ n ∧ i = .int .i64 k ∧ Hid (PR w w1 wr b9 (planL (P.take k)))) (fun i _ => n - (intOf i).toNat)
  case atStart => exact ⟨0, Nat.zero_le _, rfl, HPR0.out⟩
  case round =>
    clear HPR0
    obtain ⟨k, hk, rfl, HX⟩ := hrel
    by_cases hlt : k < n
    · have hltI : (k : Int) < (n : Int) := by omega
      have h0 : (0 : Int) ≤ (k : Int) := by omega
      have hlr : k < P.length := by rw [HN.out]; exact hlt
      obtain ⟨g, a0, n0, c0, a1, n1, c1, a2, n2, c2, rfl, q0, q1, q2, hr⟩ := H1.out.get3 HX.out.oth (fun j hj => hj ▸ HB9.out) k hlr
      have hadd : (⟨g, 0, none⟩ : Addr).add (k * 3) = ⟨g, k * 3, none⟩ := by rw [addk, Nat.zero_add]
      obtain ⟨x0, xn0, xc0, x1, xn1, xc1, hblk, hown, hrv⟩ := HX.out.blk
      have hba := below_alloc wr (.cells #[.slice a0 n0 c0, .slice a1 n1 c1, .slice a2 n2 c2] 48)
      obtain ⟨z0, z1, z2, z3, y0, y1, y2, y3⟩ := box50 ((hba.block _ (Array.getElem?_eq_some_iff.1 hblk).1).trans hblk)
      have hne : b9 ≠ wr.heap.size := by have := (Array.getElem?_eq_some_iff.1 hblk).1; omega
      have hne' : wr.heap.size ≠ b9 := fun e => hne e.symm
      have hno : wr.heap.size ≠ b9 := fun e => hne e.symm
      have HBW1 : Hid (Below w.heap.size w w1) := HB0.out.trans (H1.out.old.mono HB0.out.size)
      have hwb9 : w.heap.size ≤ b9 := by omega
      have h15 := HX.out.pre HB91.out (.cells #[.slice a0 n0 c0, .slice a1 n1 c1, .slice a2 n2 c2] 48)
      have h25 : Only (fun j => j = b9) wr ((wr.alloc (.cells #[.slice a0 n0 c0, .slice a1 n1 c1, .slice a2 n2 c2] 48)).setCell ⟨b9, 3, none⟩ (.bool true)) := (Only.of_below (S := fun j => j = b9) hba).set (.inl rfl) 3 _
      have hblk5 := set_of ((hba.block _ (Array.getElem?_eq_some_iff.1 hblk).1).trans hblk) 3 (.bool true)
      have hbox5 : ((wr.alloc (.cells #[.slice a0 n0 c0, .slice a1 n1 c1, .slice a2 n2 c2] 48)).setCell ⟨b9, 3, none⟩ (.bool true)).heap[wr.heap.size]? = some (.cells [.slice a0 n0 c0, .slice a1 n1 c1, .slice a2 n2 c2].toArray 48 (0, 0)) := by
        rw [Below.heap_setCell _ _ _ _ (by show wr.heap.size ≠ b9; exact hno)]; exact heap_alloc_new wr _
      obtain ⟨W5, hW5⟩ : ∃ W5, (wr.alloc (.cells #[.slice a0 n0 c0, .slice a1 n1 c1, .slice a2 n2 c2] 48)).setCell ⟨b9, 3, none⟩ (.bool true) = W5 := ⟨_, rfl⟩
      rw [hW5] at h15 h25 hblk5 hbox5
      have hs5 : wr.heap.size < W5.heap.size := (Array.getElem?_eq_some_iff.1 hbox5).1
      have hown5 := own_onlyX hown h25 (fun j hj => hj ▸ HB91.out)
      have hSge : ∀ j, Value.ownBlock (.slice x0 xn0 xc0) = some j → w1.heap.size ≤ j ∧ j < wr.heap.size := fun j hj => hown.lt j hj
      have hB15 : Below w.heap.size w W5 := HBW1.out.trans (h15.below (fun k hk => by subst hk; exact hwb9) HBW1.out.size)
      have hns := HFW.out P[k] (List.getElem_mem hlr)
      have HPN : Hid ((planL (P.take k)).ns.length ≤ 200000) := by
        have := planL_ns (P.take k) ⟨[], [], false⟩ (fun r hr => HFW.out r (List.mem_of_mem_take hr))
        have e2 : (P.take k).length ≤ 1000 := by simp; omega
        refine Nat.le_trans this ?_
        show 0 + _ ≤ _
        omega
      have HADD := Lib.hid (addS_any w1.heap.size (fun j => Value.ownBlock (.slice x0 xn0 xc0) = some j) (.slice x0 xn0 xc0) (.slice a1 n1 c1) _ P[k].ns W5 h15.size hown5 (fun _ h => h) (fun w' ho => hr.n.below (hB15.trans (ho.below (fun k hk => Nat.le_trans HBW1.out.size (hSge k hk).1) hB15.size))) (by have := HPN.out; omega))
      have HT := Lib.hid (planL_take P k hlr)
      have HAFT := Lib.hid (fun (w6 : World) (v' : Value) (h : AddSR w1.heap.size (fun j => Value.ownBlock (.slice x0 xn0 xc0) = some j) W5 w6 v' (addF (planL (P.take k)).ns P[k].ns)) => (show w6.heap[b9]? = some (.cells [.slice x0 xn0 xc0, .slice x1 xn1 xc1, .string ⟨#[]⟩, .bool true].toArray 50 (0, 0)) ∧ w6.heap[wr.heap.size]? = some (.cells [.slice a0 n0 c0, .slice a1 n1 c1, .slice a2 n2 c2].toArray 48 (0, 0)) ∧ Only (fun j => j = b9) w1 w6 from
        ⟨(h.oth.block b9 (Array.getElem?_eq_some_iff.1 hblk5).1 (fun e => by have := (hSge b9 e).1; have := HB91.out; omega)).trans hblk5,
         (h.oth.block wr.heap.size hs5 (fun e => by have := (hSge _ e).2; omega)).trans hbox5,
         h15.trans h.oth (fun _ h => h) (fun i hi e => by have := (hSge i e).1; omega)⟩))
      have HR3 := Lib.hid hr
      have HRV := Lib.hid hrv
      have HW5 := Lib.hid hW5
      obtain ⟨rn, hrn⟩ : ∃ rn, P[k].rc.length = rn := ⟨_, rfl⟩
      have hn2 : n2 = rn := by
        obtain ⟨a', c', e⟩ := hr.k.len
        rw [hrn] at e
        injection e
      subst hn2
      have HRNN := Lib.hid hrn
      clear hr hrv hown hown5 hSge hB15 h15 h25 hblk hblk5 hbox5 hs5 hba hns hrn
      by_cases hr0 : n2 = 0
      · subst hr0
        have HN3 : Hid (planL (P.take (k + 1)) = ⟨addF (planL (P.take k)).ns P[k].ns, (planL (P.take k)).rc, true⟩) := by rw [Hid, HT.out, if_pos (List.eq_nil_of_length_eq_zero HRNN.out)]
        clear hW5
        go_wp2_with fail
        rw [HW5.out]
        refine HADD.out.mono ?_
        rintro e w6 ⟨v', rfl, ha⟩
        obtain ⟨f1, f2, f3⟩ := HAFT.out w6 v' ha
        obtain ⟨e0, e1, e2, e3, i0, i1, i2, i3⟩ := box50 f1
        have j2 : w6.cell? ⟨wr.heap.size, 2, none⟩ = some (.slice a2 0 c2) := cell_of f2 2
        have HA := Lib.hid ha
        have HF1 := Lib.hid f1
        have HF3 := Lib.hid f3
        obtain ⟨va, vn, vc, rfl⟩ := sl_form (SlS.own ha.own)
        clear ha f1 f2 f3
        simp only []
        go_wp2_with fail
        refine ⟨⟨k + 1, by omega, by go_num, ?_⟩, by simp [intOf]; omega⟩
        rw [HN3.out]
        exact ⟨⟨va, vn, vc, x1, xn1, xc1, set_of HF1.out 0 _, own_onlyX HA.out.own ((Only.refl (fun j => j = b9) w6).set (.inl rfl) 0 _) (fun j hj => hj ▸ HB91.out), HRV.out⟩, HF3.out.set (.inl rfl) 0 _, HX.out.lk⟩
      · have hr1 : 0 < n2 := by omega
        have hr1I : (0 : Int) < (n2 : Int) := by omega
        have HN3 : Hid (planL (P.take (k + 1)) = ⟨addF (planL (P.take k)).ns P[k].ns, P[k].rc, true⟩) := by rw [Hid, HT.out, if_neg (fun e => by have := HRNN.out; rw [e] at this; simp at this; omega)]
        clear hW5
        go_wp2_with fail
        rw [HW5.out]
        refine HADD.out.mono ?_
        rintro e w6 ⟨v', rfl, ha⟩
        obtain ⟨f1, f2, f3⟩ := HAFT.out w6 v' ha
        obtain ⟨e0, e1, e2, e3, i0, i1, i2, i3⟩ := box50 f1
        have j2 : w6.cell? ⟨wr.heap.size, 2, none⟩ = some (.slice a2 n2 c2) := cell_of f2 2
        have HA := Lib.hid ha
        have HF1 := Lib.hid f1
        have HF3 := Lib.hid f3
        obtain ⟨va, vn, vc, rfl⟩ := sl_form (SlS.own ha.own)
        clear ha f1 f2 f3
        simp only []
        go_wp2_with fail
        refine ⟨⟨k + 1, by omega, by go_num, ?_⟩, by simp [intOf]; omega⟩
        rw [HN3.out]
        exact ⟨⟨va, vn, vc, a2, n2, c2, set_of (set_of HF1.out 0 _) 1 _, own_onlyX HA.out.own (((Only.refl (fun j => j = b9) w6).set (.inl rfl) 0 _).set (.inl rfl) 1 _) (fun j hj => hj ▸ HB91.out), HR3.out.k⟩, (HF3.out.set (.inl rfl) 0 _).set (.inl rfl) 1 _, HR3.out.lk⟩
    · have hltI : ¬ (k : Int) < (n : Int) := by omega
      have hP : P.take k = P := List.take_of_length_le (by rw [HN.out]; omega)
      have HX2 : Hid (PR w w1 wr b9 (planL P)) := by have := HX.out; rw [hP] at this; exact this
      obtain ⟨x0, xn0, xc0, x1, xn1, xc1, hblk, hown, hrv⟩ := HX2.out.blk
      have HBLK := Lib.hid hblk
      have HOWN := Lib.hid hown
      have HRV := Lib.hid hrv
      have hoth := HX2.out.oth
      have hs1 := H1.out.old.size
      have hs0 := HS0.out
      have hlt9 := HB91.out
      have hz4 : wr.heap[w.heap.size]? = some (.cells [.slice am nm cm, .slice a n0 c].toArray 45 (0, 0)) := (hoth.block _ (by omega) (by omega)).trans ((H1.out.old.block _ (by omega)).trans HZ4.out)
      have hz8 : wr.heap[w.heap.size + 1]? = some (.cells [.slice none 0 0, .slice none 0 0, .string ⟨#[]⟩, .bool false].toArray 50 (0, 0)) := (hoth.block _ (by omega) (by omega)).trans ((H1.out.old.block _ (by omega)).trans HZ8.out)
      have HZ4' := Lib.hid hz4
      have HZ8' := Lib.hid hz8
      have hBW : Below w.heap.size w wr := (HB0.out.trans (H1.out.old.mono HB0.out.size)).trans (hoth.below (fun k hk => by subst hk; omega) (by omega))
      have HBW := Lib.hid hBW
      have HCL := Lib.hid (fun (w' : World) (hb : Below w.heap.size w w') => Clone_any (.slice x1 xn1 xc1) (planL P).rc w' (hrv.below hb) (by have := HX2.out.lk; omega))
      have hsz9 : b9 < wr.heap.size := (Array.getElem?_eq_some_iff.1 hblk).1
      have HFIN := Lib.hid (fun (w7 : World) (v' : Value) (hb : Below wr.heap.size wr w7) (hv : SlS w7 v' (planL P).rc) => plan_fin (P := P) hown hblk hz8 HBW.out (show w.heap.size + 1 < b9 by omega) (show w.heap.size + 1 ≠ b9 by omega) hlt9 (by omega) hoth hb hv)
      have hxl : xn1 = (planL P).rc.length := by obtain ⟨a', c', e⟩ := hrv.len; injection e
      obtain ⟨pr, hpr⟩ : ∃ pr, (planL P).rule = pr := ⟨_, rfl⟩
      rw [hpr] at HBLK HFIN
      obtain ⟨b8, hb8⟩ : ∃ b8, w.heap.size + 1 = b8 := ⟨_, rfl⟩
      rw [hb8] at HZ8' HFIN
      have hne89 : b8 ≠ b9 := by omega
      have hne98 : b9 ≠ b8 := fun e => hne89 e.symm
      have hsz8 : b8 < wr.heap.size := by omega
      obtain ⟨k0, k1, k2, k3, i0, i1, i2, i3⟩ := box50 HBLK.out
      have HWR0 : Hid (Below wr.heap.size wr wr) := Below.refl _ _
      by_cases hrl : xn1 = 0
      · subst hrl
        have hnil : ∀ r ∈ rs, r.rc = [] := by
          rcases HRC.out with h | h
          · exact absurd (List.eq_nil_of_length_eq_zero hxl.symm) h
          · exact h
        have p0 : wr.cell? ⟨w.heap.size, 0, none⟩ = some (.slice am nm cm) := cell_of HZ4'.out 0
        have p1 : wr.cell? ⟨w.heap.size, 1, none⟩ = some (.slice a n0 c) := cell_of HZ4'.out 1
        clear hblk hown hrv hoth hs1 hs0 hz4 hz8 hBW hxl hP
        have HA9 := Lib.hid (below_alloc wr (.cells #[.slice am nm cm, .slice a n0 c, .pointer (some ⟨f, 0, none⟩), .string cwd, .string tg] 91))
        go_wp2_with (first
          | (go_at_call 53; refine (HRN.out wr.heap.size _ (HBW.out.trans (HA9.out.mono HBW.out.size)) hnil (by rw [size_alloc]; omega) (by rw [cell_new]; rfl) (by rw [cell_new]; rfl)).mono ?_; rintro e w5 ⟨rfl, h5⟩; have HWR : Hid (Below wr.heap.size wr (w5.alloc (.cells #[.slice none 0 0, .slice none 0 0, .string ⟨#[]⟩, .bool false] 50))) := below_trans HA9.out (below_trans h5 (below_alloc _ _)); have HBASE : Hid (Below w.heap.size w (w5.alloc (.cells #[.slice none 0 0, .slice none 0 0, .string ⟨#[]⟩, .bool false] 50))) := HBW.out.trans (HWR.out.mono HBW.out.size); obtain ⟨k0, k1, k2, k3, i0, i1, i2, i3⟩ := box50 ((HWR.out.block _ hsz9).trans HBLK.out); clear h5; simp only [])
          | (go_at_call 54; refine (HCL.out _ HBASE.out).mono ?_; rintro e w7 ⟨v', rfl, h7⟩; obtain ⟨g9, g8, gf⟩ := HFIN.out w7 v' (HWR.out.trans (h7.old.mono HWR.out.size)) h7.sls; obtain ⟨k0, k1, k2, k3, i0, i1, i2, i3⟩ := box50 g9; obtain ⟨l0, l1, l2, l3, j0, j1, j2, j3⟩ := box50 g8; obtain ⟨va, vn, vc, rfl⟩ := sl_form h7.sls; have HPF := Lib.hid (gf (fun g hg => by have := (h7.own.lt g hg).1; have := HWR.out.size; exact ⟨by omega, by omega⟩)); clear h7 g9 g8 gf; simp only []))
        rw [← HQ.out]
        have hf := HPF.out.blk
        refine bodyPost_ret (v := .agg #[.slice x0 xn0 xc0, .slice va vn vc, .string ⟨#[]⟩, .bool pr]) ?_ rfl ?_
        · obtain ⟨k0, k1, k2, k3, _⟩ := box50 hf
          simp [results, Tryd.results27, go_sem, k0, k1, k2, k3]
          try rfl
        · exact ⟨_, _, by rw [hpr], HPF.out.n, HPF.out.r, HPF.out.old, HPF.out.nb⟩
      · have hrl1 : ((xn1 : Int) == 0) = false := by simpa using hrl
        have HWR := HWR0
        have HBASE := HBW
        clear hblk hown hrv hoth hs1 hs0 hz4 hz8 hBW hxl hP HWR0
        go_wp2_with (go_at_call 54; refine (HCL.out _ HBASE.out).mono ?_; rintro e w7 ⟨v', rfl, h7⟩; obtain ⟨g9, g8, gf⟩ := HFIN.out w7 v' (HWR.out.trans (h7.old.mono HWR.out.size)) h7.sls; obtain ⟨k0, k1, k2, k3, i0, i1, i2, i3⟩ := box50 g9; obtain ⟨l0, l1, l2, l3, j0, j1, j2, j3⟩ := box50 g8; obtain ⟨va, vn, vc, rfl⟩ := sl_form h7.sls; have HPF := Lib.hid (gf (fun g hg => by have := (h7.own.lt g hg).1; have := HWR.out.size; exact ⟨by omega, by omega⟩)); clear h7 g9 g8 gf; simp only [])
        rw [← HQ.out]
        have hf := HPF.out.blk
        refine bodyPost_ret (v := .agg #[.slice x0 xn0 xc0, .slice va vn vc, .string ⟨#[]⟩, .bool pr]) ?_ rfl ?_
        · obtain ⟨k0, k1, k2, k3, _⟩ := box50 hf
          simp [results, Tryd.results27, go_sem, k0, k1, k2, k3]
          try rfl
        · exact ⟨_, _, by rw [hpr], HPF.out.n, HPF.out.r, HPF.out.old, HPF.out.nb⟩
end Go.Proofs.YtjagnihkpgbjeaaDoor

namespace Go.Proofs.YtjagnihkpgbjeaaDoor.Stem
open Go.RowKit Go.Proofs.YtjagnihkpgbjeaaDoor
set_option linter.unusedVariables false
/-! Patterns: Match and Fill. -/
/-- Does s begin with p; does it end with it? -/
def hp (s p : ByteArray) : Bool := decide (p.size ≤ s.size) && ((s.extract 0 p.size).toList == p.toList)
def ends (s x : ByteArray) : Bool := decide (x.size ≤ s.size) && ((s.extract (s.size - x.size) s.size).toList == x.toList)

set_option maxHeartbeats 1000000 in
theorem HasPrefix_lite (s p : ByteArray) (w : World) : Calls Tryd.prog 85 #[.string s, .string p] w fun e w' => e = .returned (.bool (hp s p)) ∧ w = w' := by
  by_cases h : p.size ≤ s.size
  · have HE : Hid (hp s p = ((s.extract 0 p.size).toList == p.toList)) := by unfold Hid hp; simp [h]
    go_enter Tryd.func85, Tryd.ntmps85
    go_wp2
    go_ret
    refine ⟨?_, rfl⟩
    rw [HE.out]; rfl
  · have HE : Hid (hp s p = false) := by unfold Hid hp; simp [h]
    go_enter Tryd.func85, Tryd.ntmps85
    go_wp2
    go_ret
    refine ⟨?_, rfl⟩
    rw [HE.out]; rfl
set_option maxHeartbeats 1000000 in
theorem HasPrefix_any (s p : ByteArray) (w : World) : Calls Tryd.prog 59 #[.string s, .string p] w fun e w' => e = .returned (.bool (hp s p)) ∧ w = w' := by
  go_enter Tryd.func59, Tryd.ntmps59
  go_wp2_with (go_at_call 85; refine (HasPrefix_lite _ _ _).mono ?_; rintro e w' ⟨rfl, rfl⟩)
  go_ret
  exact ⟨rfl, rfl⟩
set_option maxHeartbeats 1000000 in
theorem HasSuffix_lite (s x : ByteArray) (w : World) (hs : s.size ≤ 9223372036854775807) :
    Calls Tryd.prog 125 #[.string s, .string x] w fun e w' => e = .returned (.bool (ends s x)) ∧ w = w' := by
  have hlo : x.size ≤ s.size → ((s.size : Int) - (x.size : Int) + 9223372036854775808) % 18446744073709551616 - 9223372036854775808 = ((s.size - x.size : Nat) : Int) := fun _ => by omega
  by_cases h : x.size ≤ s.size
  · have HE : Hid (ends s x = ((s.extract (s.size - x.size) s.size).toList == x.toList)) := by unfold Hid ends; simp [h]
    go_enter Tryd.func125, Tryd.ntmps125
    go_wp2
    go_ret
    refine ⟨?_, rfl⟩
    rw [HE.out]; rfl
  · have HE : Hid (ends s x = false) := by unfold Hid ends; simp [h]
    go_enter Tryd.func125, Tryd.ntmps125
    go_wp2
    go_ret
    refine ⟨?_, rfl⟩
    rw [HE.out]; rfl
set_option maxHeartbeats 1000000 in
theorem HasSuffix_any (s x : ByteArray) (w : World) (hs : s.size ≤ 9223372036854775807) : Calls Tryd.prog 109 #[.string s, .string x] w fun e w' => e = .returned (.bool (ends s x)) ∧ w = w' := by
  go_enter Tryd.func109, Tryd.ntmps109
  go_wp2_with (go_at_call 125; refine (HasSuffix_lite _ _ _ hs).mono ?_; rintro e w' ⟨rfl, rfl⟩)
  go_ret
  exact ⟨rfl, rfl⟩
theorem index_no : ∀ {l : List UInt8}, (37 : UInt8) ∉ l → Lib.index l [37] = -1
  | [], _ => by rfl
  | c :: l, h => by
    have h1 : (37 : UInt8) ≠ c := fun e => h (by rw [e]; simp)
    have h2 : (37 : UInt8) ∉ l := fun e => h (List.mem_cons_of_mem _ e)
    unfold Lib.index
    rw [if_neg (by simp [List.isPrefixOf, h1]), index_no h2]
    rfl
theorem index_at : ∀ (a b : List UInt8), (37 : UInt8) ∉ a → Lib.index (a ++ 37 :: b) [37] = a.length
  | [], b, _ => by
    rw [List.nil_append]
    unfold Lib.index
    rw [if_pos (by simp [List.isPrefixOf])]; rfl
  | c :: a, b, h => by
    have h1 : (37 : UInt8) ≠ c := fun e => h (by rw [e]; simp)
    have h2 : (37 : UInt8) ∉ a := fun e => h (List.mem_cons_of_mem _ e)
    rw [List.cons_append]
    unfold Lib.index
    rw [if_neg (by simp [List.isPrefixOf, h1]), index_at a b h2]
    rw [if_neg (by simp), List.length_cons]; omega
theorem cut_no {l : List UInt8} (h : (37 : UInt8) ∉ l) : Lib.cut l [37] = (l, [], false) := by
  unfold Lib.cut; rw [index_no h, if_neg (by omega)]
theorem cut_at (a b : List UInt8) (h : (37 : UInt8) ∉ a) : Lib.cut (a ++ 37 :: b) [37] = (a, b, true) := by
  unfold Lib.cut
  rw [index_at a b h, if_pos (by omega)]
  simp
theorem count_no {l : List UInt8} (h : (37 : UInt8) ∉ l) : Lib.count l [37] = 0 := Lib.count_miss (index_no h)
theorem replace_no {l : List UInt8} (h : (37 : UInt8) ∉ l) (new : List UInt8) : Lib.replace l [37] new 1 = l := by
  unfold Lib.replace
  split
  · rfl
  · have : Lib.replaceNum l [37] 1 = 0 := by unfold Lib.replaceNum; rw [count_no h, if_pos (by right; decide)]
    rw [this]; rfl
theorem replace_at (a b : List UInt8) (h : (37 : UInt8) ∉ a) (new : List UInt8) : Lib.replace (a ++ 37 :: b) [37] new 1 = a ++ new ++ b := by
  unfold Lib.replace
  split
  · rename_i e
    have : new = [37] := (beq_iff_eq.1 e).symm
    rw [this]; simp
  · have hc : 1 ≤ Lib.count (a ++ 37 :: b) [37] := by
      unfold Lib.count Lib.countFrom
      rw [index_at a b h, if_neg (by simp)]
      omega
    have : Lib.replaceNum (a ++ 37 :: b) [37] 1 = 1 := by
      unfold Lib.replaceNum
      rw [if_neg (by omega)]; rfl
    rw [this, Lib.replaceK_hit [37] new 0 _ a.length (index_at a b h)]
    simp [Lib.replaceK]
/-- A byte string out of its bytes. -/
abbrev mk (l : List UInt8) : ByteArray := ⟨l.toArray⟩
theorem mk_size (l : List UInt8) : (mk l).size = l.length := by simp [ByteArray.size]
theorem mk_list (l : List UInt8) : (mk l).data.toList = l := by simp
theorem eq_mk {s : ByteArray} {l : List UInt8} (h : s.data.toList = l) : s = mk l := by
  apply ByteArray.ext
  rw [← Array.toList_inj, h]
theorem size_len (s : ByteArray) : s.data.toList.length = s.size := by simp

/-- What stands for the % in s; and whether. -/
def stemOk (F G s : ByteArray) : Bool := decide (F.size + G.size < s.size) && (hp s F && ends s G)

section
variable (p s F G : ByteArray) (a b : List UInt8)

set_option maxRecDepth 100000 in
set_option maxHeartbeats 1000000 in
theorem Match_no (w : World) (m : Int) (hm : w.cell? ⟨0, 0, none⟩ = some (.int .i64 m)) (hp1 : p.size ≤ 100000) (h : (37 : UInt8) ∉ p.data.toList) :
    Calls Tryd.prog 105 #[.string p, .string s] w fun e w' => e = .returned (.tuple #[.string ⟨#[]⟩, .bool (p.toList == s.toList)]) ∧ ∃ n, w' = w.drewN n := by
  have hc := cut_no h
  have HC : Hid (Lib.cut p.data.toList (mk [37]).data.toList = (p.data.toList, [], false)) := by unfold Hid; rw [mk_list]; exact hc
  clear h hc
  go_enter Tryd.func105, Tryd.ntmps105
  go_wp2_with fail
  refine (Tryd.strings_Cut p (mk [37]) m _ (by omega) hm).mono ?_
  rw [HC.out]
  rintro e w' ⟨rfl, n, rfl⟩
  go_wp2_with fail
  go_ret2
  exact ⟨by rfl, _, rfl⟩

set_option maxRecDepth 100000 in
set_option maxHeartbeats 1000000 in
theorem Match_at (w : World) (m : Int) (hm : w.cell? ⟨0, 0, none⟩ = some (.int .i64 m)) (hp1 : p.size ≤ 100000) (hs1 : s.size ≤ 100000) (hpl : p.data.toList = a ++ 37 :: b) (h : (37 : UInt8) ∉ a) (hF : mk a = F) (hG : mk b = G) :
    Calls Tryd.prog 105 #[.string p, .string s] w fun e w' => e = .returned (.tuple #[.string (if stemOk F G s then s.extract F.size (s.size - G.size) else ⟨#[]⟩), .bool (stemOk F G s)]) ∧ ∃ n, w' = w.drewN n := by
  have HC : Hid (Lib.cut p.data.toList (mk [37]).data.toList = (a, b, true)) := by unfold Hid; rw [mk_list, hpl]; exact cut_at a b h
  have hsz : a.length + b.length + 1 = p.size := by rw [← size_len, hpl]; simp; omega
  have hFs : F.size = a.length := by rw [← hF, mk_size]
  have hGs : G.size = b.length := by rw [← hG, mk_size]
  have hFl : F.size ≤ 100000 := by omega
  have hGl : G.size ≤ 100000 := by omega
  have HF := Lib.hid hF
  have HG := Lib.hid hG
  clear h hpl hsz hFs hGs hF hG
  obtain ⟨r, hr⟩ : ∃ r : ByteArray, (if stemOk F G s then s.extract F.size (s.size - G.size) else ⟨#[]⟩) = r := ⟨_, rfl⟩
  obtain ⟨o, ho⟩ : ∃ o, stemOk F G s = o := ⟨_, rfl⟩
  rw [hr, ho]
  rw [ho] at hr
  by_cases h1 : F.size + G.size < s.size
  · cases h2 : hp s F
    · have HO : Hid (o = false) := by unfold Hid; rw [← ho]; unfold stemOk; rw [h2]; simp
      have HR : Hid (r = ⟨#[]⟩) := by unfold Hid; rw [← hr, HO.out]; rfl
      have H2 := Lib.hid h2
      clear ho hr h2
      go_enter Tryd.func105, Tryd.ntmps105
      go_wp2_with fail
      refine (Tryd.strings_Cut p (mk [37]) m _ (by omega) hm).mono ?_
      rw [HC.out]
      rintro e w' ⟨rfl, n, rfl⟩
      rw [show (⟨(a, b, true).1.toArray⟩ : ByteArray) = F from HF.out, show (⟨(a, b, true).2.1.toArray⟩ : ByteArray) = G from HG.out]
      go_wp2_with (go_at_call 59; refine (HasPrefix_any s F _).mono ?_; rw [H2.out]; rintro e w' ⟨rfl, rfl⟩)
      go_ret2
      exact ⟨by rw [HO.out, HR.out]; rfl, _, rfl⟩
    · cases h3 : ends s G
      · have HO : Hid (o = false) := by unfold Hid; rw [← ho]; unfold stemOk; rw [h3]; simp
        have HR : Hid (r = ⟨#[]⟩) := by unfold Hid; rw [← hr, HO.out]; rfl
        have H2 := Lib.hid h2
        have H3 := Lib.hid h3
        clear ho hr h2 h3
        go_enter Tryd.func105, Tryd.ntmps105
        go_wp2_with fail
        refine (Tryd.strings_Cut p (mk [37]) m _ (by omega) hm).mono ?_
        rw [HC.out]
        rintro e w' ⟨rfl, n, rfl⟩
        rw [show (⟨(a, b, true).1.toArray⟩ : ByteArray) = F from HF.out, show (⟨(a, b, true).2.1.toArray⟩ : ByteArray) = G from HG.out]
        go_wp2_with (first
          | (go_at_call 59; refine (HasPrefix_any s F _).mono ?_; rw [H2.out]; rintro e w' ⟨rfl, rfl⟩)
          | (go_at_call 109; refine (HasSuffix_any s G _ (by omega)).mono ?_; rw [H3.out]; rintro e w' ⟨rfl, rfl⟩))
        go_ret2
        exact ⟨by rw [HO.out, HR.out]; rfl, _, rfl⟩
      · have HO : Hid (o = true) := by unfold Hid; rw [← ho]; unfold stemOk; rw [h2, h3]; simp [h1]
        have HR : Hid (r = s.extract F.size (s.size - G.size)) := by unfold Hid; rw [← hr, HO.out]; rfl
        have H2 := Lib.hid h2
        have H3 := Lib.hid h3
        obtain ⟨q, hq⟩ : ∃ q : Nat, s.size - G.size = q := ⟨_, rfl⟩
        have hw1 : IntKind.i64.wrap ((s.size : Int) - (G.size : Int)) = (q : Int) := by unfold IntKind.wrap; simp [IntKind.bits, IntKind.signed]; omega
        have hq1 : (F.size : Int) ≤ (q : Int) := by omega
        have hq2 : (q : Int) ≤ (s.size : Int) := by omega
        have hq3 : F.size ≤ q := by omega
        have hq4 : q ≤ s.size := by omega
        have HQ := Lib.hid hq
        clear ho hr h2 h3 hq
        go_enter Tryd.func105, Tryd.ntmps105
        go_wp2_with fail
        refine (Tryd.strings_Cut p (mk [37]) m _ (by omega) hm).mono ?_
        rw [HC.out]
        rintro e w' ⟨rfl, n, rfl⟩
        rw [show (⟨(a, b, true).1.toArray⟩ : ByteArray) = F from HF.out, show (⟨(a, b, true).2.1.toArray⟩ : ByteArray) = G from HG.out]
        go_wp2_with (first
          | (go_at_call 59; refine (HasPrefix_any s F _).mono ?_; rw [H2.out]; rintro e w' ⟨rfl, rfl⟩)
          | (go_at_call 109; refine (HasSuffix_any s G _ (by omega)).mono ?_; rw [H3.out]; rintro e w' ⟨rfl, rfl⟩))
        go_ret2
        exact ⟨by rw [HO.out, HR.out, HQ.out]; rfl, _, rfl⟩
  · have HO : Hid (o = false) := by unfold Hid; rw [← ho]; unfold stemOk; simp [h1]
    have HR : Hid (r = ⟨#[]⟩) := by unfold Hid; rw [← hr, HO.out]; rfl
    have h1' : (s.size : Int) ≤ (F.size : Int) + (G.size : Int) := by omega
    clear ho hr
    go_enter Tryd.func105, Tryd.ntmps105
    go_wp2_with fail
    refine (Tryd.strings_Cut p (mk [37]) m _ (by omega) hm).mono ?_
    rw [HC.out]
    rintro e w' ⟨rfl, n, rfl⟩
    rw [show (⟨(a, b, true).1.toArray⟩ : ByteArray) = F from HF.out, show (⟨(a, b, true).2.1.toArray⟩ : ByteArray) = G from HG.out]
    go_wp2_with fail
    go_ret2
    exact ⟨by rw [HO.out, HR.out]; rfl, _, rfl⟩
end
section
variable (p s : ByteArray)
set_option maxRecDepth 100000 in
set_option maxHeartbeats 1000000 in
theorem Fill_any (w : World) (m : Int) (hm : w.cell? ⟨0, 0, none⟩ = some (.int .i64 m)) (hp1 : p.size ≤ 100000) (hs1 : s.size ≤ 100000) (t : ByteArray) (ht : mk (Lib.replace p.data.toList [37] s.data.toList 1) = t) :
    Calls Tryd.prog 106 #[.string p, .string s] w fun e w' => e = .returned (.string t) ∧ Below w.heap.size w w' := by
  have HT : Hid (mk (Lib.replace p.data.toList (mk [37]).data.toList s.data.toList 1) = t) := by unfold Hid; rw [mk_list]; exact ht
  clear ht
  have hc := Lib.countB_le (mk [37]) (by rw [mk_size]; exact Nat.le_refl _) p.size p (Nat.le_refl _)
  have hlen : p.size + Lib.countB p (mk [37]) * s.size ≤ 140737488355328 := by
    have : Lib.countB p (mk [37]) * s.size ≤ 100000 * 100000 := Nat.mul_le_mul (by omega) hs1
    omega
  clear hc
  have HL := Lib.hid hlen
  clear hlen
  go_enter Tryd.func106, Tryd.ntmps106
  go_wp2_with fail
  refine (Tryd.strings_Replace p (mk [37]) s 1 m _ (by omega) hm (by rw [mk_size]; exact Nat.le_refl _) HL.out).mono ?_
  rw [show (⟨(Lib.replace p.data.toList (mk [37]).data.toList s.data.toList 1).toArray⟩ : ByteArray) = t from HT.out]
  rintro e w' ⟨rfl, hB⟩
  have HB := Lib.hid hB
  clear hB
  go_wp2_with fail
  go_ret
  exact ⟨rfl, HB.out⟩

end
end Go.Proofs.YtjagnihkpgbjeaaDoor.Stem

namespace Go.Proofs.YtjagnihkpgbjeaaDoor
open Go.RowKit Go.Maps Go.ChangeMaps
set_option linter.unusedVariables false
/-! A map from texts to numbers; the walk over the graph as a function. -/
def IMap (w : World) (mb N : Nat) (st : Bs → Int) : Prop := ∃ nn D, nn ≤ N ∧ w.ownsMap Tryd.prog 9 (plainElem (H := Unit) Tryd.prog 3) mb nn D ∧ ∀ k : Bs, D.atKey (.string k) (.lit (.int .i64 0)) = .lit (.int .i64 (st k))
theorem zero3 (w : World) : (zeroValue 3).run Tryd.prog w = .ok (.int .i64 0) w := by kernel_rfl
theorem IMap.lt {w : World} {mb N : Nat} {st : Bs → Int} (h : IMap w mb N st) : mb < w.heap.size := by
  obtain ⟨nn, D, _, h1, _⟩ := h
  exact h1.lt
theorem IMap.blk {w w' : World} {mb N : Nat} {st : Bs → Int} (h : IMap w mb N st) (hb : w'.heap[mb]? = w.heap[mb]?) : IMap w' mb N st := by
  obtain ⟨nn, D, h1, hown, hg⟩ := h
  obtain ⟨es, clock, h2, F, hs, hD⟩ := hown
  exact ⟨nn, D, h1, ⟨es, clock, hb.trans h2, F, hs, hD⟩, hg⟩
theorem IMap.no_cells {w : World} {mb N : Nat} {st : Bs → Int} (h : IMap w mb N st) {c : Array Value} {t : TypeId} {z : Nat × Nat} : w.heap[mb]? ≠ some (.cells c t z) := by
  obtain ⟨nn, D, h1, hown, hg⟩ := h
  obtain ⟨es, clock, h2, F, hs, hD⟩ := hown
  rw [h2]
  intro e
  cases e
theorem lit_int_inj {a b : Int} (h : (DataW.lit (.int .i64 a) : DataW Unit) = .lit (.int .i64 b)) : a = b := by
  injection h with h; injection h
theorem IMap.look {w : World} {mb N : Nat} {st : Bs → Int} (h : IMap w mb N st) (s : ByteArray) (hs : s.size ≤ maxLen) : (Instr.lookup 98 (.map (some mb)) (.string s) false).run Tryd.prog w = .ok (.int .i64 (st s.data.toList)) w := by
  obtain ⟨nn, D, h1, hown, hg⟩ := h
  have hk := Go.WideMaps.keyOf_string_mk Tryd.underlying9 hs
  obtain ⟨a, hrun, hv⟩ := hown.lookup_int keyedS Tryd.underlying98 Tryd.underlying3 (zero3 w) hk
  rw [hg] at hv
  rw [hrun, lit_int_inj hv.1]
structure GS where
  st : Bs → Int
  reached : Nat
  nested : Nat
  order : List Bs
def setS (st : Bs → Int) (t : Bs) (x : Int) : Bs → Int := fun k => if k = t then x else st k
def openS (s : GS) (t : Bs) : GS := ⟨setS s.st t 1, s.reached + 1, s.nested + 1, s.order⟩
def closeS (s : GS) (t : Bs) : GS := ⟨setS s.st t 2, s.reached, s.nested - 1, s.order ++ [t]⟩
def okB (t : Bs) : Bool := t.all (fun c => c != 47 && c != 0) && decide (t.length ≤ 60) && !t.isEmpty && decide (t.head? ≠ some 46)
theorem okB_nm {t : Bs} (h : okB t = true) : Nm t ∧ t.head? ≠ some 46 := by
  unfold okB at h
  simp only [Bool.and_eq_true, List.all_eq_true, decide_eq_true_eq, bne_iff_ne, Bool.not_eq_true'] at h
  obtain ⟨⟨⟨h1, h2⟩, h3⟩, h4⟩ := h
  refine ⟨⟨(fun e => by rw [e] at h3; cases h3), (fun e => h4 (by rw [e]; rfl)), (fun e => h4 (by rw [e]; rfl)), fun c hc => (h1 c hc).1, fun c hc => (h1 c hc).2, h2⟩, h4⟩
/-- sort, by fuel: with which error, and how all stands behind it; none where it is not told. -/
def sortF (G : Bs → Pl) (th : Bs → Bool) : Nat → List Bs → GS → Option (Int × GS)
  | 0, _, _ => none
  | _ + 1, [], s => some (0, s)
  | n + 1, t :: ts, s =>
    if okB t = false then none
    else if s.st t = 2 then sortF G th n ts s
    else if s.st t = 1 then some (18, s)
    else if 1000 ≤ s.reached ∨ 200 ≤ s.nested then none
    else if (G t).rule = false ∧ th t = false then some (19, s)
    else match sortF G th n (G t).ns (openS s t) with
      | none => none
      | some (e, s1) => if e = 0 then (if s1.nested = 0 then none else sortF G th n ts (closeS s1 t)) else some (e, s1)
theorem sortF_cons {G : Bs → Pl} {th : Bs → Bool} {n : Nat} {t : Bs} {ts : List Bs} {s : GS} {r : Int × GS} (h : sortF G th n (t :: ts) s = some r) :
    okB t = true ∧ ∃ m, n = m + 1 ∧ ((s.st t = 2 ∧ sortF G th m ts s = some r) ∨ (s.st t ≠ 2 ∧ s.st t = 1 ∧ r = (18, s)) ∨
      (s.st t ≠ 2 ∧ s.st t ≠ 1 ∧ s.reached < 1000 ∧ s.nested < 200 ∧
        (((G t).rule = false ∧ th t = false ∧ r = (19, s)) ∨
         ((G t).rule = true ∨ th t = true) ∧ ∃ e s1, sortF G th m (G t).ns (openS s t) = some (e, s1) ∧ ((e ≠ 0 ∧ r = (e, s1)) ∨ (e = 0 ∧ 0 < s1.nested ∧ sortF G th m ts (closeS s1 t) = some r))))) := by
  cases n with
  | zero => cases h
  | succ m =>
    rw [sortF] at h
    by_cases h0 : okB t = false
    · rw [if_pos h0] at h; cases h
    rw [if_neg h0] at h
    refine ⟨by simpa using h0, m, rfl, ?_⟩
    by_cases h1 : s.st t = 2
    · rw [if_pos h1] at h; exact .inl ⟨h1, h⟩
    rw [if_neg h1] at h
    by_cases h2 : s.st t = 1
    · rw [if_pos h2] at h
      injection h with h
      exact .inr (.inl ⟨h1, h2, h.symm⟩)
    rw [if_neg h2] at h
    by_cases h3 : 1000 ≤ s.reached ∨ 200 ≤ s.nested
    · rw [if_pos h3] at h; cases h
    rw [if_neg h3] at h
    refine .inr (.inr ⟨h1, h2, by omega, by omega, ?_⟩)
    by_cases h4 : (G t).rule = false ∧ th t = false
    · rw [if_pos h4] at h
      injection h with h
      exact .inl ⟨h4.1, h4.2, h.symm⟩
    rw [if_neg h4] at h
    refine .inr ⟨?_, ?_⟩
    · cases hr : (G t).rule
      · right
        cases ht : th t
        · exact absurd ⟨hr, ht⟩ h4
        · rfl
      · exact .inl rfl
    · cases hs : sortF G th m (G t).ns (openS s t) with
      | none => rw [hs] at h; cases h
      | some q =>
        obtain ⟨e, s1⟩ := q
        rw [hs] at h
        simp only at h
        refine ⟨e, s1, rfl, ?_⟩
        by_cases he : e = 0
        · rw [if_pos he] at h
          by_cases hz : s1.nested = 0
          · rw [if_pos hz] at h; cases h
          · rw [if_neg hz] at h
            exact .inr ⟨he, by omega, h⟩
        · rw [if_neg he] at h
          injection h with h
          exact .inl ⟨he, h.symm⟩
end Go.Proofs.YtjagnihkpgbjeaaDoor
