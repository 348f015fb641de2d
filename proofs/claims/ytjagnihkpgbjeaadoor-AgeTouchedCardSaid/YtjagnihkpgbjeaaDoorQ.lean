import Derived.Test.YtjagnihkpgbjeaaDoorO
namespace Go.Proofs.YtjagnihkpgbjeaaDoor
open Go.RowKit Go.Shelf
attribute [local go_sem] Oper.semAt_some

/-- Where the row's block is not: among the iterator's cells. -/
def Apart (b : Nat) (v : Value) : Prop := ∀ g, v.ownBlock = some g → g < b ∨ b + 4 ≤ g
theorem Apart.ne {b k : Nat} {v : Value} (h : Apart b v) (h1 : b < k) (h2 : k < b + 4) : v.ownBlock ≠ some k := fun e => by have := h k e; omega
theorem Apart.where_ {b s : Nat} {v v' : Value} (h : Apart b v) (hs : b + 4 ≤ s) (hw : v'.ownBlock = v.ownBlock ∨ v'.ownBlock = some s) : Apart b v' := fun g e => by
  rcases hw with hw | hw
  · exact h g (hw.symm.trans e)
  · rw [hw] at e; injection e with e; omega
def FI (B b : Nat) (W0 : World) (l0 : List Bs) (pre : List Bs) (W : World) : Prop :=
  (∃ v, Boxed W b 29 v ∧ W.ownsRow B 9 1 v (pre.foldl push l0).length ((pre.foldl push l0).map encStr) ∧ Apart b v) ∧ Below B W0 W
theorem keep_put {b l : Nat} (W : World) (o : Obj) (h : b + 4 ≤ l) : Keep b W (W.putObj l o) := fun k h1 h2 => World.putObj_heap_other (by omega)
theorem ownBlock_slice {A : Option Addr} {n c m d : Nat} : (Value.slice A n c).ownBlock = (Value.slice A m d).ownBlock := by cases A <;> rfl
theorem own_block_some {w : World} {B n : Nat} {v : Value} {xs : List Value} (h : w.ownsRow B 9 1 v n xs) {g : Nat} (e : v.ownBlock = some g) : g < w.heap.size := by
  rcases h.2 with ⟨rfl, _⟩ | ⟨g', c, cur, rfl, _, hg, _⟩
  · simp [Value.ownBlock] at e
  · obtain rfl : g' = g := by simpa [Value.ownBlock] using e
    exact (Array.getElem?_eq_some_iff.1 hg).1

/-- A row cut by one, from whatever it was. -/
theorem own_less {w : World} {B c : Nat} {A : Option Addr} {l : List Bs} (h : w.ownsRow B 9 1 (.slice A l.length c) l.length (l.map encStr)) :
    (∀ w', (Instr.slice 29 (.slice A l.length c) none (some (.int .i64 ((l.length - 1 : Nat) : Int))) none).run Tryd.prog w' = .ok (.slice A (l.length - 1) c) w') ∧
      w.ownsRow B 9 1 (.slice A (l.length - 1) c) l.dropLast.length (l.dropLast.map encStr) := by
  by_cases hl : 0 < l.length
  · obtain ⟨g, c', ea, _, _⟩ := h.form hl
    injection ea with e1 _ e3
    subst e1
    subst e3
    refine ⟨slice_some g l.length c (l.length - 1) (by have := own_cap h hl; omega), ?_⟩
    rw [List.length_dropLast]
    exact own_last h hl
  · obtain rfl : l = [] := List.length_eq_zero_iff.1 (by omega)
    rcases h.2 with ⟨h1, _⟩ | ⟨g, c', cur, hv, _, _, h1, _⟩
    · injection h1 with e1 _ e3
      subst e1
      subst e3
      exact ⟨slice_nil, h⟩
    · injection hv with e1 _ e3
      subst e1
      exact ⟨slice_some g 0 c 0 (by omega), h⟩

set_option maxRecDepth 100000 in
set_option maxHeartbeats 4000000 in
theorem follow_any (B : Nat) (v0 : Value) (l0 : List Bs) (p : ByteArray) (w : World) (hB : B ≤ w.heap.size) (hv : w.ownsRow B 9 1 v0 l0.length (l0.map encStr)) (hn : l0.length + p.size ≤ 100000) :
    Calls Tryd.prog 90 #[v0, .string p] w fun e w' => ∃ v', e = .returned v' ∧ w'.ownsRow B 9 1 v' ((sp p.data.toList).foldl push l0).length (((sp p.data.toList).foldl push l0).map encStr) ∧ Below B w w' := by
  obtain ⟨A0, c0, rfl⟩ := own_form hv
  obtain ⟨b, hb⟩ : ∃ b, w.heap.size = b := ⟨_, rfl⟩
  have hap : Apart b (.slice A0 l0.length c0) := fun g e => .inl (by rw [← hb]; exact own_block_some hv e)
  have HV := Lib.hid hv
  clear hv
  refine (callsIn_wide (n := 3)).1 ?_
  refine callsIn_of_wp_marks Tryd.func90 rfl trivial ?_ rfl
  simp only [Tryd.ntmps90, List.size_toArray, List.length_cons, List.length_nil, Nat.reduceAdd, Nat.reduceSub, Array.replicate_succ, Array.replicate_zero, List.push_toArray, List.append_toArray, List.nil_append, List.cons_append]
  gi_wp2
  refine wpIn_scope_s ?_
  refine wpIn_seq (wpIn_label ?_)
  gi_wp2_with (refine ⟨trivial, ?_⟩; gi_at_call 114; refine (callsIn_wide.2 (SplitSeq_any p ⟨#[47]⟩ _)).mono ?_; rintro e w' ⟨rfl, rfl⟩)
  obtain ⟨W0, hW0⟩ : ∃ W0, (((w.alloc (.cells #[.slice A0 l0.length c0] 29)).alloc (.cells #[.string p] 9)).alloc (.cells #[.string ⟨#[47]⟩] 9)).alloc (.cells #[.int .i64 0] 3) = W0 := ⟨_, rfl⟩
  have hs0 : W0.heap.size = b + 4 := by rw [← hW0]; simp [hb]
  have hb0 : Boxed W0 b 29 (.slice A0 l0.length c0) := by rw [← hW0, ← hb]; exact (((Boxed.new w 29 _).alloc _).alloc _).alloc _
  have hb1 : Boxed W0 (b + 1) 9 (.string p) := by rw [← hW0, ← hb]; have := ((Boxed.new (w.alloc (.cells #[.slice A0 l0.length c0] 29)) 9 (.string p)).alloc (.cells #[.string ⟨#[47]⟩] 9)).alloc (.cells #[.int .i64 0] 3); simpa using this
  have hb2 : Boxed W0 (b + 2) 9 (.string ⟨#[47]⟩) := by rw [← hW0, ← hb]; have := (Boxed.new ((w.alloc (.cells #[.slice A0 l0.length c0] 29)).alloc (.cells #[.string p] 9)) 9 (.string ⟨#[47]⟩)).alloc (.cells #[.int .i64 0] 3); simpa using this
  have hb3 : Boxed W0 (b + 3) 3 (.int .i64 0) := by rw [← hW0, ← hb]; have := Boxed.new (((w.alloc (.cells #[.slice A0 l0.length c0] 29)).alloc (.cells #[.string p] 9)).alloc (.cells #[.string ⟨#[47]⟩] 9)) 3 (.int .i64 0); simpa using this
  have hB0 : Below b w W0 := by rw [← hW0, ← hb]; exact ((((Below.refl _ w).alloc (Nat.le_refl _) _).alloc (by simp) _).alloc (by simp; omega) _).alloc (by simp; omega) _
  have hO0 : W0.ownsRow B 9 1 (.slice A0 l0.length c0) l0.length (l0.map encStr) := by rw [← hW0]; exact ((((HV.out.alloc _).alloc _).alloc _).alloc _)
  have hpl : (sp p.data.toList).length ≤ p.size + 1 := by have := sp_len p.data.toList; have : p.data.toList.length = p.size := Array.length_toList; omega
  rw [hW0]
  refine wpIn_rangeFunc_T rfl (by omega) (gf := 156) (lb := #[.pointer (some ⟨b + 2, 0, none⟩), .pointer (some ⟨b + 1, 0, none⟩), .pointer (some ⟨b + 3, 0, none⟩)]) rfl trivial (enters_of Tryd.func156 (by kernel_rfl) rfl)
    (encs := fun x : Bs => #[encStr x]) (T := fun A C => ∃ u, C = A.setCell ⟨b + 1, 0, none⟩ u) (Kp := Keep b) (xs := sp p.data.toList) (fun A C h => by obtain ⟨u, rfl⟩ := h; exact KeepsOthers.setCell _ _ _)
    (fun l J W hW hJ hY h0 => split_in _ (by decide) l b J _ (fun s A u h => hJ s A _ h ⟨u, rfl⟩) hY p rfl (by omega) W ((hW.block (b + 1) (by omega)).trans hb1) ((hW.block (b + 2) (by omega)).trans hb2) ((hW.block (b + 3) (by omega)).trans hb3) h0)
    (fun h k => h.trans k) (fun W l o h => keep_put W o (by omega)) (fun _ => rfl) (FI B b W0 l0)
    (OwnFrom.and (Own.from (holdsRow_own B b 29 9 1 (fun pre : List Bs => (pre.foldl push l0).length) (fun pre => (pre.foldl push l0).map encStr) (fun _ v => Apart b v)) _) (ownFrom_below (by omega) (by omega)))
    ?turn ⟨⟨_, hb0, hO0, hap⟩, Below.refl _ _⟩
    (fun x => { tmps := #[.slice A0 l0.length c0, .string p, .pointer (some ⟨b, 0, none⟩), undef, .slice none 0 0, encStr x, .string p, .func (.func 156) #[] #[.pointer (some ⟨b + 2, 0, none⟩), .pointer (some ⟨b + 1, 0, none⟩), .pointer (some ⟨b + 3, 0, none⟩)], encStr x, undef, undef, undef, undef, undef, undef, undef, undef, undef, undef, undef, undef, undef, undef, undef, undef, undef], defers := [] }) ?assign ?body ?done
  case turn =>
    rintro s A C ⟨⟨v, hv, hrow, hG⟩, hB⟩ ⟨u, rfl⟩
    exact ⟨⟨v, hv.other (by omega) u, hrow.kept (grownBy_setCell' A (b + 1) u) (.inr (hG.ne (by omega) (by omega))), hG⟩, hB.setCell (p := ⟨b + 1, 0, none⟩) (by simp; omega) u⟩
  case assign =>
    intro l x W K hK
    gi_wp2
    exact hK
  case body =>
    rintro l pre x W ⟨⟨v, hv, hrow, hG⟩, hBW⟩ hx
    have hL : (pre.foldl push l0).length + 1 ≤ 200000 := by
      have h1 := push_fold_len pre l0
      have h2 := hx.length_le
      simp at h2
      omega
    have hnext : (pre ++ [x]).foldl push l0 = push (pre.foldl push l0) x := by simp
    obtain ⟨L, hLe⟩ : ∃ L, pre.foldl push l0 = L := ⟨_, rfl⟩
    rw [hLe] at hrow hL hnext
    have HN := Lib.hid hnext
    have HLe := Lib.hid hLe
    obtain ⟨z, hz⟩ : ∃ z, bs x = z := ⟨_, rfl⟩
    have hzl : z.toList = x := by rw [Lib.toList_data, ← hz]; rfl
    rw [show encStr x = Value.string z from congrArg Value.string hz]
    obtain ⟨A, c, rfl⟩ := own_form hrow
    have hc := hv.cell
    have hf := hv.frozen
    have HROW := Lib.hid hrow
    have HG := Lib.hid hG
    have HB := Lib.hid hBW
    have HV := Lib.hid hv
    have HZ := Lib.hid hz
    have hws : b + 4 ≤ W.heap.size := by have := hBW.size; omega
    clear hx hnext hLe hz hrow hG hBW hv
    by_cases c1 : x = []
    · subst c1
      gi_wp2
      exact ⟨KeepsFrom.refl _ _, fun _ _ _ => rfl, ⟨_, HV.out, by rw [HN.out, push_nil]; exact HROW.out, HG.out⟩, HB.out⟩
    · by_cases c2 : x = [46]
      · subst c2
        gi_wp2
        exact ⟨KeepsFrom.refl _ _, fun _ _ _ => rfl, ⟨_, HV.out, by rw [HN.out, show push L [46] = L from rfl]; exact HROW.out, HG.out⟩, HB.out⟩
      · by_cases c3 : x = [46, 46]
        · subst c3
          obtain ⟨hst, hod⟩ := own_less HROW.out
          have hap2 : Apart b (.slice A (L.length - 1) c) := by intro g e; exact HG.out g (by rw [← e]; exact ownBlock_slice)
          obtain ⟨m, hm⟩ : ∃ m, L.length - 1 = m := ⟨_, rfl⟩
          rw [hm] at hst hod hap2
          have hmx : max ((L.length : Int) - 1) 0 = (m : Int) := by omega
          have hwr : IntKind.i64.wrap ((L.length : Int) - 1) = (L.length : Int) - 1 := by rw [IntKind.wrap_i64]; omega
          have hwr2 : wrap64 ((L.length : Int) - 1) = (L.length : Int) - 1 := by unfold wrap64; omega
          have HOD := Lib.hid hod
          have HA2 := Lib.hid hap2
          have HL := Lib.hid hL
          clear hod hap2 hL hm
          gi_wp2
          exact ⟨(KeepsOthers.setCell _ _ _).from _, fun k h1 h2 => Below.heap_setCell _ _ _ k (by simp; omega),
            ⟨_, HV.out.set _, by rw [HN.out, push_dd]; exact HOD.out.kept (grownBy_setCell' W b _) (.inr (HV.out.not_row (by decide) HOD.out).symm), HA2.out⟩, HB.out.setCell (p := ⟨b, 0, none⟩) (by simp; omega) _⟩
        · have d1 : x.isEmpty = false := by cases x with | nil => exact absurd rfl c1 | cons a t => rfl
          have d2 : (x == [46]) = false := by rw [beq_eq_false_iff_ne]; exact c2
          have d3 : (x == [46, 46]) = false := by rw [beq_eq_false_iff_ne]; exact c3
          have HP : Hid (push L x = L ++ [x]) := by rw [Hid, push, if_neg (by rintro (h | h); exact c1 h; exact c2 h), if_neg c3]
          have HL := Lib.hid hL
          clear c1 c2 c3 hL
          gi_wp2_with (gi_at_builtin; refine wpListIn_append_apart _ rfl _ _ rfl B _ L.length (L.map encStr) rfl (HROW.out.alloc _) ⟨W.heap.size, 0, none⟩ 1 (.string z) rfl (cell_one_new W (.string z) 9 0 (.string z) rfl) rfl (by have := HL.out; omega) (by simp; omega) ?_; intro v' w1 hown' hgrow hwhere; obtain ⟨g', cap', rfl⟩ := ownsRow_succ hown'; obtain ⟨hv1, hv2, hr2, hk2, hb2⟩ := HV.out.appended (by decide) HROW.out (by omega) (by omega) hown' hgrow; have hc1 := hv1.cell; have hf1 := hv1.frozen)
          exact ⟨hk2.from _, fun k h1 h2 => ((Below.heap_setCell _ _ _ k (by simp; omega)).trans (hgrow.block k (by simp; omega) (HG.out.ne h1 h2).symm)).trans (Below.heap_alloc _ _ _ (by omega)), ⟨_, hv2, by rw [HN.out, HP.out]; simpa [show encStr x = Value.string z from congrArg Value.string HZ.out] using hr2, HG.out.where_ (by simp; omega) hwhere⟩, HB.out.trans hb2⟩
  case done =>
    rintro D W hD ⟨⟨v, hv, hrow, hG⟩, hBW⟩ hK
    have hc := hv.cell
    obtain ⟨A, c, rfl⟩ := own_form hrow
    have HROW := Lib.hid hrow
    have HB := Lib.hid ((hB0.mono (by omega : B ≤ b)).trans hBW)
    have hDb : b + 4 ≤ D := by omega
    clear hrow hG hBW hv hD
    gi_wp2
    refine ⟨by simp, .inl ⟨_, _, rfl, run_takeDeferred hK, ?_⟩⟩
    exact ⟨_, results_tmp rfl _ _ _, _, rfl, ownsRow_putObj HROW.out _ hK rfl, HB.out.trans (belowK_b (w := w) (by omega) W D _ _ (by omega) hK rfl rfl)⟩
end Go.Proofs.YtjagnihkpgbjeaaDoor
