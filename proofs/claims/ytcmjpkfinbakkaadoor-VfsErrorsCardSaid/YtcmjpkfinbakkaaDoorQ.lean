import Derived.Test.YtcmjpkfinbakkaaDoorK
import Derived.Test.YtcmjpkfinbakkaaDoorVE
namespace Go.Proofs.YtcmjpkfinbakkaaDoor
open Go.RowKit Go.Shelf
attribute [local go_sem] Oper.semAt_some

/-- Where the row's block is not: among the iterator's cells. -/
def Apart (b : Nat) (v : Value) : Prop := ∀ g, v.ownBlock = some g → g < b ∨ b + 4 ≤ g
theorem Apart.ne {b k : Nat} {v : Value} (h : Apart b v) (h1 : b < k) (h2 : k < b + 4) : v.ownBlock ≠ some k := fun e => by have := h k e; omega
theorem Apart.where_ {b s : Nat} {v v' : Value} (h : Apart b v) (hs : b + 4 ≤ s) (hw : v'.ownBlock = v.ownBlock ∨ v'.ownBlock = some s) : Apart b v' := fun g e => by
  rcases hw with hw | hw
  · exact h g (hw.symm.trans e)
  · rw [hw] at e; injection e with e; omega
def FI (B b : Nat) (W0 : World) (l0 : List Bs) (pre : List Bs) (W : World) : Prop :=
  (∃ v, Boxed W b 29 v ∧ W.ownsRow B 9 1 v (pre.foldl push l0).length ((pre.foldl push l0).map encStr) ∧ Apart b v) ∧ Below B W0 W
theorem keep_put {b l : Nat} (W : World) (o : Obj) (h : b + 4 ≤ l) : Keep b W (W.putObj l o) := fun k h1 h2 => World.putObj_heap_other (by omega)
theorem ownBlock_slice {A : Option Addr} {n c m d : Nat} : (Value.slice A n c).ownBlock = (Value.slice A m d).ownBlock := by cases A <;> rfl
theorem own_block_some {w : World} {B n : Nat} {v : Value} {xs : List Value} (h : w.ownsRow B 9 1 v n xs) {g : Nat} (e : v.ownBlock = some g) : g < w.heap.size := by
  rcases h.2 with ⟨rfl, _⟩ | ⟨g', c, cur, rfl, _, hg, _⟩
  · simp [Value.ownBlock] at e
  · obtain rfl : g' = g := by simpa [Value.ownBlock] using e
    exact (Array.getElem?_eq_some_iff.1 hg).1

/-- A row cut by one, from whatever it was. -/
theorem own_less {w : World} {B c : Nat} {A : Option Addr} {l : List Bs} (h : w.ownsRow B 9 1 (.slice A l.length c) l.length (l.map encStr)) :
    (∀ w', (Instr.slice 29 (.slice A l.length c) none (some (.int .i64 ((l.length - 1 : Nat) : Int))) none).run Tryd.prog w' = .ok (.slice A (l.length - 1) c) w') ∧
      w.ownsRow B 9 1 (.slice A (l.length - 1) c) l.dropLast.length (l.dropLast.map encStr) := by
  by_cases hl : 0 < l.length
  · obtain ⟨g, c', ea, _, _⟩ := h.form hl
    injection ea with e1 _ e3
    subst e1
    subst e3
    refine ⟨slice_some g l.length c (l.length - 1) (by have := own_cap h hl; omega), ?_⟩
    rw [List.length_dropLast]
    exact own_last h hl
  · obtain rfl : l = [] := List.length_eq_zero_iff.1 (by omega)
    rcases h.2 with ⟨h1, _⟩ | ⟨g, c', cur, hv, _, _, h1, _⟩
    · injection h1 with e1 _ e3
      subst e1
      subst e3
      exact ⟨slice_nil, h⟩
    · injection hv with e1 _ e3
      subst e1
      exact ⟨slice_some g 0 c 0 (by omega), h⟩

set_option maxRecDepth 100000 in
set_option maxHeartbeats 4000000 in
theorem follow_any (B : Nat) (v0 : Value) (l0 : List Bs) (p : ByteArray) (w : World) (hB : B ≤ w.heap.size) (hv : w.ownsRow B 9 1 v0 l0.length (l0.map encStr)) (hn : l0.length + p.size ≤ 100000) :
    Calls Tryd.prog 46 #[v0, .string p] w fun e w' => ∃ v', e = .returned v' ∧ w'.ownsRow B 9 1 v' ((sp p.data.toList).foldl push l0).length (((sp p.data.toList).foldl push l0).map encStr) ∧ Below B w w' := by
  obtain ⟨A0, c0, rfl⟩ := own_form hv
  obtain ⟨b, hb⟩ : ∃ b, w.heap.size = b := ⟨_, rfl⟩
  have hap : Apart b (.slice A0 l0.length c0) := fun g e => .inl (by rw [← hb]; exact own_block_some hv e)
  have HV := Lib.hid hv
  clear hv
  refine (callsIn_wide (n := 3)).1 ?_
  refine callsIn_of_wp_marks Tryd.func46 rfl trivial ?_ rfl
  simp only [Tryd.ntmps46, List.size_toArray, List.length_cons, List.length_nil, Nat.reduceAdd, Nat.reduceSub, Array.replicate_succ, Array.replicate_zero, List.push_toArray, List.append_toArray, List.nil_append, List.cons_append]
  gi_wp2
  refine wpIn_scope_s ?_
  refine wpIn_seq (wpIn_label ?_)
  gi_wp2_with (refine ⟨trivial, ?_⟩; gi_at_call 57; refine (callsIn_wide.2 (SplitSeq_any p ⟨#[47]⟩ _)).mono ?_; rintro e w' ⟨rfl, rfl⟩)
  obtain ⟨W0, hW0⟩ : ∃ W0, (((w.alloc (.cells #[.slice A0 l0.length c0] 29)).alloc (.cells #[.string p] 9)).alloc (.cells #[.string ⟨#[47]⟩] 9)).alloc (.cells #[.int .i64 0] 3) = W0 := ⟨_, rfl⟩
  have hs0 : W0.heap.size = b + 4 := by rw [← hW0]; simp [hb]
  have hb0 : Boxed W0 b 29 (.slice A0 l0.length c0) := by rw [← hW0, ← hb]; exact (((Boxed.new w 29 _).alloc _).alloc _).alloc _
  have hb1 : Boxed W0 (b + 1) 9 (.string p) := by rw [← hW0, ← hb]; have := ((Boxed.new (w.alloc (.cells #[.slice A0 l0.length c0] 29)) 9 (.string p)).alloc (.cells #[.string ⟨#[47]⟩] 9)).alloc (.cells #[.int .i64 0] 3); simpa using this
  have hb2 : Boxed W0 (b + 2) 9 (.string ⟨#[47]⟩) := by rw [← hW0, ← hb]; have := (Boxed.new ((w.alloc (.cells #[.slice A0 l0.length c0] 29)).alloc (.cells #[.string p] 9)) 9 (.string ⟨#[47]⟩)).alloc (.cells #[.int .i64 0] 3); simpa using this
  have hb3 : Boxed W0 (b + 3) 3 (.int .i64 0) := by rw [← hW0, ← hb]; have := Boxed.new (((w.alloc (.cells #[.slice A0 l0.length c0] 29)).alloc (.cells #[.string p] 9)).alloc (.cells #[.string ⟨#[47]⟩] 9)) 3 (.int .i64 0); simpa using this
  have hB0 : Below b w W0 := by rw [← hW0, ← hb]; exact ((((Below.refl _ w).alloc (Nat.le_refl _) _).alloc (by simp) _).alloc (by simp; omega) _).alloc (by simp; omega) _
  have hO0 : W0.ownsRow B 9 1 (.slice A0 l0.length c0) l0.length (l0.map encStr) := by rw [← hW0]; exact ((((HV.out.alloc _).alloc _).alloc _).alloc _)
  have hpl : (sp p.data.toList).length ≤ p.size + 1 := by have := sp_len p.data.toList; have : p.data.toList.length = p.size := Array.length_toList; omega
  rw [hW0]
  refine wpIn_rangeFunc_T rfl (by omega) (gf := 86) (lb := #[.pointer (some ⟨b + 2, 0, none⟩), .pointer (some ⟨b + 1, 0, none⟩), .pointer (some ⟨b + 3, 0, none⟩)]) rfl trivial (enters_of Tryd.func86 (by kernel_rfl) rfl)
    (encs := fun x : Bs => #[encStr x]) (T := fun A C => ∃ u, C = A.setCell ⟨b + 1, 0, none⟩ u) (Kp := Keep b) (xs := sp p.data.toList) (fun A C h => by obtain ⟨u, rfl⟩ := h; exact KeepsOthers.setCell _ _ _)
    (fun l J W hW hJ hY h0 => split_in _ (by decide) l b J _ (fun s A u h => hJ s A _ h ⟨u, rfl⟩) hY p rfl (by omega) W ((hW.block (b + 1) (by omega)).trans hb1) ((hW.block (b + 2) (by omega)).trans hb2) ((hW.block (b + 3) (by omega)).trans hb3) h0)
    (fun h k => h.trans k) (fun W l o h => keep_put W o (by omega)) (fun _ => rfl) (FI B b W0 l0)
    (OwnFrom.and (Own.from (holdsRow_own B b 29 9 1 (fun pre : List Bs => (pre.foldl push l0).length) (fun pre => (pre.foldl push l0).map encStr) (fun _ v => Apart b v)) _) (ownFrom_below (by omega) (by omega)))
    ?turn ⟨⟨_, hb0, hO0, hap⟩, Below.refl _ _⟩
    (fun x => { tmps := #[.slice A0 l0.length c0, .string p, .pointer (some ⟨b, 0, none⟩), undef, .slice none 0 0, encStr x, .string p, .func (.func 86) #[] #[.pointer (some ⟨b + 2, 0, none⟩), .pointer (some ⟨b + 1, 0, none⟩), .pointer (some ⟨b + 3, 0, none⟩)], encStr x, undef, undef, undef, undef, undef, undef, undef, undef, undef, undef, undef, undef, undef, undef, undef, undef, undef], defers := [] }) ?assign ?body ?done
  case turn =>
    rintro s A C ⟨⟨v, hv, hrow, hG⟩, hB⟩ ⟨u, rfl⟩
    exact ⟨⟨v, hv.other (by omega) u, hrow.kept (grownBy_setCell' A (b + 1) u) (.inr (hG.ne (by omega) (by omega))), hG⟩, hB.setCell (p := ⟨b + 1, 0, none⟩) (by simp; omega) u⟩
  case assign =>
    intro l x W K hK
    gi_wp2
    exact hK
  case body =>
    rintro l pre x W ⟨⟨v, hv, hrow, hG⟩, hBW⟩ hx
    have hL : (pre.foldl push l0).length + 1 ≤ 200000 := by
      have h1 := push_fold_len pre l0
      have h2 := hx.length_le
      simp at h2
      omega
    have hnext : (pre ++ [x]).foldl push l0 = push (pre.foldl push l0) x := by simp
    obtain ⟨L, hLe⟩ : ∃ L, pre.foldl push l0 = L := ⟨_, rfl⟩
    rw [hLe] at hrow hL hnext
    have HN := Lib.hid hnext
    have HLe := Lib.hid hLe
    obtain ⟨z, hz⟩ : ∃ z, bs x = z := ⟨_, rfl⟩
    have hzl : z.toList = x := by rw [Lib.toList_data, ← hz]; rfl
    rw [show encStr x = Value.string z from congrArg Value.string hz]
    obtain ⟨A, c, rfl⟩ := own_form hrow
    have hc := hv.cell
    have hf := hv.frozen
    have HROW := Lib.hid hrow
    have HG := Lib.hid hG
    have HB := Lib.hid hBW
    have HV := Lib.hid hv
    have HZ := Lib.hid hz
    have hws : b + 4 ≤ W.heap.size := by have := hBW.size; omega
    clear hx hnext hLe hz hrow hG hBW hv
    by_cases c1 : x = []
    · subst c1
      gi_wp2
      exact ⟨KeepsFrom.refl _ _, fun _ _ _ => rfl, ⟨_, HV.out, by rw [HN.out, push_nil]; exact HROW.out, HG.out⟩, HB.out⟩
    · by_cases c2 : x = [46]
      · subst c2
        gi_wp2
        exact ⟨KeepsFrom.refl _ _, fun _ _ _ => rfl, ⟨_, HV.out, by rw [HN.out, show push L [46] = L from rfl]; exact HROW.out, HG.out⟩, HB.out⟩
      · by_cases c3 : x = [46, 46]
        · subst c3
          obtain ⟨hst, hod⟩ := own_less HROW.out
          have hap2 : Apart b (.slice A (L.length - 1) c) := by intro g e; exact HG.out g (by rw [← e]; exact ownBlock_slice)
          obtain ⟨m, hm⟩ : ∃ m, L.length - 1 = m := ⟨_, rfl⟩
          rw [hm] at hst hod hap2
          have hmx : max ((L.length : Int) - 1) 0 = (m : Int) := by omega
          have hwr : IntKind.i64.wrap ((L.length : Int) - 1) = (L.length : Int) - 1 := by rw [IntKind.wrap_i64]; omega
          have hwr2 : wrap64 ((L.length : Int) - 1) = (L.length : Int) - 1 := by unfold wrap64; omega
          have HOD := Lib.hid hod
          have HA2 := Lib.hid hap2
          have HL := Lib.hid hL
          clear hod hap2 hL hm
          gi_wp2
          exact ⟨(KeepsOthers.setCell _ _ _).from _, fun k h1 h2 => Below.heap_setCell _ _ _ k (by simp; omega),
            ⟨_, HV.out.set _, by rw [HN.out, push_dd]; exact HOD.out.kept (grownBy_setCell' W b _) (.inr (HV.out.not_row (by decide) HOD.out).symm), HA2.out⟩, HB.out.setCell (p := ⟨b, 0, none⟩) (by simp; omega) _⟩
        · have d1 : x.isEmpty = false := by cases x with | nil => exact absurd rfl c1 | cons a t => rfl
          have d2 : (x == [46]) = false := by rw [beq_eq_false_iff_ne]; exact c2
          have d3 : (x == [46, 46]) = false := by rw [beq_eq_false_iff_ne]; exact c3
          have HP : Hid (push L x = L ++ [x]) := by rw [Hid, push, if_neg (by rintro (h | h); exact c1 h; exact c2 h), if_neg c3]
          have HL := Lib.hid hL
          clear c1 c2 c3 hL
          gi_wp2_with (gi_at_builtin; refine wpListIn_append_apart _ rfl _ _ rfl B _ L.length (L.map encStr) rfl (HROW.out.alloc _) ⟨W.heap.size, 0, none⟩ 1 (.string z) rfl (cell_one_new W (.string z) 9 0 (.string z) rfl) rfl (by have := HL.out; omega) (by simp; omega) ?_; intro v' w1 hown' hgrow hwhere; obtain ⟨g', cap', rfl⟩ := ownsRow_succ hown'; obtain ⟨hv1, hv2, hr2, hk2, hb2⟩ := HV.out.appended (by decide) HROW.out (by omega) (by omega) hown' hgrow; have hc1 := hv1.cell; have hf1 := hv1.frozen)
          exact ⟨hk2.from _, fun k h1 h2 => ((Below.heap_setCell _ _ _ k (by simp; omega)).trans (hgrow.block k (by simp; omega) (HG.out.ne h1 h2).symm)).trans (Below.heap_alloc _ _ _ (by omega)), ⟨_, hv2, by rw [HN.out, HP.out]; simpa [show encStr x = Value.string z from congrArg Value.string HZ.out] using hr2, HG.out.where_ (by simp; omega) hwhere⟩, HB.out.trans hb2⟩
  case done =>
    rintro D W hD ⟨⟨v, hv, hrow, hG⟩, hBW⟩ hK
    have hc := hv.cell
    obtain ⟨A, c, rfl⟩ := own_form hrow
    have HROW := Lib.hid hrow
    have HB := Lib.hid ((hB0.mono (by omega : B ≤ b)).trans hBW)
    have hDb : b + 4 ≤ D := by omega
    clear hrow hG hBW hv hD
    gi_wp2
    refine ⟨by simp, .inl ⟨_, _, rfl, run_takeDeferred hK, ?_⟩⟩
    exact ⟨_, results_tmp rfl _ _ _, _, rfl, ownsRow_putObj HROW.out _ hK rfl, HB.out.trans (belowK_b (w := w) (by omega) W D _ _ (by omega) hK rfl rfl)⟩
end Go.Proofs.YtcmjpkfinbakkaaDoor

namespace Go.Proofs.YtcmjpkfinbakkaaDoor
open Go.RowKit

theorem Has_stroke (p : ByteArray) (w : World) (v : Bool) (hv : Hid (v = true ↔ 0 < p.size ∧ gb p 0 = 47)) :
    Calls Tryd.prog 45 #[.string p, .string ⟨#[47]⟩] w fun e w' => e = .returned (.bool v) ∧ w' = w := by
  have h : Lib.hasPrefix p.data.toList [47] = v := by
    rw [Bool.eq_iff_iff, hv.out, rooted_iff, rooted]
    cases p.data.toList with
    | nil => simp [Lib.hasPrefix]
    | cons a t =>
      simp [Lib.hasPrefix]
      exact ⟨Eq.symm, Eq.symm⟩
  refine (Tryd.strings_HasPrefix p ⟨#[47]⟩ w).mono ?_
  rintro e w' ⟨rfl, rfl⟩
  exact ⟨by rw [← h], rfl⟩

set_option maxRecDepth 100000 in
set_option maxHeartbeats 2000000 in
theorem Parts_any (cwd p : ByteArray) (w : World) (hc : cwd.size ≤ 40000) (hp : p.size ≤ 40000) :
    Calls Tryd.prog 34 #[.string cwd, .string p] w fun e w' => ∃ v', e = .returned v' ∧ w'.ownsRow w.heap.size 9 1 v' (parts cwd p).length ((parts cwd p).map encStr) ∧ Below w.heap.size w w' := by
  obtain ⟨v, hv⟩ : ∃ v : Bool, (v = true ↔ 0 < p.size ∧ gb p 0 = 47) := ⟨decide (0 < p.size ∧ gb p 0 = 47), by simp⟩
  have HV := Lib.hid hv
  obtain ⟨R, hR⟩ : ∃ R, parts cwd p = R := ⟨_, rfl⟩
  rw [hR]
  have HR := Lib.hid hR
  clear hv hR
  go_enter Tryd.func34, Tryd.ntmps34
  go_wp2_with fail
  refine (Has_stroke p w v HV.out).mono ?_
  rintro e w1 ⟨rfl, hw1⟩
  obtain rfl := hw1.symm
  cases v
  · have HE : Hid ((sp p.data.toList).foldl push ((sp cwd.data.toList).foldl push []) = R) := by
      rw [Hid, ← HR.out, parts, if_neg (fun h => by have := HV.out.2 h; simp at this)]
    have hb := push_fold_len (sp cwd.data.toList) []
    have hb2 := sp_len cwd.data.toList
    have hb3 : cwd.data.toList.length = cwd.size := Array.length_toList
    obtain ⟨M, hM⟩ : ∃ M, (sp cwd.data.toList).foldl push [] = M := ⟨_, rfl⟩
    have hml : M.length ≤ 40001 := by rw [← hM]; simp at hb; omega
    rw [hM] at HE
    have HM := Lib.hid hM
    clear hb hb2 hb3 hM
    go_wp2_with fail
    refine (follow_any w.heap.size (.slice none 0 0) [] cwd w (Nat.le_refl _) (World.ownsRow_nil _ _ _ _) (by simp; omega)).mono ?_
    rintro e w2 ⟨v2, rfl, hown2, hB2⟩
    rw [HM.out] at hown2
    obtain ⟨A, c, rfl⟩ := own_form hown2
    have HO2 := Lib.hid hown2
    have HB2 := Lib.hid hB2
    clear hown2 hB2
    go_wp2_with fail
    refine (follow_any w.heap.size _ M p w2 HB2.out.size HO2.out (by omega)).mono ?_
    rintro e w3 ⟨v3, rfl, hown3, hB3⟩
    rw [HE.out] at hown3
    have HO3 := Lib.hid hown3
    have HB3 := Lib.hid (HB2.out.trans hB3)
    clear hown3 hB3
    obtain ⟨A3, c3, rfl⟩ := own_form HO3.out
    go_wp2_with fail
    go_ret
    exact ⟨_, rfl, HO3.out, HB3.out⟩
  · have HE : Hid ((sp p.data.toList).foldl push [] = R) := by
      rw [Hid, ← HR.out, parts, if_pos (HV.out.1 rfl)]
    go_wp2_with fail
    refine (follow_any w.heap.size (.slice none 0 0) [] p w (Nat.le_refl _) (World.ownsRow_nil _ _ _ _) (by simp; omega)).mono ?_
    rintro e w3 ⟨v3, rfl, hown3, hB3⟩
    rw [HE.out] at hown3
    have HO3 := Lib.hid hown3
    have HB3 := Lib.hid hB3
    clear hown3 hB3
    obtain ⟨A3, c3, rfl⟩ := own_form HO3.out
    go_wp2_with fail
    go_ret
    exact ⟨_, rfl, HO3.out, HB3.out⟩

theorem written_join : ∀ L : List Bs, 47 :: Lib.join L [47] = written L
  | [] => rfl
  | a :: r => by
    rw [Lib.join_cons, written, if_neg (by simp)]
    induction r generalizing a with
    | nil => simp [joined, Lib.joinTail]
    | cons b r ih =>
      simp [joined, Lib.joinTail]
      rw [List.flatMap_def]
theorem bs_map (L : List Bs) : (L.map bs).map (fun x : ByteArray => x.data.toList) = L := by
  rw [List.map_map]
  exact List.map_id L

set_option maxRecDepth 100000 in
set_option maxHeartbeats 2000000 in
theorem rooted_any (A : Option Addr) (c : Nat) (L : List Bs) (w : World) (hS : StrsL w A L) (hcap : L.length ≤ c) (hn : (joined L).length ≤ 1000000) :
    Calls Tryd.prog 44 #[.slice A L.length c] w fun e w' => e = .returned (.string ⟨(written L).toArray⟩) ∧ Below w.heap.size w w' := by
  have hll : L.length ≤ (joined L).length := by
    clear hS hcap hn
    induction L with
    | nil => simp
    | cons a L ih => rw [joined_cons, List.length_cons]; omega
  obtain ⟨R, hR⟩ : ∃ R : ByteArray, (⟨(Lib.join L [47]).toArray⟩ : ByteArray) = R := ⟨_, rfl⟩
  have hw : 47 :: R.data.toList = written L := by rw [← hR]; exact written_join L
  have hres : (⟨#[47]⟩ : ByteArray) ++ R = ⟨(written L).toArray⟩ := bytes_eq (by rw [← hw]; simp)
  have hRs : R.size ≤ 1000000 := by
    have h1 : R.data.toList.length = R.size := Array.length_toList
    have h2 : (written L).length ≤ (joined L).length + 1 := by
      unfold written; split <;> simp
    rw [← hw] at h2
    simp at h2
    omega
  have HJ : Calls Tryd.prog 55 #[.slice A L.length c, .string ⟨#[47]⟩] w fun e w' => e = .returned (.string R) ∧ Below w.heap.size w w' := by
    by_cases hl : 0 < L.length
    · obtain ⟨g, off, rfl, hg, hcell⟩ := hS hl
      have := Tryd.strings_Join g off c (L.map bs) ⟨#[47]⟩ w (fun j x hx => by
        rw [List.getElem?_map] at hx
        have hj : j < L.length := by
          by_cases h : j < L.length
          · exact h
          · rw [List.getElem?_eq_none (by omega)] at hx; cases hx
        rw [List.getElem?_eq_getElem hj] at hx
        injection hx with hx
        rw [hcell j hj, ← hx]; rfl) hg (by simp; omega) (by simpa using hcap) (by
          rw [bs_map]
          have h1 : (47 :: Lib.join L [47]).length = (written L).length := congrArg List.length (written_join L)
          have h2 : (written L).length ≤ (joined L).length + 1 := by
            unfold written; split <;> simp
          simp only [List.length_cons] at h1
          show (Lib.join L [47]).length ≤ _
          omega)
      rw [bs_map, List.length_map] at this
      refine this.mono ?_
      rintro e w' ⟨rfl, hB⟩
      exact ⟨by rw [← hR], hB⟩
    · obtain rfl : L = [] := List.length_eq_zero_iff.1 (by omega)
      refine (Tryd.strings_Join_none A c ⟨#[47]⟩ w).mono ?_
      rintro e w' ⟨rfl, rfl⟩
      exact ⟨by rw [← hR]; rfl, Below.refl _ _⟩
  have HJJ := Lib.hid HJ
  clear HJ hw hR hS hn hll
  go_enter Tryd.func44, Tryd.ntmps44
  go_wp2_with fail
  refine HJJ.out.mono ?_
  rintro e w1 ⟨rfl, hB⟩
  have HB := Lib.hid hB
  clear hB
  go_wp2_with fail
  go_ret
  exact ⟨rfl, HB.out⟩
end Go.Proofs.YtcmjpkfinbakkaaDoor

namespace Go.Proofs.YtcmjpkfinbakkaaDoor
open Go.RowKit

theorem own_cap2 {w : World} {B n c : Nat} {A : Option Addr} {xs : List Value} (h : w.ownsRow B 9 1 (.slice A n c) n xs) : n ≤ c := by
  rcases h.2 with ⟨h1, h0⟩ | ⟨g, c', cur, hv, _, _, h1, _⟩
  · omega
  · injection hv with _ _ e
    rw [e]; exact h1

theorem idx_iff (c : UInt8) : ∀ l : Bs, 0 ≤ Lib.indexByte l c ↔ c ∈ l
  | [] => by simp [Lib.indexByte]
  | b :: l => by
    have ih := idx_iff c l
    unfold Lib.indexByte
    by_cases h : b = c
    · simp [h]
    · have h1 : (b == c) = false := by rw [beq_eq_false_iff_ne]; exact h
      rw [h1]
      simp only [List.mem_cons]
      by_cases h2 : 0 ≤ Lib.indexByte l c
      · have h3 : (Lib.indexByte l c == -1) = false := by rw [beq_eq_false_iff_ne]; omega
        rw [h3]
        simp [ih.1 h2]
        omega
      · have hge : ∀ m : Bs, -1 ≤ Lib.indexByte m c := fun m => by
          induction m with
          | nil => simp [Lib.indexByte]
          | cons d m ihm =>
            unfold Lib.indexByte
            split
            · omega
            · split
              · omega
              · omega
        have h3 : (Lib.indexByte l c == -1) = true := by rw [beq_iff_eq]; have := hge l; omega
        rw [h3]
        simp [Ne.symm h]
        exact fun e => h2 (ih.2 e)
theorem at_iff (s : ByteArray) (c : UInt8) : ∀ n k : Nat, s.size + 1 ≤ n + k → (0 ≤ at_ s c n k ↔ c ∈ s.data.toList.drop k)
  | 0, k, h => by
    have hl : s.data.toList.length = s.size := Array.length_toList
    rw [at_, List.drop_eq_nil_of_le (by omega)]; simp
  | n + 1, k, h => by
    have hl : s.data.toList.length = s.size := Array.length_toList
    have ih := at_iff s c n (k + 1) (by omega)
    rw [at_]
    by_cases hk : k < s.size
    · have hd : s.data.toList.drop k = gb s k :: s.data.toList.drop (k + 1) := by
        rw [List.drop_eq_getElem_cons (by omega)]
        unfold gb
        rw [List.getD_eq_getElem?_getD, List.getElem?_eq_getElem (by omega)]; rfl
      rw [if_pos hk, hd, List.mem_cons]
      by_cases hc : gb s k = c
      · rw [if_pos hc]; simp [hc]
      · rw [if_neg hc, ih]
        simp [Ne.symm hc]
    · rw [if_neg hk, List.drop_eq_nil_of_le (by omega)]; simp
theorem at_mem (s : ByteArray) (c : UInt8) : 0 ≤ at_ s c (s.size + 1) 0 ↔ c ∈ s.data.toList := by
  have := at_iff s c (s.size + 1) 0 (by omega)
  simpa using this

end Go.Proofs.YtcmjpkfinbakkaaDoor

namespace Go.Proofs.YtcmjpkfinbakkaaDoor
open Go.RowKit

set_option maxRecDepth 100000 in
set_option maxHeartbeats 2000000 in
theorem Abs_any (cwd p : ByteArray) (w : World) (hc : cwd.size ≤ 40000) (hp : p.size ≤ 40000) (rs : Bs) (rn : Int) (hr : Hid (abs_ cwd p = (rs, rn))) :
    Calls Tryd.prog 32 #[.string cwd, .string p] w fun e w' => e = .returned (.tuple #[.string ⟨rs.toArray⟩, .int .i64 rn]) ∧ Below w.heap.size w w' := by
  by_cases h0 : p.size = 0
  · have hh := hr.out
    rw [abs_, if_pos (.inl h0)] at hh
    injection hh with e1 e2
    subst e1
    subst e2
    have he : p.toList.isEmpty = true := by
      have h2 : p.data.toList.length = p.size := Array.length_toList
      rw [Lib.toList_data, List.isEmpty_iff, ← List.length_eq_zero_iff]; omega
    clear hr
    go_enter Tryd.func32, Tryd.ntmps32
    go_wp2_with fail
    go_ret2
    exact ⟨rfl, Below.refl _ _⟩
  · have he : p.toList.isEmpty = false := by
      have h2 : p.data.toList.length = p.size := Array.length_toList
      rw [Lib.toList_data]
      cases h : p.data.toList with
      | nil => rw [h] at h2; simp at h2; omega
      | cons a t => rfl
    obtain ⟨x, hx⟩ : ∃ x, decide (0 ≤ Lib.indexByte p.data.toList 0) = x := ⟨_, rfl⟩
    obtain ⟨y, hy⟩ : ∃ y, decide (0 ≤ Lib.indexByte cwd.data.toList 0) = y := ⟨_, rfl⟩
    have h1 : Calls Tryd.prog 43 #[.string p, .string ⟨#[0]⟩] w fun e w' => e = .returned (.bool x) ∧ w' = w := by rw [← hx]; exact Tryd.strings_Contains_one p 0 w
    have h2 : Calls Tryd.prog 43 #[.string cwd, .string ⟨#[0]⟩] w fun e w' => e = .returned (.bool y) ∧ w' = w := by rw [← hy]; exact Tryd.strings_Contains_one cwd 0 w
    have HX : Hid (x = true ↔ 0 ≤ at_ p 0 (p.size + 1) 0) := by rw [Hid, ← hx, decide_eq_true_iff, idx_iff, at_mem]
    have HY : Hid (y = true ↔ 0 ≤ at_ cwd 0 (cwd.size + 1) 0) := by rw [Hid, ← hy, decide_eq_true_iff, idx_iff, at_mem]
    have H1 := Lib.hid h1
    have H2 := Lib.hid h2
    have hh := hr.out
    rw [abs_] at hh
    clear h1 h2 hx hy hr
    cases y with
    | true =>
      rw [if_pos (.inr (.inr (HY.out.1 rfl)))] at hh
      injection hh with e1 e2
      subst e1
      subst e2
      go_enter Tryd.func32, Tryd.ntmps32
      go_wp2_with fail
      refine H2.out.mono ?_
      rintro e w1 ⟨rfl, hw1⟩
      obtain rfl := hw1.symm
      go_wp2_with fail
      go_ret2
      exact ⟨rfl, Below.refl _ _⟩
    | false =>
      cases x with
      | true =>
        rw [if_pos (.inr (.inl (HX.out.1 rfl)))] at hh
        injection hh with e1 e2
        subst e1
        subst e2
        go_enter Tryd.func32, Tryd.ntmps32
        go_wp2_with fail
        refine H2.out.mono ?_
        rintro e w1 ⟨rfl, hw1⟩
        obtain rfl := hw1.symm
        go_wp2_with fail
        refine H1.out.mono ?_
        rintro e w1 ⟨rfl, hw1⟩
        obtain rfl := hw1.symm
        go_wp2_with fail
        go_ret2
        exact ⟨rfl, Below.refl _ _⟩
      | false =>
        rw [if_neg (by rintro (h | h | h); exact h0 h; exact absurd (HX.out.2 h) (by simp); exact absurd (HY.out.2 h) (by simp))] at hh
        have hl := parts_len cwd p
        have hj := parts_joined cwd p
        obtain ⟨L, hL⟩ : ∃ L, parts cwd p = L := ⟨_, rfl⟩
        rw [hL] at hh hl hj
        have HL := Lib.hid hL
        have HH := Lib.hid hh
        clear hL hh HX HY
        go_enter Tryd.func32, Tryd.ntmps32
        go_wp2_with fail
        refine H2.out.mono ?_
        rintro e w1 ⟨rfl, hw1⟩
        obtain rfl := hw1.symm
        go_wp2_with fail
        refine H1.out.mono ?_
        rintro e w1 ⟨rfl, hw1⟩
        obtain rfl := hw1.symm
        go_wp2_with fail
        refine (Parts_any cwd p w hc hp).mono ?_
        rintro e w1 ⟨v, rfl, hown, hB⟩
        rw [HL.out] at hown
        obtain ⟨A, c, rfl⟩ := own_form hown
        have HO := Lib.hid hown
        have HB := Lib.hid hB
        clear hown hB
        go_wp2_with fail
        go_loop [25] (fun ia => ∃ k : Nat, ia = .int .i64 k ∧ k ≤ L.length ∧ Hid (∀ i (h : i < L.length), i < k → L[i].length ≤ 60)) (fun ia => L.length - (intOf ia).toNat)
        case atStart => exact ⟨0, rfl, by omega, fun i _ h => absurd h (Nat.not_lt_zero _)⟩
        case round =>
          obtain ⟨k, rfl, hk, HK⟩ := hrel
          have b0 : (0 : Int) ≤ (k : Int) := by omega
          by_cases hlt : k < L.length
          · have b1 : (k : Int) < (L.length : Int) := by omega
            obtain ⟨g, off, rfl, hg, hcell⟩ := strs_own HO.out (by omega)
            have hck := hcell k hlt
            have hadd : (⟨g, off, none⟩ : Addr).add k = ⟨g, off + k, none⟩ := by unfold Addr.add; by_cases h : k = 0 <;> simp [h]
            obtain ⟨s, hs⟩ : ∃ s : ByteArray, ⟨L[k].toArray⟩ = s := ⟨_, rfl⟩
            rw [show encStr L[k] = .string ⟨L[k].toArray⟩ from rfl, hs] at hck
            have HSZ : Hid (L[k].length = s.size) := by rw [← hs]; rfl
            clear hcell hs
            by_cases h3 : s.size ≤ 60
            · have b3 : ¬ (60 : Int) < (s.size : Int) := by omega
              go_wp2_with fail
              refine ⟨⟨k + 1, by go_num, by omega, fun i hi hik => ?_⟩, by simp [intOf]; omega⟩
              by_cases h : i < k
              · exact HK.out i hi h
              · obtain rfl : i = k := by omega
                have := HSZ.out
                omega
            · have b3 : (60 : Int) < (s.size : Int) := by omega
              have hh := HH.out
              rw [if_pos ⟨L[k], List.getElem_mem hlt, by have := HSZ.out; omega⟩] at hh
              injection hh with e1 e2
              subst e1
              subst e2
              go_wp2_with fail
              go_ret2
              exact ⟨rfl, HB.out⟩
          · have b1 : ¬ (k : Int) < (L.length : Int) := by omega
            have hh := HH.out
            rw [if_neg (by
              rintro ⟨x, hx, h⟩
              obtain ⟨i, hi, rfl⟩ := List.mem_iff_getElem.1 hx
              have := HK.out i hi (by omega)
              omega)] at hh
            obtain ⟨S, hS⟩ : ∃ S : ByteArray, ⟨(written L).toArray⟩ = S := ⟨_, rfl⟩
            have hSz : (written L).length = S.size := by rw [← hS]; rfl
            have hW := rooted_any A c L w1 (strs_own HO.out) (own_cap2 HO.out) (by omega)
            rw [hS] at hW
            rw [hSz] at hh
            have HW := Lib.hid hW
            have HSS := Lib.hid hS
            clear hW hS hSz
            go_wp2_with fail
            refine HW.out.mono ?_
            rintro e w2 ⟨rfl, hB2⟩
            have HB2 : Hid (Below w.heap.size w w2) := HB.out.trans (hB2.mono HB.out.size)
            clear hB2
            by_cases c1 : 20 < L.length
            · have c1I : (20 : Int) < (L.length : Int) := by omega
              rw [if_pos (.inl c1)] at hh
              injection hh with e1 e2
              subst e1
              subst e2
              go_wp2_with fail
              go_ret2
              exact ⟨rfl, HB2.out⟩
            · have c1I : ¬ (20 : Int) < (L.length : Int) := by omega
              by_cases c2 : 200 < S.size
              · have c2I : (200 : Int) < (S.size : Int) := by omega
                rw [if_pos (.inr c2)] at hh
                injection hh with e1 e2
                subst e1
                subst e2
                go_wp2_with fail
                go_ret2
                exact ⟨rfl, HB2.out⟩
              · have c2I : ¬ (200 : Int) < (S.size : Int) := by omega
                rw [if_neg (by rintro (h | h); exact c1 h; exact c2 h)] at hh
                injection hh with e1 e2
                subst e1
                subst e2
                go_wp2_with fail
                go_ret2
                exact ⟨by rw [HSS.out]; rfl, HB2.out⟩

theorem alive_abs : abs_ ⟨#[47, 97]⟩ ⟨#[46, 46, 47, 98]⟩ = ([47, 98], 0) := by decide
end Go.Proofs.YtcmjpkfinbakkaaDoor

namespace Go.Proofs.YtcmjpkfinbakkaaDoor
open Go.RowKit Go.Maps Go.ChangeMaps
set_option linter.unusedVariables false
def root1 : ByteArray := ⟨#[47]⟩
/-- The names of the place that a path leads to. -/
def findL (p : ByteArray) : Pth := parts root1 ⟨(abs_ root1 p).1.toArray⟩
/-- Why a path leads nowhere: 0 if it leads to a place. -/
def findE (T : Tr) (p : ByteArray) : Int := if (abs_ root1 p).2 = 0 then (wayE T [] (findL p) : Nat) else (abs_ root1 p).2
def FindP (f : Nat) (T : Tr) (A : Pth → Nat) (p : ByteArray) (w : World) (e : Ending) (w' : World) : Prop :=
  Below w.heap.size w w' ∧ ((findE T p ≠ 0 ∧ e = .returned (.tuple #[spot0, .int .i64 (findE T p)])) ∨
    (findE T p = 0 ∧ findL p = [] ∧ e = .returned (.tuple #[spotV (.pointer none) ⟨#[]⟩ (.pointer (some ⟨f, 0, none⟩)) (.slice none 0 0), .int .i64 0])) ∨
    (findE T p = 0 ∧ ∃ d k dn nv, findL p = d ++ [k] ∧ T d = some dn ∧ dn.file = false ∧ w'.ownsRow w.heap.size 9 1 nv (d ++ [k]).length ((d ++ [k]).map encStr) ∧
      e = .returned (.tuple #[spotV (.pointer (some ⟨A d, 0, none⟩)) ⟨k.toArray⟩ (ptrV (kidsOf T A d k)) nv, .int .i64 0])))
set_option maxRecDepth 100000 in
set_option maxHeartbeats 400000 in
theorem here_any (f : Nat) (w : World) : Calls Tryd.prog 21 #[.pointer (some ⟨f, 0, none⟩)] w fun e w' => e = .returned (.pointer (some ⟨f, 0, none⟩)) ∧ w' = w := by
  go_enter Tryd.func21, Tryd.ntmps21
  go_wp2_with fail
  go_ret
  exact ⟨rfl, rfl⟩
def boxL : List Value := [.pointer none, .string ⟨#[]⟩, .pointer none, .slice none 0 0]
theorem row_nil {w : World} {B : Nat} {v : Value} {xs : List Value} (h : w.ownsRow B 9 1 v ([] : Pth).length xs) : ∃ Ad c, v = .slice Ad 0 c := by
  rcases h.2 with ⟨rfl, _⟩ | ⟨g, cap, cur, rfl, _⟩
  · exact ⟨none, 0, rfl⟩
  · exact ⟨_, _, rfl⟩
theorem find_below1 {w w1 w3 : World} (h1 : Below (w.alloc (.cells #[.pointer none, .string ⟨#[]⟩, .pointer none, .slice none 0 0] 50)).heap.size (w.alloc (.cells #[.pointer none, .string ⟨#[]⟩, .pointer none, .slice none 0 0] 50)) w1) (h3 : Below w1.heap.size w1 w3) : Below w.heap.size w w3 := by
  have s1 := h1.size
  have hz : (w.alloc (.cells #[.pointer none, .string ⟨#[]⟩, .pointer none, .slice none 0 0] 50)).heap.size = w.heap.size + 1 := by simp
  rw [hz] at s1
  exact (((Below.refl _ w).alloc (Nat.le_refl _) _).trans (h1.mono (by omega))).trans (h3.mono (by omega))
theorem row_strs {w : World} {B lg : Nat} {v : Value} {L : Pth} (hlg : L.length = lg) (h : w.ownsRow B 9 1 v lg (L.map encStr)) (h0 : 0 < lg) : ∃ g c, v = .slice (some ⟨g, 0, none⟩) lg c ∧ lg ≤ c ∧ ∀ i (hi : i < L.length), w.cell? ⟨g, i, none⟩ = some (.string ⟨L[i].toArray⟩) := by
  obtain ⟨g, c, rfl, _, _⟩ := h.form h0
  refine ⟨g, c, rfl, ?_, fun i hi => ?_⟩
  · rcases h.2 with ⟨e, _⟩ | ⟨g', c', cur, e, _, _, h1, _⟩
    · cases e
    · cases e; exact h1
  · rw [World.ownsRow.cellAt h i (by omega)]
    rw [List.getElem?_map, List.getElem?_eq_getElem hi]
    rfl
theorem row_names {w w1 w3 w5 : World} {g c lg : Nat} {xs : List Value} (h : w3.ownsRow w1.heap.size 9 1 (.slice (some ⟨g, 0, none⟩) lg c) lg xs) (h1 : Below (w.alloc (.cells #[.pointer none, .string ⟨#[]⟩, .pointer none, .slice none 0 0] 50)).heap.size (w.alloc (.cells #[.pointer none, .string ⟨#[]⟩, .pointer none, .slice none 0 0] 50)) w1) (h3 : Below w1.heap.size w1 w3) (h5 : Below w3.heap.size w3 w5) {v0 v1 v2 v3 : Value} :
    ((((w5.setCell ⟨w.heap.size, 0, none⟩ v0).setCell ⟨w.heap.size, 1, none⟩ v1).setCell ⟨w.heap.size, 2, none⟩ v2).setCell ⟨w.heap.size, 3, none⟩ v3).ownsRow w.heap.size 9 1 (.slice (some ⟨g, 0, none⟩) lg c) lg xs := by
  have s1 := h1.size
  have hz : (w.alloc (.cells #[.pointer none, .string ⟨#[]⟩, .pointer none, .slice none 0 0] 50)).heap.size = w.heap.size + 1 := by simp
  rw [hz] at s1
  refine ⟨h.1, ?_⟩
  rcases h.2 with ⟨e, _⟩ | ⟨g', c', cur, e, hb, h2, r⟩
  · cases e
  · cases e
    refine .inr ⟨g, c, cur, rfl, by omega, ?_, r⟩
    have hne : g ≠ w.heap.size := by omega
    rw [Below.heap_setCell _ _ _ _ hne, Below.heap_setCell _ _ _ _ hne, Below.heap_setCell _ _ _ _ hne, Below.heap_setCell _ _ _ _ hne, h5.block _ (Array.getElem?_eq_some_iff.1 h2).1]
    exact h2
theorem walk_good (f g c : Nat) (d : Pth) (k : Bz) (w : World) {B N : Nat} {tl : List Value} {T : Tr} {A : Pth → Nat} {M : Pth → Option Nat} {V : Pth → Value} (hT : TreeAt w B N f 47 tl T A M V) {r0 : Nd} (h0 : T [] = some r0) (hr0 : r0.file = false)
    {lg : Nat} (hlg : (d ++ [k]).length = lg) (hL2 : (d ++ [k]).length ≤ 1000000) (hc : lg ≤ c) (hS : ∀ i (h : i < (d ++ [k]).length), w.cell? ⟨g, i, none⟩ = some (.string ⟨(d ++ [k])[i].toArray⟩)) (hs : ∀ x ∈ d ++ [k], x.length ≤ maxLen) (hE : wayE T [] (d ++ [k]) = 0) :
    Calls Tryd.prog 33 #[.pointer (some ⟨f, 0, none⟩), .slice (some ⟨g, 0, none⟩) lg c] w fun e w' => (∃ dn, T d = some dn ∧ dn.file = false) ∧
      e = .returned (.tuple #[spotV (.pointer (some ⟨A d, 0, none⟩)) ⟨k.toArray⟩ (ptrV (kidsOf T A d k)) (.slice (some ⟨g, 0, none⟩) lg c), .int .i64 0]) ∧ Below w.heap.size w w' := by
  subst hlg
  refine (walk_any f g c 0 0 (d ++ [k]) w hT h0 hr0 (by simp) hL2 hc hS hs).mono ?_
  rintro e w' ⟨h1, ⟨h2, _⟩ | ⟨_, d', k', dn, h3, h4, h5, h6⟩⟩
  · exact absurd hE h2
  · obtain ⟨e1, e2⟩ := List.append_inj' h3 rfl
    have e2 : k = k' := by simpa using e2
    subst e1; subst e2
    exact ⟨⟨dn, h4, h5⟩, h6, h1⟩
theorem walk_bad (f g c : Nat) (d : Pth) (k : Bz) (w : World) {B N : Nat} {tl : List Value} {T : Tr} {A : Pth → Nat} {M : Pth → Option Nat} {V : Pth → Value} (hT : TreeAt w B N f 47 tl T A M V) {r0 : Nd} (h0 : T [] = some r0) (hr0 : r0.file = false)
    {lg : Nat} (hlg : (d ++ [k]).length = lg) (hL2 : (d ++ [k]).length ≤ 1000000) (hc : lg ≤ c) (hS : ∀ i (h : i < (d ++ [k]).length), w.cell? ⟨g, i, none⟩ = some (.string ⟨(d ++ [k])[i].toArray⟩)) (hs : ∀ x ∈ d ++ [k], x.length ≤ maxLen) (hE : ¬ wayE T [] (d ++ [k]) = 0) :
    Calls Tryd.prog 33 #[.pointer (some ⟨f, 0, none⟩), .slice (some ⟨g, 0, none⟩) lg c] w fun e w' => e = .returned (.tuple #[spot0, .int .i64 (wayE T [] (d ++ [k]))]) ∧ Below w.heap.size w w' := by
  subst hlg
  refine (walk_any f g c 0 0 (d ++ [k]) w hT h0 hr0 (by simp) hL2 hc hS hs).mono ?_
  rintro e w' ⟨h1, ⟨_, h2⟩ | ⟨h2, _⟩⟩
  · exact ⟨h2, h1⟩
  · exact absurd h2 hE
theorem box_facts {w : World} {a : Nat} {v0 v1 v2 v3 : Value} (hb : w.heap[a]? = some (.cells [v0, v1, v2, v3].toArray 50 (0, 0))) :
    w.cell? ⟨a, 0, none⟩ = some v0 ∧ w.cell? ⟨a, 1, none⟩ = some v1 ∧ w.cell? ⟨a, 2, none⟩ = some v2 ∧ w.cell? ⟨a, 3, none⟩ = some v3 ∧ w.frozen? ⟨a, 0, none⟩ = false ∧ w.frozen? ⟨a, 1, none⟩ = false ∧ w.frozen? ⟨a, 2, none⟩ = false ∧ w.frozen? ⟨a, 3, none⟩ = false :=
  ⟨cell_of hb 0, cell_of hb 1, cell_of hb 2, cell_of hb 3, free_of hb 0, free_of hb 1, free_of hb 2, free_of hb 3⟩
theorem find_below {w w1 w3 w5 : World} (h1 : Below (w.alloc (.cells #[.pointer none, .string ⟨#[]⟩, .pointer none, .slice none 0 0] 50)).heap.size (w.alloc (.cells #[.pointer none, .string ⟨#[]⟩, .pointer none, .slice none 0 0] 50)) w1) (h3 : Below w1.heap.size w1 w3) (h5 : Below w3.heap.size w3 w5) :
    Below w.heap.size w w5 ∧ w5.heap[w.heap.size]? = some (.cells [.pointer none, .string ⟨#[]⟩, .pointer none, .slice none 0 0].toArray 50 (0, 0)) := by
  have s1 := h1.size
  have s3 := h3.size
  have hz : (w.alloc (.cells #[.pointer none, .string ⟨#[]⟩, .pointer none, .slice none 0 0] 50)).heap.size = w.heap.size + 1 := by simp
  rw [hz] at s1
  constructor
  · exact ((((Below.refl _ w).alloc (Nat.le_refl _) _).trans (h1.mono (by omega))).trans (h3.mono (by omega))).trans (h5.mono (by omega))
  · rw [h5.block _ (by omega), h3.block _ (by omega), h1.block _ (by omega)]
    exact heap_alloc_new w _
set_option maxRecDepth 100000 in
set_option maxHeartbeats 4000000 in
theorem find_any (f : Nat) (p : ByteArray) (w : World) {B N : Nat} {tl : List Value} {T : Tr} {A : Pth → Nat} {M : Pth → Option Nat} {V : Pth → Value} (hT : TreeAt w B N f 47 tl T A M V) {r0 : Nd} (h0 : T [] = some r0) (hr0 : r0.file = false) (hp : p.size ≤ 30000)
    (hlen : (abs_ root1 p).1.length ≤ 40000) (hpl : (findL p).length ≤ 1000000 ∧ ∀ x ∈ findL p, x.length ≤ maxLen) :
    Calls Tryd.prog 20 #[.pointer (some ⟨f, 0, none⟩), .string p] w (FindP f T A p w) := by
  obtain ⟨rs, rn, hr⟩ : ∃ rs rn, abs_ root1 p = (rs, rn) := ⟨_, _, rfl⟩
  have HABS := Lib.hid (fun w => Abs_any root1 p w (by decide) (by omega) rs rn hr)
  have HHE := Lib.hid (fun w => here_any f w)
  have HT := Lib.hid hT
  have HR := Lib.hid hr
  obtain ⟨Q, hQ⟩ : ∃ Q, FindP f T A p w = Q := ⟨_, rfl⟩
  rw [hQ]
  have HQ := Lib.hid hQ
  have hlen' : rs.length ≤ 40000 := by rw [hr] at hlen; exact hlen
  have HPL := Lib.hid hpl
  have HL : Hid (findL p = parts root1 ⟨rs.toArray⟩) := by rw [Hid, findL, hr]
  by_cases hn : rn = 0
  · subst hn
    have HPA := Lib.hid (fun w => Parts_any root1 ⟨rs.toArray⟩ w (by decide) (by simpa [ByteArray.size] using hlen'))
    have HF : Hid (findE T p = (wayE T [] (findL p) : Nat)) := by rw [Hid, findE, hr]; rfl
    obtain ⟨L, hL⟩ : ∃ L, findL p = L := ⟨_, rfl⟩
    rw [← HL.out, hL] at HPA
    rw [hL] at HF HPL
    have HLL := Lib.hid hL
    have hrt : root1 = ⟨#[47]⟩ := rfl
    rw [hrt] at HABS HPA
    clear hT hr hQ hL hlen hpl HL HR hrt hlen'
    cases L with
    | nil =>
      have HWR := Lib.hid (fun (Ad : Option Addr) (c : Nat) (w : World) => walk_root f Ad c w)
      go_enter Tryd.func20, Tryd.ntmps20
      go_wp2_with (first
        | (go_at_call 32; refine (HABS.out _).mono ?_; rintro e w1 ⟨rfl, h1⟩; have H1 := Lib.hid h1; clear h1; simp only [])
        | (go_at_call 21; refine (HHE.out _).mono ?_; rintro e w2 ⟨rfl, h2⟩; obtain rfl := h2.symm; simp only [])
        | (go_at_call 34; refine (HPA.out _).mono ?_; rintro e w3 ⟨v3, rfl, h3, h3b⟩; obtain ⟨Ad, c, rfl⟩ := row_nil h3; have H3 := Lib.hid h3b; clear h3 h3b; simp only [])
        | (go_at_call 33; refine (HWR.out _ _ _).mono ?_; rintro e w5 ⟨rfl, h5⟩; have H5 := Lib.hid h5; have HC := Lib.hid (find_below H1.out H3.out h5); clear h5; obtain ⟨q0, q1, q2, q3, u0, u1, u2, u3⟩ := box_facts HC.out.2; simp only [spotV]))
      refine bodyPost_ret (v := .tuple #[spotV (.pointer none) ⟨#[]⟩ (.pointer (some ⟨f, 0, none⟩)) (.slice none 0 0), .int .i64 0]) ?_ rfl ?_
      · simp [results, Tryd.results38, go_sem, q0, q1, q2, q3]
        rfl
      · rw [← HQ.out]
        exact ⟨below4 HC.out.1 _ _ _ _, .inr (.inl ⟨HF.out.trans rfl, HLL.out, rfl⟩)⟩
    | cons k0 r =>
      have hk0 : (k0 :: r) ≠ [] := by simp
      obtain ⟨d, k, hdk⟩ : ∃ d k, k0 :: r = d ++ [k] := ⟨_, _, (List.dropLast_concat_getLast hk0).symm⟩
      rw [hdk] at HF HPA HPL HLL
      obtain ⟨lg, hlg⟩ : ∃ lg, (d ++ [k]).length = lg := ⟨_, rfl⟩
      have HLG := Lib.hid hlg
      have hlg0 : 0 < lg := by rw [← hlg]; simp
      rw [hlg] at HPA
      by_cases hE : wayE T [] (d ++ [k]) = 0
      · have HWR := Lib.hid (fun (g c : Nat) (w : World) (hT : TreeAt w B N f 47 tl T A M V) hc hS => walk_good f g c d k w hT h0 hr0 HLG.out HPL.out.1 hc hS HPL.out.2 hE)
        obtain ⟨kv, hkv⟩ : ∃ kv, ptrV (kidsOf T A d k) = .pointer kv := by cases kidsOf T A d k <;> exact ⟨_, rfl⟩
        have HKV := Lib.hid hkv
        rw [hkv] at HWR
        have HE := Lib.hid hE
        clear hkv hE hdk hk0 hlg
        go_enter Tryd.func20, Tryd.ntmps20
        go_wp2_with (first
          | (go_at_call 32; refine (HABS.out _).mono ?_; rintro e w1 ⟨rfl, h1⟩; have H1 := Lib.hid h1; clear h1; simp only [])
          | (go_at_call 21; refine (HHE.out _).mono ?_; rintro e w2 ⟨rfl, h2⟩; obtain rfl := h2.symm; simp only [])
          | (go_at_call 34; refine (HPA.out _).mono ?_; rintro e w3 ⟨v3, rfl, h3, h3b⟩; obtain ⟨g, c, rfl, hcc, hS⟩ := row_strs HLG.out h3 hlg0; have H3 := Lib.hid h3b; have HROW := Lib.hid h3; have HS := Lib.hid hS; clear h3 h3b hS; simp only [])
          | (go_at_call 33; refine (HWR.out _ _ _ (HT.out.only (X := fun _ => False) (Only.of_below (find_below1 H1.out H3.out)) (fun _ h => h.elim)) hcc HS.out).mono ?_; rintro e w5 ⟨⟨dn, hdn⟩, rfl, h5⟩; have H5 := Lib.hid h5; have HDN := Lib.hid hdn; have HC := Lib.hid (find_below H1.out H3.out h5); clear h5 hdn; obtain ⟨q0, q1, q2, q3, u0, u1, u2, u3⟩ := box_facts HC.out.2; simp only [spotV]))
        refine bodyPost_ret (v := .tuple #[spotV (.pointer (some ⟨A d, 0, none⟩)) ⟨k.toArray⟩ (.pointer kv) (.slice (some ⟨g, 0, none⟩) lg c), .int .i64 0]) ?_ rfl ?_
        · simp [results, Tryd.results38, go_sem, q0, q1, q2, q3]
          rfl
        · rw [← HQ.out]
          refine ⟨below4 HC.out.1 _ _ _ _, .inr (.inr ⟨HF.out.trans (by rw [HE.out]; rfl), d, k, dn, .slice (some ⟨g, 0, none⟩) lg c, HLL.out, HDN.out.1, HDN.out.2, ?_, ?_⟩)⟩
          · rw [HLG.out]
            exact row_names HROW.out H1.out H3.out H5.out
          · rw [HKV.out]
      · have HWR := Lib.hid (fun (g c : Nat) (w : World) (hT : TreeAt w B N f 47 tl T A M V) hc hS => walk_bad f g c d k w hT h0 hr0 HLG.out HPL.out.1 hc hS HPL.out.2 hE)
        have HE := Lib.hid hE
        obtain ⟨we, hwe⟩ : ∃ we, wayE T [] (d ++ [k]) = we := ⟨_, rfl⟩
        rw [hwe] at HWR HF HE
        clear hE hdk hk0 hlg hwe
        go_enter Tryd.func20, Tryd.ntmps20
        go_wp2_with (first
          | (go_at_call 32; refine (HABS.out _).mono ?_; rintro e w1 ⟨rfl, h1⟩; have H1 := Lib.hid h1; clear h1; simp only [])
          | (go_at_call 21; refine (HHE.out _).mono ?_; rintro e w2 ⟨rfl, h2⟩; obtain rfl := h2.symm; simp only [])
          | (go_at_call 34; refine (HPA.out _).mono ?_; rintro e w3 ⟨v3, rfl, h3, h3b⟩; obtain ⟨g, c, rfl, hcc, hS⟩ := row_strs HLG.out h3 hlg0; have H3 := Lib.hid h3b; have HROW := Lib.hid h3; have HS := Lib.hid hS; clear h3 h3b hS; simp only [])
          | (go_at_call 33; refine (HWR.out _ _ _ (HT.out.only (X := fun _ => False) (Only.of_below (find_below1 H1.out H3.out)) (fun _ h => h.elim)) hcc HS.out).mono ?_; rintro e w5 ⟨rfl, h5⟩; have H5 := Lib.hid h5; have HC := Lib.hid (find_below H1.out H3.out h5); clear h5; obtain ⟨q0, q1, q2, q3, u0, u1, u2, u3⟩ := box_facts HC.out.2; simp only [spotV, spot0]))
        refine bodyPost_ret (v := .tuple #[spot0, .int .i64 we]) ?_ rfl ?_
        · simp [results, Tryd.results38, go_sem, q0, q1, q2, q3]
          rfl
        · rw [← HQ.out]
          exact ⟨below4 HC.out.1 _ _ _ _, .inl ⟨by rw [HF.out]; exact fun e => HE.out (by omega), by rw [HF.out]⟩⟩
  · have hne : (rn != 0) = true := by simpa using hn
    have HF : Hid (findE T p = rn) := by rw [Hid, findE, hr]; exact if_neg hn
    have HN := Lib.hid hn
    have hrt : root1 = ⟨#[47]⟩ := rfl
    rw [hrt] at HABS
    clear hT hr hQ hlen hpl HL HR hrt hlen' hn
    go_enter Tryd.func20, Tryd.ntmps20
    go_wp2_with (go_at_call 32; refine (HABS.out _).mono ?_; rintro e w1 ⟨rfl, h1⟩; have H1 := Lib.hid h1; have HC := Lib.hid (find_below H1.out (Below.refl _ _) (Below.refl _ _)); clear h1; obtain ⟨q0, q1, q2, q3, u0, u1, u2, u3⟩ := box_facts HC.out.2; simp only [])
    refine bodyPost_ret (v := .tuple #[spot0, .int .i64 rn]) ?_ rfl ?_
    · simp [results, Tryd.results38, go_sem, q0, q1, q2, q3]
      rfl
    · rw [← HQ.out]
      exact ⟨below4 HC.out.1 _ _ _ _, .inl ⟨by rw [HF.out]; exact HN.out, by rw [HF.out]⟩⟩
end Go.Proofs.YtcmjpkfinbakkaaDoor
