import Derived.Test.YtjagnihkpgbjeaaDoorHC
import Derived.Carry
import Derived.Laws.OwnMore
import Derived.Test.YtjagnihkpgbjeaaDoorGF
namespace Go.Proofs.YtjagnihkpgbjeaaDoor
open Go.RowKit Go.Maps Go.ChangeMaps
set_option linter.unusedVariables false
theorem sort_any {wI : World} {f : Nat} {T : Tr} {rs : List Rl} {am ar : Option Addr} {nm cm nr cr : Nat} (C : GCtx wI f T rs (.slice ar nr cr)) (wb mb : Nat) :
    ∀ (fuel : Nat) (ts : List Bs) (tv : Value) (s : GS) (er : Int) (sf : GS) (w : World) (ov : Value), sortF (GG rs) (thF T) fuel ts s = some (er, sf) → WA wI w f wb mb am nm cm ar nr cr ov s → (∀ w', Only (SS wb mb ov) w w' → SlS w' tv ts) → ts.length ≤ 200000 →
      Calls Tryd.prog 56 #[.pointer (some ⟨wb, 0, none⟩), tv] w (SortP wI w f wb mb am nm cm ar nr cr ov er sf) := by
  intro fuel
  induction fuel using Nat.strongRecOn with
  | _ fuel ih =>
    intro ts tv s er sf w ov h1 h2 h3 h4
    exact sort_step C wb mb fuel (fun fk hfk ts tv s er sf w ov a b c d => ih fk hfk ts tv s er sf w ov a b c d) ts tv s er sf w ov h1 h2 h3 h4
def s00 : GS := ⟨fun _ => 0, 0, 0, []⟩
def NewWP (wI w : World) (f : Nat) (am : Option Addr) (nm cm : Nat) (ar : Option Addr) (nr cr : Nat) (e : Ending) (w' : World) : Prop :=
  ∃ wb mb, e = .returned (.pointer (some ⟨wb, 0, none⟩)) ∧ WA wI w' f wb mb am nm cm ar nr cr (.slice none 0 0) s00 ∧ Below w.heap.size w w'
set_option maxRecDepth 100000 in
set_option maxHeartbeats 4000000 in
theorem newWalk_any (wI w : World) (hI : Below wI.heap.size wI w) (f : Nat) (am : Option Addr) (nm cm : Nat) (ar : Option Addr) (nr cr : Nat) :
    Calls Tryd.prog 55 #[.agg #[.slice am nm cm, .slice ar nr cr], .pointer (some ⟨f, 0, none⟩), .string ⟨#[47]⟩] w (NewWP wI w f am nm cm ar nr cr) := by
  have hmm := @run_makeMap Tryd.prog
  have HI := Lib.hid hI
  obtain ⟨Q, hQ⟩ : ∃ Q, NewWP wI w f am nm cm ar nr cr = Q := ⟨_, rfl⟩
  rw [hQ]
  have HQ := Lib.hid hQ
  clear hI hQ
  go_enter Tryd.func55, Tryd.ntmps55
  go_wp2_with fail
  rw [← HQ.out]
  refine ⟨w.heap.size + 1 + 1, w.heap.size + 1, rfl, ?_, below_trans (below_alloc _ _) (below_trans (below_alloc _ _) (below_alloc _ _))⟩
  obtain ⟨w1, h1⟩ : ∃ w1, w.alloc (.cells #[.slice am nm cm, .slice ar nr cr] 45) = w1 := ⟨_, rfl⟩
  have b1 : Below w.heap.size w w1 := h1 ▸ below_alloc _ _
  have s1 : w1.heap.size = w.heap.size + 1 := by rw [← h1, size_alloc]
  rw [h1, ← s1]
  have s2 : (w1.alloc (.map #[] 0)).heap.size = w1.heap.size + 1 := size_alloc _ _
  have hz := heap_alloc_new (w1.alloc (.map #[] 0)) (.cells #[.slice am nm cm, .slice ar nr cr, .pointer (some ⟨f, 0, none⟩), .string ⟨#[47]⟩, .map (some w1.heap.size), .int .i64 0, .int .i64 0, .slice none 0 0] 100)
  rw [s2] at hz
  have hm : IMap ((w1.alloc (.map #[] 0)).alloc (.cells #[.slice am nm cm, .slice ar nr cr, .pointer (some ⟨f, 0, none⟩), .string ⟨#[47]⟩, .map (some w1.heap.size), .int .i64 0, .int .i64 0, .slice none 0 0] 100)) w1.heap.size 0 (fun _ => 0) :=
    ⟨0, .map [], Nat.le_refl _, (World.ownsMap_made w1 _ _ _).alloc _, fun k => rfl⟩
  have hI := HI.out
  have hIs := hI.size
  have hB : Below wI.heap.size wI ((w1.alloc (.map #[] 0)).alloc (.cells #[.slice am nm cm, .slice ar nr cr, .pointer (some ⟨f, 0, none⟩), .string ⟨#[47]⟩, .map (some w1.heap.size), .int .i64 0, .int .i64 0, .slice none 0 0] 100)) := below_trans hI (below_trans b1 (below_trans (below_alloc _ _) (below_alloc _ _)))
  exact ⟨hz, hm, World.ownsRow_nil _ _ _ _, ⟨by omega, by omega⟩, fun g hg => by (cases hg), hB, Nat.le_refl _, by decide, Nat.le_refl _⟩
def OrderP (w : World) (er : Int) (l : List Bs) (e : Ending) (w' : World) : Prop := ∃ v, e = .returned (.tuple #[v, .int .i64 er]) ∧ SlS w' v (if er = 0 then l else []) ∧ Below w.heap.size w w'
set_option maxRecDepth 100000 in
set_option maxHeartbeats 4000000 in
theorem Order_any {w : World} {f : Nat} {T : Tr} {rs : List Rl} {am ar : Option Addr} {nm cm nr cr : Nat} (C : GCtx w f T rs (.slice ar nr cr)) (tv : Value) (ts : List Bs) (htv : SlS w tv ts) (hl : ts.length ≤ 200000) (fuel : Nat) (er : Int) (sf : GS) (hso : sortF (GG rs) (thF T) fuel ts s00 = some (er, sf)) :
    Calls Tryd.prog 30 #[.agg #[.slice am nm cm, .slice ar nr cr], .pointer (some ⟨f, 0, none⟩), .string ⟨#[47]⟩, tv] w (OrderP w er sf.order) := by
  have hba := below_alloc w (.cells #[.slice am nm cm, .slice ar nr cr] 45)
  have HN := Lib.hid (newWalk_any w (w.alloc (.cells #[.slice am nm cm, .slice ar nr cr] 45)) hba f am nm cm ar nr cr)
  have HS := Lib.hid (fun (wb mb : Nat) (w1 : World) (hW : WA w w1 f wb mb am nm cm ar nr cr (.slice none 0 0) s00) => sort_any C wb mb fuel ts tv s00 er sf w1 (.slice none 0 0) hso hW (fun w' ho => (htv.below hW.old).only2 ho (fun g hg1 hg e => by
    rcases htv with ⟨rfl, _⟩ | ⟨g', off, c, rfl, _, _, h3, _⟩
    · cases hg
    · injection hg with hg
      have hg : g' = g := hg
      have := hW.ge
      rcases e with e | e | e
      · omega
      · omega
      · cases e)) hl)
  obtain ⟨a, n, c, rfl⟩ := sl_form htv
  obtain ⟨Q, hQ⟩ : ∃ Q, OrderP w er sf.order = Q := ⟨_, rfl⟩
  rw [hQ]
  have HQ := Lib.hid hQ
  clear C htv hso hba hQ
  go_enter Tryd.func30, Tryd.ntmps30
  go_wp2_with (go_at_call 55; refine HN.out.mono ?_; rintro e w1 ⟨wb, mb, rfl, hw, _⟩; have HW := Lib.hid hw; clear hw; simp only [])
  refine (HS.out _ _ _ HW.out).mono ?_
  rintro e w2 ⟨rfl, ov, hw2, hr2⟩
  have HW2 := Lib.hid hw2
  have q7 : w2.cell? ⟨wb, 7, none⟩ = some ov := cell_of hw2.blk 7
  clear hw2 hr2
  simp only []
  by_cases he : er = 0
  · subst he
    go_wp2_with fail
    rw [← HQ.out]
    exact ⟨_, rfl, SlS.own HW2.out.ord, HW2.out.old⟩
  · have hen : (er != 0) = true := by simpa using he
    go_wp2_with fail
    rw [← HQ.out]
    exact ⟨_, rfl, by rw [if_neg he]; exact sl0 _, HW2.out.old⟩
/-! Goal. -/
def goalF (rs : List Rl) : Option Bs := match rs with
  | [] => none
  | r :: rs => match r.ts with
    | [] => goalF rs
    | t :: ts => if (t :: ts).any pct then goalF rs else if t.head? = some 46 ∧ (47 : UInt8) ∉ t then goalF rs else some t
theorem goalF_drop (rs : List Rl) (k : Nat) (h : k < rs.length) : goalF (rs.drop k) = match rs[k].ts with
    | [] => goalF (rs.drop (k + 1))
    | t :: ts => if (t :: ts).any pct then goalF (rs.drop (k + 1)) else if t.head? = some 46 ∧ (47 : UInt8) ∉ t then goalF (rs.drop (k + 1)) else some t := by
  rw [List.drop_eq_getElem_cons h]; rfl
def GoalP (r : Option Bs) (w : World) (e : Ending) (w' : World) : Prop := (match r with | none => e = .returned (.tuple #[.string ⟨#[]⟩, .bool false]) | some t => e = .returned (.tuple #[.string (nameB t), .bool true])) ∧ Below w.heap.size w w'
theorem idx47 (l : Bs) : decide (0 ≤ Lib.indexByte l 47) = decide ((47 : UInt8) ∈ l) := by
  rw [decide_eq_decide]
  exact idx_iff 47 l
set_option maxRecDepth 100000 in
set_option maxHeartbeats 4000000 in
theorem Goal_any (w : World) (am ar : Option Addr) (nm cm nr cr : Nat) (rs : List Rl) (hv : RsV w (.slice ar nr cr) rs) (hl : rs.length ≤ 1000) :
    Calls Tryd.prog 32 #[.agg #[.slice am nm cm, .slice ar nr cr]] w (GoalP (goalF rs) w) := by
  have HV := Lib.hid hv
  obtain ⟨n, hn⟩ : ∃ n, rs.length = n := ⟨_, rfl⟩
  have hnr : nr = n := by obtain ⟨a, c, e⟩ := hv.len; rw [hn] at e; injection e
  subst hnr
  rw [hn] at hl
  have HN := Lib.hid hn
  obtain ⟨Q, hQ⟩ : ∃ Q, GoalP (goalF rs) w = Q := ⟨_, rfl⟩
  rw [hQ]
  have HQ := Lib.hid hQ
  clear hv hn hQ
  go_enter Tryd.func32, Tryd.ntmps32
  go_wp2_with fail
  refine wp_scope_straight ?_
  go_wp2_with fail
  refine wp_label ?_
  go_wp2_with fail
  go_loopw [10] (fun i wr => ∃ k : Nat, k ≤ nr ∧ i = .int .i64 k ∧ Hid (goalF rs = goalF (rs.drop k)) ∧ Hid (Below w.heap.size w wr)) (fun i _ => nr - (intOf i).toNat)
  case atStart => exact ⟨0, Nat.zero_le _, rfl, rfl, below_alloc _ _⟩
  case round =>
    obtain ⟨k, hk, rfl, HG, HB⟩ := hrel
    by_cases hlt : k < nr
    · have hltI : (k : Int) < (nr : Int) := by omega
      have h0 : (0 : Int) ≤ (k : Int) := by omega
      have hlr : k < rs.length := by rw [HN.out]; exact hlt
      obtain ⟨g, off, a0, n0, c0, a1, n1, c1, a2, n2, c2, rfl, q0, q1, q2, hr⟩ := HV.out.get2 HB.out k hlr
      have hadd := addk3 g off k
      have HD : Hid (goalF rs = _) := HG.out.trans (goalF_drop rs k hlr)
      have HR3 := Lib.hid hr
      obtain ⟨ts, hts⟩ : ∃ ts, rs[k].ts = ts := ⟨_, rfl⟩
      rw [hts] at HD
      have hst := hr.t
      have hltt := hr.lt
      rw [hts] at hst hltt
      have hn0 : n0 = ts.length := by obtain ⟨a', c', e⟩ := hst.len; injection e
      subst hn0
      have HST := Lib.hid (hst.below (HB.out.trans ((below_alloc wr (.cells #[.slice a0 ts.length c0, .slice a1 n1 c1, .slice a2 n2 c2] 48)).mono HB.out.size)))
      clear hr hts hst
      cases ts with
      | nil =>
        simp only [List.length_nil] at q0 HST
        go_wp2_with fail
        exact ⟨⟨k + 1, by omega, by go_num, HD.out, HB.out.trans ((below_alloc _ _).mono HB.out.size)⟩, by simp [intOf]; omega⟩
      | cons t ts =>
        obtain ⟨m, hm⟩ : ∃ m, (t :: ts).length = m := ⟨_, rfl⟩
        have hm0 : ((m : Int) == 0) = false := by rw [← hm]; simp; omega
        have hm1 : 0 < m := by rw [← hm]; simp
        have hm1I : (0 : Int) < (m : Int) := by omega
        obtain ⟨b, hb⟩ : ∃ b, (t :: ts).any pct = b := ⟨_, rfl⟩
        have HC := Lib.hid (ContainsF_any _ _ _ HST.out (by omega) b hb)
        have hc0 := (strs_sl HST.out (by simp))
        obtain ⟨g2, off2, rfl, _, hc2⟩ := hc0
        have hq := hc2 0 (by simp)
        rw [Nat.add_zero, show encStr (t :: ts)[0] = .string (nameB t) from rfl] at hq
        have hadd2 : (⟨g2, off2, none⟩ : Addr).add 0 = ⟨g2, off2, none⟩ := rfl
        rw [hm] at HST HC q0 hq
        have HBT := Lib.hid hb
        clear hc2 hm hb
        cases b with
        | true =>
          have HD2 : Hid (goalF rs = goalF (rs.drop (k + 1))) := by have := HD.out; simp only [HBT.out, if_true] at this; exact this
          go_wp2_with (go_at_call 57; refine HC.out.mono ?_; rintro e w1 ⟨rfl, h1⟩; obtain rfl := h1.symm; simp only [])
          exact ⟨⟨k + 1, by omega, by go_num, HD2.out, HB.out.trans ((below_alloc _ _).mono HB.out.size)⟩, by simp [intOf]; omega⟩
        | false =>
          have HD2 : Hid (goalF rs = if t.head? = some 46 ∧ (47 : UInt8) ∉ t then goalF (rs.drop (k + 1)) else some t) := by have := HD.out; simp only [HBT.out, if_false, Bool.false_eq_true] at this; exact this
          have hdt : (nameB t).data.toList = t := by unfold nameB; simp
          have HP := Lib.hid (fun w => Tryd.strings_HasPrefix (nameB t) ⟨#[46]⟩ w)
          have HI := Lib.hid (fun w => Tryd.strings_Contains_one (nameB t) 47 w)
          rw [hdt, show (⟨#[46]⟩ : ByteArray).data.toList = [46] from rfl, hp_dot] at HP
          rw [hdt, idx47] at HI
          obtain ⟨tb, htb⟩ : ∃ tb, nameB t = tb := ⟨_, rfl⟩
          rw [htb] at HP HI hq
          have HTB := Lib.hid htb
          clear hdt htb
          by_cases hd : t.head? = some 46
          · rw [decide_eq_true hd] at HP
            by_cases hs : (47 : UInt8) ∈ t
            · rw [decide_eq_true hs] at HI
              have HF : Hid (GoalP (goalF rs) w (.returned (.tuple #[.string tb, .bool true])) (wr.alloc (.cells #[.slice (some ⟨g2, off2, none⟩) m c0, .slice a1 n1 c1, .slice a2 n2 c2] 48))) := by
                rw [Hid, HD2.out, if_neg (by rintro ⟨_, h⟩; exact h hs)]
                exact ⟨by show Ending.returned (.tuple #[.string tb, .bool true]) = .returned (.tuple #[.string (nameB t), .bool true]); rw [HTB.out], HB.out.trans ((below_alloc _ _).mono HB.out.size)⟩
              clear hd hs
              go_wp2_with (first
                | (go_at_call 57; refine HC.out.mono ?_; rintro e w1 ⟨rfl, h1⟩; obtain rfl := h1.symm; simp only [])
                | (go_at_call 59; refine (HP.out _).mono ?_; rintro e w1 ⟨rfl, h1⟩; obtain rfl := h1.symm; simp only [])
                | (go_at_call 60; refine (HI.out _).mono ?_; rintro e w1 ⟨rfl, h1⟩; obtain rfl := h1.symm; simp only []))
              rw [← HQ.out]
              exact HF.out
            · rw [decide_eq_false hs] at HI
              have HD3 : Hid (goalF rs = goalF (rs.drop (k + 1))) := by rw [Hid, HD2.out, if_pos ⟨hd, hs⟩]
              clear hd hs
              go_wp2_with (first
                | (go_at_call 57; refine HC.out.mono ?_; rintro e w1 ⟨rfl, h1⟩; obtain rfl := h1.symm; simp only [])
                | (go_at_call 59; refine (HP.out _).mono ?_; rintro e w1 ⟨rfl, h1⟩; obtain rfl := h1.symm; simp only [])
                | (go_at_call 60; refine (HI.out _).mono ?_; rintro e w1 ⟨rfl, h1⟩; obtain rfl := h1.symm; simp only []))
              exact ⟨⟨k + 1, by omega, by go_num, HD3.out, HB.out.trans ((below_alloc _ _).mono HB.out.size)⟩, by simp [intOf]; omega⟩
          · rw [decide_eq_false hd] at HP
            have HF : Hid (GoalP (goalF rs) w (.returned (.tuple #[.string tb, .bool true])) (wr.alloc (.cells #[.slice (some ⟨g2, off2, none⟩) m c0, .slice a1 n1 c1, .slice a2 n2 c2] 48))) := by
              rw [Hid, HD2.out, if_neg (by rintro ⟨h, _⟩; exact hd h)]
              exact ⟨by show Ending.returned (.tuple #[.string tb, .bool true]) = .returned (.tuple #[.string (nameB t), .bool true]); rw [HTB.out], HB.out.trans ((below_alloc _ _).mono HB.out.size)⟩
            clear hd
            go_wp2_with (first
              | (go_at_call 57; refine HC.out.mono ?_; rintro e w1 ⟨rfl, h1⟩; obtain rfl := h1.symm; simp only [])
              | (go_at_call 59; refine (HP.out _).mono ?_; rintro e w1 ⟨rfl, h1⟩; obtain rfl := h1.symm; simp only []))
            rw [← HQ.out]
            exact HF.out
    · have hltI : ¬ (k : Int) < (nr : Int) := by omega
      have HF : Hid (GoalP (goalF rs) w (.returned (.tuple #[.string ⟨#[]⟩, .bool false])) wr) := by
        rw [Hid, HG.out, List.drop_eq_nil_of_le (by rw [HN.out]; omega)]
        exact ⟨rfl, HB.out⟩
      go_wp2_with fail
      rw [← HQ.out]
      exact HF.out
end Go.Proofs.YtjagnihkpgbjeaaDoor

namespace Go.Proofs.YtjagnihkpgbjeaaDoor
open Go.RowKit Go.Maps Go.ChangeMaps
set_option linter.unusedVariables false
def rsA : List Rl := [⟨[[97]], [[98]], []⟩]
/-- What the boxes of alive's makefile come to. -/
theorem wdA (w : World) : RsV ((((w.alloc (.cells #[.string ⟨#[97]⟩] 9)).alloc (.cells #[.string ⟨#[98]⟩] 9)).alloc (.cells #[.slice (some ⟨w.heap.size, 0, none⟩) 1 1, .slice (some ⟨w.heap.size + 1, 0, none⟩) 1 1, .slice none 0 0] 48)).alloc (.cells #[.slice none 0 0, .slice (some ⟨w.heap.size + 1 + 1, 0, none⟩) 1 1] 45)) (.slice (some ⟨w.heap.size + 1 + 1, 0, none⟩) 1 1) rsA := by
  obtain ⟨w2, h2⟩ : ∃ w2, w.alloc (.cells #[.string ⟨#[97]⟩] 9) = w2 := ⟨_, rfl⟩
  have s2 : w2.heap.size = w.heap.size + 1 := by rw [← h2, size_alloc]
  obtain ⟨w3, h3⟩ : ∃ w3, w2.alloc (.cells #[.string ⟨#[98]⟩] 9) = w3 := ⟨_, rfl⟩
  have s3 : w3.heap.size = w.heap.size + 1 + 1 := by rw [← h3, size_alloc, s2]
  rw [h2, h3]
  obtain ⟨w4, h4⟩ : ∃ w4, w3.alloc (.cells #[.slice (some ⟨w.heap.size, 0, none⟩) 1 1, .slice (some ⟨w.heap.size + 1, 0, none⟩) 1 1, .slice none 0 0] 48) = w4 := ⟨_, rfl⟩
  have b3 : Below w2.heap.size w2 w3 := h3 ▸ below_alloc _ _
  have b4 : Below w3.heap.size w3 w4 := h4 ▸ below_alloc _ _
  have t2 : SlS w2 (.slice (some ⟨w.heap.size, 0, none⟩) 1 1) [[97]] := by rw [← h2]; exact sl_new w [97]
  have t3 : SlS w3 (.slice (some ⟨w.heap.size + 1, 0, none⟩) 1 1) [[98]] := by rw [← h3, ← s2]; exact sl_new w2 [98]
  have hr : RsV w4 (.slice (some ⟨w.heap.size + 1 + 1, 0, none⟩) 1 1) rsA := by
    refine .inr ⟨w.heap.size + 1 + 1, 0, 1, rfl, by simp [rsA], by omega, by rw [← h4, size_alloc]; omega, fun i hi => ?_⟩
    obtain rfl : i = 0 := by simpa [rsA] using hi
    refine ⟨.slice (some ⟨w.heap.size, 0, none⟩) 1 1, .slice (some ⟨w.heap.size + 1, 0, none⟩) 1 1, .slice none 0 0, ?_, ?_, ?_, ⟨(t2.below b3).below b4, .inl (t3.below b4), sl0 _, by simp [rsA], by simp [rsA], by simp [rsA]⟩⟩
    · rw [← s3, ← h4]; exact cell_new _ _ _ _
    · rw [← s3, ← h4]; exact cell_new _ _ _ _
    · rw [← s3, ← h4]; exact cell_new _ _ _ _
  rw [h4]
  exact hr.below (below_alloc _ _)
theorem wdA2 (w : World) : ∀ W, W = ((((w.alloc (.cells #[.string ⟨#[97]⟩] 9)).alloc (.cells #[.string ⟨#[98]⟩] 9)).alloc (.cells #[.slice (some ⟨w.heap.size, 0, none⟩) 1 1, .slice (some ⟨w.heap.size + 1, 0, none⟩) 1 1, .slice none 0 0] 48)).alloc (.cells #[.slice none 0 0, .slice (some ⟨w.heap.size + 1 + 1, 0, none⟩) 1 1] 45)) →
    RsV W (.slice (some ⟨w.heap.size + 1 + 1, 0, none⟩) 1 1) rsA ∧ Below w.heap.size w W ∧ w.heap.size + 1 + 1 + 1 < W.heap.size ∧ W.cell? ⟨w.heap.size + 1 + 1 + 1, 0, none⟩ = some (.slice none 0 0) ∧ W.cell? ⟨w.heap.size + 1 + 1 + 1, 1, none⟩ = some (.slice (some ⟨w.heap.size + 1 + 1, 0, none⟩) 1 1) := by
  intro W hW
  have hr := wdA w
  obtain ⟨w4, h4⟩ : ∃ w4, ((w.alloc (.cells #[.string ⟨#[97]⟩] 9)).alloc (.cells #[.string ⟨#[98]⟩] 9)).alloc (.cells #[.slice (some ⟨w.heap.size, 0, none⟩) 1 1, .slice (some ⟨w.heap.size + 1, 0, none⟩) 1 1, .slice none 0 0] 48) = w4 := ⟨_, rfl⟩
  have s4 : w4.heap.size = w.heap.size + 1 + 1 + 1 := by rw [← h4, size_alloc, size_alloc, size_alloc]
  have b4 : Below w.heap.size w w4 := h4 ▸ below_trans (below_alloc _ _) (below_trans (below_alloc _ _) (below_alloc _ _))
  rw [h4] at hW hr
  subst hW
  refine ⟨hr, below_trans b4 (below_alloc _ _), by rw [size_alloc]; omega, ?_, ?_⟩
  · rw [← s4]; exact cell_new _ _ _ _
  · rw [← s4]; exact cell_new _ _ _ _
theorem gctx {B : Nat} {w : World} {N f : Nat} {c : Cn} {T : Tr} {rs : List Rl} {rv : Value} (h : Sx B w N f c T) (hr : RsV w rv rs) (hl : rs.length ≤ 1000) (hf : ∀ r ∈ rs, r.ns.length ≤ 100) (hn : ∀ r ∈ rs, r.rc = []) : GCtx w f T rs rv := by
  obtain ⟨F, h1, _⟩ := h.fs
  exact ⟨⟨_, _, _, F, h1⟩, hr, hl, hf, hn⟩
def TB : Tr := setF newT [[98]] (some ⟨true, [], 0 + 1⟩)
theorem sort_ex {r : Option (Int × GS)} {e : Int} {o : List Bs} (h : r.map (fun p => (p.1, p.2.order)) = some (e, o)) : ∃ sf, r = some (e, sf) ∧ sf.order = o := by
  cases r with
  | none => cases h
  | some p =>
    obtain ⟨a, sf⟩ := p
    injection h with h
    injection h with h1 h2
    exact ⟨sf, by show some (a, sf) = some (e, sf); rw [show a = e from h1], h2⟩
theorem sortA : ∃ sf, sortF (GG rsA) (thF TB) 9 [[97]] s00 = some (0, sf) ∧ sf.order = [[98], [97]] := sort_ex (by decide)
theorem sl_ba (w : World) : SlS (w.alloc (.cells #[.string ⟨#[98]⟩, .string ⟨#[97]⟩] 9)) (.slice (some ⟨w.heap.size, 0, none⟩) 2 2) [[98], [97]] := by
  refine .inr ⟨w.heap.size, 0, 2, rfl, by simp, by omega, by simp, fun i hi => ?_⟩
  have hc : i = 0 ∨ i = 1 := by simp at hi; omega
  rcases hc with rfl | rfl
  · rw [Nat.add_zero, cell_new]; rfl
  · rw [Nat.zero_add, cell_new]; rfl
theorem num31 (n : Int) (w : World) : Calls Tryd.prog 31 #[.int .i64 n] w fun e w' => e = .returned (.int .i64 n) ∧ w' = w := by
  go_enter Tryd.func31, Tryd.ntmps31
  go_wp2_with fail
  go_ret
  exact ⟨rfl, rfl⟩
set_option maxRecDepth 100000 in
set_option maxHeartbeats 4000000 in
theorem alive29 (w : World) : Calls Tryd.prog 29 #[] w fun e w' => e = .returned (.bool true) ∧ Below w.heap.size w w' := by
  obtain ⟨sf, hsf, hso⟩ := sortA
  have HNEW := Lib.hid (fun w => New_sx 3 10 (by omega) (by omega) (by omega) (by omega) w)
  have HW1 := Lib.hid (fun (B : Nat) (w1 : World) (f : Nat) (h : Sx B w1 0 f ⟨3, 10, 0, 0, 0⟩ newT) => Write_sx (s := [98]) h nmB rfl ⟨by decide, by decide, by decide, by decide, by decide⟩ (by decide) (by decide) (by decide))
  rw [show pathB [98] = ⟨#[47, 98]⟩ from rfl] at HW1
  have HOR := Lib.hid (fun (B : Nat) (w1 : World) (f : Nat) (b : Nat) (tv : Value) (h : Sx B w1 1 f ⟨3, 10, 0 + 1, 0, 0 + 1⟩ TB) (hr : RsV w1 (.slice (some ⟨b, 0, none⟩) 1 1) rsA) (ht : SlS w1 tv [[97]]) => by
    have := Order_any (am := none) (nm := 0) (cm := 0) (gctx h hr (by simp [rsA]) (by simp [rsA]) (by simp [rsA])) tv [[97]] ht (by simp) 9 0 sf hsf
    rw [hso] at this
    exact this)
  have HNUM := Lib.hid num31
  obtain ⟨W, hW⟩ : ∃ W, ((((w.alloc (.cells #[.string ⟨#[97]⟩] 9)).alloc (.cells #[.string ⟨#[98]⟩] 9)).alloc (.cells #[.slice (some ⟨w.heap.size, 0, none⟩) 1 1, .slice (some ⟨w.heap.size + 1, 0, none⟩) 1 1, .slice none 0 0] 48)).alloc (.cells #[.slice none 0 0, .slice (some ⟨w.heap.size + 1 + 1, 0, none⟩) 1 1] 45)) = W := ⟨_, rfl⟩
  have HWD := Lib.hid (wdA2 w W hW.symm)
  have HWW := Lib.hid hW
  clear hsf hso hW
  go_enter Tryd.func29, Tryd.ntmps29
  go_wp2_with fail
  rw [HWW.out]
  refine (HNEW.out W).mono ?_
  rintro e w1 ⟨f, rfl, hf, h1⟩
  have HF := Lib.hid hf
  have H1 := Lib.hid h1
  clear hf h1
  simp only []
  go_wp2_with (first
    | (go_at_call 15; refine (HW1.out _ _ _ HF.out).mono ?_; rintro e w2 ⟨rfl, hf2, h2⟩; have HF2 := Lib.hid hf2; have H2 := Lib.hid (H1.out.trans h2); have q0 := (H2.out.cell (p := ⟨w.heap.size + 1 + 1 + 1, 0, none⟩) HWD.out.2.2.1).trans HWD.out.2.2.2.1; have q1 := (H2.out.cell (p := ⟨w.heap.size + 1 + 1 + 1, 1, none⟩) HWD.out.2.2.1).trans HWD.out.2.2.2.2; clear h2 hf2; simp only [])
    | (go_at_call 30; refine (HOR.out _ _ _ _ _ (HF2.out.below (below_alloc _ _)) (HWD.out.1.below (below_trans H2.out (below_alloc _ _))) (sl_new _ [97])).mono ?_; rintro e w3 ⟨v, rfl, hv, h3⟩; have HV := Lib.hid (show SlS w3 v [[98], [97]] from hv); have H3 := Lib.hid h3; obtain ⟨va, vc, hvf⟩ := hv.len; rw [show (if (0 : Int) = 0 then ([[98], [97]] : List Bs) else []).length = 2 from rfl] at hvf; subst hvf; clear hv h3; simp only [])
    | (go_at_call 31; refine (HNUM.out _ _).mono ?_; rintro e w4 ⟨rfl, h4⟩; obtain rfl := h4.symm; simp only [])
    | (go_at_call 28; refine (Same_any va (some ⟨w3.heap.size, 0, none⟩) [[98], [97]] [[98], [97]] vc 2 _ (by simp) (strs_sl (HV.out.below (below_alloc _ _))) (strs_sl (sl_ba _)) true ⟨fun _ => rfl, fun _ => rfl⟩).mono ?_; rintro e w5 ⟨rfl, m, rfl⟩; simp only []))
  go_ret
  exact ⟨rfl, below_trans HWD.out.2.1 (below_trans H2.out (below_trans (below_alloc _ _) (below_trans H3.out (below_drewN (below_alloc _ _) _))))⟩
end Go.Proofs.YtjagnihkpgbjeaaDoor

namespace Go.Proofs.YtjagnihkpgbjeaaDoor
open Go.RowKit Go.Maps Go.ChangeMaps
set_option linter.unusedVariables false
/-! A makefile that a law puts together: rules with targets alone, in a row of the call's own. -/
def rcell (p : Nat × List Bs) : Value × Value × Value := (.slice (some ⟨p.1, 0, none⟩) p.2.length p.2.length, .slice none 0 0, .slice none 0 0)
structure Gq (w0 w : World) (b4 : Nat) (v : Value) (L : List (List Bs)) : Prop where
  blk : w.heap[b4]? = some (.cells [.slice none 0 0, v].toArray 45 (0, 0))
  own : ∃ cs : List Nat, cs.length = L.length ∧ w.ownsRow w0.heap.size 48 3 v L.length (tri ((cs.zip L).map rcell)) ∧ ∀ i (h : i < L.length) (h' : i < cs.length), w.heap[cs[i]]? = some (.cells (L[i].map encStr).toArray 9 (0, 0)) ∧ L[i].length ≤ 1000
  old : Only (fun j => j = b4) w0 w
  lt : b4 < w0.heap.size
theorem sl_blk {w : World} {g : Nat} {L : List Bs} (h : w.heap[g]? = some (.cells (L.map encStr).toArray 9 (0, 0))) (hl : L.length ≤ 1000) : SlS w (.slice (some ⟨g, 0, none⟩) L.length L.length) L := by
  refine .inr ⟨g, 0, L.length, rfl, Nat.le_refl _, by omega, (Array.getElem?_eq_some_iff.1 h).1, fun i hi => ?_⟩
  rw [Nat.zero_add, cell_of h i, List.getElem?_map, List.getElem?_eq_getElem hi]; rfl
theorem Gq.rsv {w0 w : World} {b4 : Nat} {v : Value} {L : List (List Bs)} (h : Gq w0 w b4 v L) : RsV w v (L.map fun ts => ⟨ts, [], []⟩) := by
  obtain ⟨cs, hl, how, hr⟩ := h.own
  rcases how.2 with ⟨h1, h0⟩ | ⟨b, cap, cur, rfl, h2, h3, h4, h5, h6⟩
  · exact .inl ⟨h1, by rw [List.eq_nil_of_length_eq_zero h0]; rfl⟩
  · refine .inr ⟨b, 0, cap, by rw [List.length_map], by rw [List.length_map]; exact h4, h5, (Array.getElem?_eq_some_iff.1 h3).1, fun i hi => ?_⟩
    rw [List.length_map] at hi
    have hc : i < cs.length := by omega
    have hz : i < ((cs.zip L).map rcell).length := by simp; omega
    have e := tri_at ((cs.zip L).map rcell) i hz
    have e2 : ((cs.zip L).map rcell)[i] = rcell (cs[i], L[i]) := by simp
    rw [e2] at e
    obtain ⟨hh, hh2⟩ := hr i hi hc
    rw [Nat.zero_add]
    refine ⟨_, _, _, by rw [World.ownsRow.cellAt how (i * 3) (by omega), e.1], by rw [World.ownsRow.cellAt how (i * 3 + 1) (by omega), e.2.1], by rw [World.ownsRow.cellAt how (i * 3 + 2) (by omega), e.2.2], ?_⟩
    rw [List.getElem_map]
    exact ⟨sl_blk hh hh2, .inl (sl0 _), sl0 _, by show L[i].length ≤ _; omega, by show (0 : Nat) ≤ _; omega, by show (0 : Nat) ≤ _; omega⟩
theorem tri_set (A : List (Value × Value × Value)) (a b c u : Value) : (tri (A ++ [(a, b, c)])).set (A.length * 3) u = tri (A ++ [(u, b, c)]) := by
  rw [tri_app, tri_app, ← tri_len, List.set_append_right _ _ (Nat.le_refl _), Nat.sub_self]
  rfl
theorem Gq.push {w0 w : World} {b4 : Nat} {v : Value} {L : List (List Bs)} (h : Gq w0 w b4 v L) (hl : L.length ≤ 1000) (ts : List Bs) (ht : ts.length ≤ 1000) (arr : Array Value) (harr : arr = (ts.map encStr).toArray) (n : Nat) (hn : ts.length = n) :
    ∃ v' w3, (Builtin.append_ #[43, 43] 43 #[v, .slice (some ⟨w.heap.size + 1, 0, none⟩) 1 1]).run Tryd.prog ((w.alloc (.cells arr 9)).alloc (.cells #[.slice (some ⟨w.heap.size, 0, none⟩) n n, .slice none 0 0, .slice none 0 0] 48)) = .ok v' w3 ∧
      w3.heap[b4]? = some (.cells [.slice none 0 0, v].toArray 45 (0, 0)) ∧ (∃ a c, v' = .slice a (L.length + 1) c) ∧ Gq w0 (w3.setCell ⟨b4, 1, none⟩ v') b4 v' (L ++ [ts]) := by
  subst harr
  subst hn
  obtain ⟨i0, hi, hz0, hz1, hz2⟩ := info_parts info48
  obtain ⟨w2, hw2⟩ : ∃ w2, (w.alloc (.cells (ts.map encStr).toArray 9)).alloc (.cells #[.slice (some ⟨w.heap.size, 0, none⟩) ts.length ts.length, .slice none 0 0, .slice none 0 0] 48) = w2 := ⟨_, rfl⟩
  have hsz1 : (w.alloc (.cells (ts.map encStr).toArray 9)).heap.size = w.heap.size + 1 := size_alloc _ _
  have hw0 : Below w.heap.size w w2 := hw2 ▸ below_trans (below_alloc _ _) (below_alloc _ _)
  have hs2 : w2.heap.size = w.heap.size + 1 + 1 := by rw [← hw2, size_alloc, size_alloc]
  have hn1 : w2.heap[w.heap.size]? = some (.cells (ts.map encStr).toArray 9 (0, 0)) := by
    rw [← hw2, Below.heap_alloc _ _ _ (by rw [hsz1]; omega)]; exact heap_alloc_new w _
  have hn2 : w2.heap[w.heap.size + 1]? = some (.cells #[.slice (some ⟨w.heap.size, 0, none⟩) ts.length ts.length, .slice none 0 0, .slice none 0 0] 48 (0, 0)) := by
    rw [← hw2, ← hsz1]; exact heap_alloc_new _ _
  rw [hw2]
  obtain ⟨cs, hcl, how, hr⟩ := h.own
  have hown := own_keep3 how hw0
  have hsw := h.old.size
  obtain ⟨v', w3, e1, e2, e3, e4⟩ := run_append_own (P := Tryd.prog) w2 w0.heap.size 43 43 48 i0 _ 3 72 Tryd.underlying43 hi hz0 hz1 hz2 rfl (by decide) v L.length (tri ((cs.zip L).map rcell)) hown ⟨w.heap.size + 1, 0, none⟩ 1 1 [.slice (some ⟨w.heap.size, 0, none⟩) ts.length ts.length, .slice none 0 0, .slice none 0 0] rfl
    (fun j u hj => by
      rw [addk, Nat.zero_add]
      simp only [World.cell?, hn2]
      simpa using hj) (by
      intro u hu
      simp only [List.mem_cons, List.not_mem_nil, or_false] at hu
      rcases hu with rfl | rfl | rfl <;> rfl) (by unfold maxLen; omega) (by omega) (by omega)
  -- the row's block bears another type
  have hty : ∀ (g : Nat) (arr : Array Value) (t : TypeId), t ≠ 48 → w2.heap[g]? = some (.cells arr t (0, 0)) → v.ownBlock ≠ some g := fun g arr t ht hg e => by
    rcases hown.2 with ⟨r1, _⟩ | ⟨b, cap, cur, r1, _, r3, _⟩
    · rw [r1] at e; cases e
    · rw [r1] at e
      injection e with e
      have e : b = g := e
      rw [e, hg] at r3
      injection r3 with r3
      injection r3 with _ r3 _
      exact ht r3
  have hb2 : w2.heap[b4]? = some (.cells [.slice none 0 0, v].toArray 45 (0, 0)) := (hw0.block b4 (Array.getElem?_eq_some_iff.1 h.blk).1).trans h.blk
  have hkeep : ∀ (g : Nat) (arr : Array Value) (t : TypeId), t ≠ 48 → w2.heap[g]? = some (.cells arr t (0, 0)) → w3.heap[g]? = some (.cells arr t (0, 0)) := fun g arr t ht hg =>
    (e3.block g (Array.getElem?_eq_some_iff.1 hg).1 (fun e => hty g arr t ht hg e.symm)).trans hg
  have hb3 := hkeep b4 _ 45 (by decide) hb2
  have hform : ∃ a c, v' = .slice a (L.length + 1) c := by
    rcases e2.2 with ⟨r1, r0⟩ | ⟨b, cap, cur, r1, _⟩
    · omega
    · exact ⟨_, _, r1⟩
  have hkeep2 : ∀ (g : Nat) (arr : Array Value), w2.heap[g]? = some (.cells arr 9 (0, 0)) → (w3.setCell ⟨b4, 1, none⟩ v').heap[g]? = some (.cells arr 9 (0, 0)) := fun g arr hg => by
    have h3 := hkeep g arr 9 (by decide) hg
    have hne : g ≠ b4 := by
      intro e
      rw [e, hb3] at h3
      injection h3 with h3
      injection h3 with _ h3 _
      cases h3
    rw [Below.heap_setCell _ _ _ _ (by show g ≠ b4; exact hne)]; exact h3
  refine ⟨v', w3, e1, hb3, hform, ⟨set_of hb3 1 v', ⟨cs ++ [w.heap.size], by simp [hcl], ?_, fun i hi' hi2 => ?_⟩, ?_, h.lt⟩⟩
  · have hz : (cs ++ [w.heap.size]).zip (L ++ [ts]) = cs.zip L ++ [(w.heap.size, ts)] := by
      rw [List.zip_append hcl]; rfl
    rw [hz, List.map_append, tri_app, List.length_append]
    exact own_onlyS (F := fun j => j = b4) e2 ((Only.refl (fun j => j = b4) w3).set (.inl rfl) 1 v') (fun g hg e => by
      have := (e2.lt g hg).1
      have := h.lt
      omega)
  · by_cases e : i < cs.length
    · have hiL : i < L.length := by omega
      have := hr i hiL e
      rw [List.getElem_append_left e, List.getElem_append_left hiL]
      exact ⟨hkeep2 _ _ ((hw0.block _ (Array.getElem?_eq_some_iff.1 this.1).1).trans this.1), this.2⟩
    · have e2 : i = cs.length := by simp at hi2; omega
      subst e2
      rw [List.getElem_append_right (Nat.le_refl _), List.getElem_append_right (by omega)]
      simp only [Nat.sub_self, List.getElem_singleton]
      exact ⟨hkeep2 _ _ hn1, ht⟩
  · refine ((h.old.trans (Only.of_below (S := fun j => j = b4) hw0) (fun _ h => h) (fun _ _ h => h)).trans (Only.of_grown (S := fun i => v.ownBlock = some i) e3 (fun k hk => hk)) (fun _ h => h) (fun i hi e => ?_)).set (.inl rfl) 1 v'
    have := (hown.lt i e).1
    omega
/-- The last rule's targets are put anew. -/
theorem Gq.fix {w0 w : World} {b4 g cap : Nat} {L : List (List Bs)} {ts : List Bs} (h : Gq w0 w b4 (.slice (some ⟨g, 0, none⟩) (L.length + 1) cap) (L ++ [ts])) (us : List Bs) (hu : us.length ≤ 1000) (arr : Array Value) (harr : arr = (us.map encStr).toArray) (n : Nat) (hn : us.length = n) :
    (∃ x, (w.alloc (.cells arr 9)).cell? ⟨g, L.length * 3, none⟩ = some x) ∧ (w.alloc (.cells arr 9)).frozen? ⟨g, L.length * 3, none⟩ = false ∧
    Gq w0 ((w.alloc (.cells arr 9)).setCell ⟨g, L.length * 3, none⟩ (.slice (some ⟨w.heap.size, 0, none⟩) n n)) b4 (.slice (some ⟨g, 0, none⟩) (L.length + 1) cap) (L ++ [us]) := by
  subst harr
  subst hn
  obtain ⟨w2, hw2⟩ : ∃ w2, w.alloc (.cells (us.map encStr).toArray 9) = w2 := ⟨_, rfl⟩
  have hw0 : Below w.heap.size w w2 := hw2 ▸ below_alloc _ _
  have hn1 : w2.heap[w.heap.size]? = some (.cells (us.map encStr).toArray 9 (0, 0)) := hw2 ▸ heap_alloc_new w _
  rw [hw2]
  obtain ⟨cs, hcl, how, hr⟩ := h.own
  have hown := own_keep3 how hw0
  have hll : (L ++ [ts]).length = L.length + 1 := by simp
  rw [hll] at hown
  have hcs : cs ≠ [] := fun e => by rw [e] at hcl; simp at hcl
  obtain ⟨cs', c, rfl⟩ : ∃ cs' c, cs = cs' ++ [c] := by
    rcases List.eq_nil_or_concat cs with e | ⟨a, b, e⟩
    · exact absurd e hcs
    · exact ⟨a, b, by simpa using e⟩
  have hcl' : cs'.length = L.length := by simp at hcl; exact hcl
  have hz : (cs' ++ [c]).zip (L ++ [ts]) = cs'.zip L ++ [(c, ts)] := by rw [List.zip_append hcl']; rfl
  have hz2 : (cs' ++ [w.heap.size]).zip (L ++ [us]) = cs'.zip L ++ [(w.heap.size, us)] := by rw [List.zip_append hcl']; rfl
  rw [hz, List.map_append] at hown
  have hlm : ((cs'.zip L).map rcell).length = L.length := by simp; omega
  obtain ⟨st1, st2⟩ := World.ownsRow.stored hown (L.length * 3) (.slice (some ⟨w.heap.size, 0, none⟩) us.length us.length)
  have hset : (tri ((cs'.zip L).map rcell ++ [(c, ts)].map rcell)).set (L.length * 3) (.slice (some ⟨w.heap.size, 0, none⟩) us.length us.length) = tri ((cs'.zip L).map rcell ++ [(w.heap.size, us)].map rcell) := by
    have := tri_set ((cs'.zip L).map rcell) (.slice (some ⟨c, 0, none⟩) ts.length ts.length) (.slice none 0 0) (.slice none 0 0) (.slice (some ⟨w.heap.size, 0, none⟩) us.length us.length)
    rw [hlm] at this
    exact this
  rw [hset] at st1
  have hty : ∀ (x : Nat) (arr : Array Value) (t : TypeId), t ≠ 48 → w2.heap[x]? = some (.cells arr t (0, 0)) → x ≠ g := fun x arr t ht hg e => by
    rcases hown.2 with ⟨r1, _⟩ | ⟨b, cap', cur, r1, _, r3, _⟩
    · cases r1
    · injection r1 with r1 _ _
      injection r1 with r1
      injection r1 with r1 _ _
      rw [← r1, ← e, hg] at r3
      injection r3 with r3
      injection r3 with _ r3 _
      exact ht r3
  have hb2 : w2.heap[b4]? = some (.cells [.slice none 0 0, .slice (some ⟨g, 0, none⟩) (L.length + 1) cap].toArray 45 (0, 0)) := (hw0.block b4 (Array.getElem?_eq_some_iff.1 h.blk).1).trans h.blk
  have hkeep : ∀ (x : Nat) (arr : Array Value) (t : TypeId), t ≠ 48 → w2.heap[x]? = some (.cells arr t (0, 0)) → (w2.setCell ⟨g, L.length * 3, none⟩ (.slice (some ⟨w.heap.size, 0, none⟩) us.length us.length)).heap[x]? = some (.cells arr t (0, 0)) := fun x arr t ht hg => by
    rw [Below.heap_setCell _ _ _ _ (by show x ≠ g; exact hty x arr t ht hg)]; exact hg
  have hg0 := (hown.lt g rfl).1
  refine ⟨?_, World.ownsRow.frozenAt hown _, ⟨hkeep b4 _ 45 (by decide) hb2, ⟨cs' ++ [w.heap.size], by simp [hcl'], by rw [hz2, List.map_append]; simpa using st1, fun i hi' hi2 => ?_⟩, ?_, h.lt⟩⟩
  · rw [World.ownsRow.cellAt hown (L.length * 3) (by omega)]
    have e := tri_at ((cs'.zip L).map rcell ++ [(c, ts)].map rcell) L.length (by rw [List.length_append, hlm]; simp)
    exact ⟨_, e.1⟩
  · by_cases e : i < cs'.length
    · have hiL : i < L.length := by omega
      have hi3 : i < (L ++ [ts]).length := by simp; omega
      have hi4 : i < (cs' ++ [c]).length := by simp; omega
      have := hr i hi3 hi4
      rw [List.getElem_append_left e, List.getElem_append_left hiL] at this
      rw [List.getElem_append_left e, List.getElem_append_left hiL]
      exact ⟨hkeep _ _ 9 (by decide) ((hw0.block _ (Array.getElem?_eq_some_iff.1 this.1).1).trans this.1), this.2⟩
    · have e2 : i = cs'.length := by simp at hi2; omega
      subst e2
      rw [List.getElem_append_right (Nat.le_refl _), List.getElem_append_right (by omega)]
      simp only [Nat.sub_self, hcl', List.getElem_singleton]
      exact ⟨hkeep _ _ 9 (by decide) hn1, hu⟩
  · have ho : Only (fun j => j = b4) w w2 := Only.of_below hw0
    refine (h.old.trans ho (fun _ h => h) (fun _ _ h => h)).set (.inr hg0) _ _
end Go.Proofs.YtjagnihkpgbjeaaDoor

namespace Go.Proofs.YtjagnihkpgbjeaaDoor
open Go.RowKit Go.Maps Go.ChangeMaps
set_option linter.unusedVariables false
/-! A file system beside blocks X of the call's own. -/
structure Sy (B : Nat) (X : Nat → Prop) (w : World) (N f : Nat) (c : Cn) (T : Tr) : Prop where
  fs : ∃ F : Nat → Prop, Fs w B N f c T F ∧ ∀ j, F j → B ≤ j ∧ j < w.heap.size ∧ ¬ X j
  le : B ≤ w.heap.size
theorem Sy.sx {B : Nat} {X : Nat → Prop} {w : World} {N f : Nat} {c : Cn} {T : Tr} (h : Sy B X w N f c T) : Sx B w N f c T := by
  obtain ⟨⟨F, h1, h2⟩, h3⟩ := h
  exact ⟨⟨F, h1, fun j hj => ⟨(h2 j hj).1, (h2 j hj).2.1⟩⟩, h3⟩
theorem Sx.sy {B : Nat} {X : Nat → Prop} {w : World} {N f : Nat} {c : Cn} {T : Tr} (h : Sx B w N f c T) (hX : ∀ j, X j → w.heap.size ≤ j) : Sy B X w N f c T := by
  obtain ⟨⟨F, h1, h2⟩, h3⟩ := h
  exact ⟨⟨F, h1, fun j hj => ⟨(h2 j hj).1, (h2 j hj).2, fun e => by have := (h2 j hj).2; have := hX j e; omega⟩⟩, h3⟩
theorem Sy.below {B : Nat} {X : Nat → Prop} {w w' : World} {N f : Nat} {c : Cn} {T : Tr} (h : Sy B X w N f c T) (hb : Below w.heap.size w w') : Sy B X w' N f c T := by
  obtain ⟨⟨F, h1, h2⟩, h3⟩ := h
  exact ⟨⟨F, h1.below hb, fun j hj => ⟨(h2 j hj).1, Nat.lt_of_lt_of_le (h2 j hj).2.1 hb.size, (h2 j hj).2.2⟩⟩, Nat.le_trans h3 hb.size⟩
theorem Sy.set {B : Nat} {X : Nat → Prop} {w : World} {N f : Nat} {c : Cn} {T : Tr} (h : Sy B X w N f c T) {b : Nat} (hb : X b) (i : Nat) (v : Value) : Sy B X (w.setCell ⟨b, i, none⟩ v) N f c T := by
  obtain ⟨⟨F, ⟨A, M, V, h1, h4, h5⟩, h2⟩, h3⟩ := h
  refine ⟨⟨F, ⟨A, M, V, h1.only (X := fun k => k = b) ((Only.refl (fun k => k = b) w).set (.inl rfl) i v) (fun k hk hf => ?_), h4, h5⟩, fun j hj => ?_⟩, by simpa using h3⟩
  · subst hk; exact (h2 k (h4 k hf)).2.2 hb
  · have := h2 j hj
    exact ⟨this.1, by simpa using this.2.1, this.2.2⟩
theorem Sy.mut {B : Nat} {X : Nat → Prop} {w w' : World} {N f : Nat} {c c' : Cn} {T T' : Tr} {F : Nat → Prop} {er : Int} {e : Ending} (h1 : Fs w B N f c T F) (h2 : ∀ j, F j → B ≤ j ∧ j < w.heap.size ∧ ¬ X j) (h3 : B ≤ w.heap.size) (hX : ∀ j, X j → j < w.heap.size) (h : MutP w B N f F er T' c' e w') :
    e = .returned (.int .i64 er) ∧ Sy B X w' (N + 1) f c' T' ∧ Below B w w' ∧ ∀ j, X j → w'.heap[j]? = w.heap[j]? := by
  obtain ⟨e1, e2, e3⟩ := h.fs
  refine ⟨e1, ⟨⟨_, e2, fun j hj => ⟨?_, hj.2, ?_⟩⟩, Nat.le_trans h3 e3.size⟩, e3.below (fun k hk => (h2 k hk).1) h3, fun j hj => e3.block j (hX j hj) (fun e => (h2 j e).2.2 hj)⟩
  · rcases hj.1 with h | h
    · exact (h2 j h).1
    · exact Nat.le_trans h3 h
  · rcases hj.1 with h | h
    · exact (h2 j h).2.2
    · exact fun e => by have := hX j e; omega
/-! The times of three files. -/
def nmT (j : Nat) : Bz := [UInt8.ofNat (97 + j)]
def ndT (t : Nat) : Option Nd := if t = 0 then none else some ⟨true, [], t⟩
def cn1 (t : Nat) : Int := if t = 0 then 0 else 1
structure St (T : Tr) (c : Cn) (t : Nat → Nat) (k : Nat) : Prop where
  nd : ∀ j, j < 3 → T [nmT j] = ndT (t j)
  cn : c = ⟨10, 10, cn1 (t 0) + cn1 (t 1) + cn1 (t 2), 0, k⟩
  le : ∀ j, j < 3 → t j ≤ k
def updT (t : Nat → Nat) (j v i : Nat) : Nat := if i = j then v else t i
theorem nmT_nm (j : Nat) (h : j < 3) : Nm (nmT j) := by
  have hc : j = 0 ∨ j = 1 ∨ j = 2 := by omega
  rcases hc with rfl | rfl | rfl
  · exact nmA
  · exact nmB
  · exact nmC
theorem nmT_ne (i j : Nat) (hi : i < 3) (hj : j < 3) (h : i ≠ j) : nmT i ≠ nmT j := by
  have ci : i = 0 ∨ i = 1 ∨ i = 2 := by omega
  have cj : j = 0 ∨ j = 1 ∨ j = 2 := by omega
  rcases ci with rfl | rfl | rfl <;> rcases cj with rfl | rfl | rfl <;> first | exact absurd rfl h | decide
theorem cn1_le (t : Nat) : 0 ≤ cn1 t ∧ cn1 t ≤ 1 := by unfold cn1; split <;> omega
theorem St.ok {T : Tr} {c : Cn} {t : Nat → Nat} {k : Nat} (h : St T c t k) (hk : k ≤ 1000) : c.Ok := by
  have := cn1_le (t 0); have := cn1_le (t 1); have := cn1_le (t 2)
  rw [h.cn]
  exact ⟨⟨by show (0 : Int) ≤ 10; omega, by show (10 : Int) ≤ _; omega⟩, ⟨by show (0 : Int) ≤ 10; omega, by show (10 : Int) ≤ _; omega⟩, ⟨by show 0 ≤ cn1 (t 0) + cn1 (t 1) + cn1 (t 2); omega, by show cn1 (t 0) + cn1 (t 1) + cn1 (t 2) ≤ _; omega⟩, ⟨by show (0 : Int) ≤ 0; omega, by show (0 : Int) ≤ _; omega⟩, ⟨by show (0 : Int) ≤ k; omega, by show (k : Int) ≤ _; omega⟩⟩
theorem St.next {T : Tr} {c : Cn} {t : Nat → Nat} {k : Nat} (h : St T c t k) (j : Nat) (hj : j < 3) (x : Int) (hx : x = cn1 (updT t j (k + 1) 0) + cn1 (updT t j (k + 1) 1) + cn1 (updT t j (k + 1) 2)) :
    St (setF T [nmT j] (some ⟨true, [], c.clock + 1⟩)) ⟨c.nodes, c.bytes, x, c.size, c.clock + 1⟩ (updT t j (k + 1)) (k + 1) := by
  have hc := h.cn
  subst hc
  refine ⟨fun i hi => ?_, by rw [hx]; simp, fun i hi => ?_⟩
  · by_cases e : i = j
    · subst e
      rw [setF_same]
      simp [updT, ndT]
    · rw [setF_other _ _ (by intro e2; exact nmT_ne i j hi hj e (by simpa using e2)), h.nd i hi]
      simp [updT, e]
  · unfold updT
    split
    · exact Nat.le_refl _
    · exact Nat.le_succ_of_le (h.le i hi)
theorem cn_upd (t : Nat → Nat) (j k : Nat) (hj : j < 3) : cn1 (updT t j (k + 1) 0) + cn1 (updT t j (k + 1) 1) + cn1 (updT t j (k + 1) 2) = cn1 (t 0) + cn1 (t 1) + cn1 (t 2) + (1 - cn1 (t j)) := by
  have hc : j = 0 ∨ j = 1 ∨ j = 2 := by omega
  rcases hc with rfl | rfl | rfl <;> simp [updT, cn1] <;> omega
theorem Touch_st {B : Nat} {X : Nat → Prop} {w : World} {N f : Nat} {c : Cn} {T : Tr} {t : Nat → Nat} {k : Nat} (h : Sy B X w N f c T) (hX : ∀ j, X j → j < w.heap.size) (hS : St T c t k) (hk : k ≤ 100) (hN : N < maxLen) (j : Nat) (hj : j < 3) :
    Calls Tryd.prog 21 #[.pointer (some ⟨f, 0, none⟩), .string (pathB (nmT j))] w fun e w' => e = .returned (.int .i64 0) ∧ (∃ c' T', Sy B X w' (N + 1) f c' T' ∧ St T' c' (updT t j (k + 1)) (k + 1)) ∧ Below B w w' ∧ ∀ j, X j → w'.heap[j]? = w.heap[j]? := by
  obtain ⟨⟨F, h1, h2⟩, h3⟩ := h
  have hcn := hS.cn
  have hok := hS.ok (by omega)
  have b0 := cn1_le (t 0); have b1 := cn1_le (t 1); have b2 := cn1_le (t 2)
  by_cases ht : t j = 0
  · have hn : T [nmT j] = none := by rw [hS.nd j hj, ht]; rfl
    refine (TouchN h1 (nmT_nm j hj) hn hok hN h3 (by rw [hcn]; show ¬ (10 : Int) ≤ cn1 (t 0) + cn1 (t 1) + cn1 (t 2); omega) (by rw [hcn]; show (0 : Int) ≤ 10; omega)).mono ?_
    intro e w' hm
    obtain ⟨e1, e2, e3, e4⟩ := Sy.mut h1 h2 h3 hX hm
    exact ⟨e1, ⟨_, _, e2, hS.next j hj _ (by rw [cn_upd t j k hj, hcn]; show cn1 (t 0) + cn1 (t 1) + cn1 (t 2) + 1 = _; simp [cn1, ht])⟩, e3, e4⟩
  · have hn : T [nmT j] = some ⟨true, [], t j⟩ := by rw [hS.nd j hj]; simp [ndT, ht]
    refine (TouchO h1 (nmT_nm j hj) hn hok).mono ?_
    intro e w' hm
    obtain ⟨e1, e2, e3, e4⟩ := Sy.mut h1 h2 h3 hX hm
    exact ⟨e1, ⟨_, _, e2, hS.next j hj _ (by rw [cn_upd t j k hj, hcn]; show cn1 (t 0) + cn1 (t 1) + cn1 (t 2) = _; simp [cn1, ht])⟩, e3, e4⟩
/-! What Old and Newer say of them. -/
def wantT (t : Nat → Nat) : Bool := decide (t 0 = 0) || (decide (t 0 < t 1) || decide (t 0 < t 2))
theorem tm_st {T : Tr} {c : Cn} {t : Nat → Nat} {k : Nat} (h : St T c t k) (j : Nat) (hj : j < 3) : tmF T (nmT j) = t j := by
  unfold tmF
  rw [h.nd j hj]
  unfold ndT
  by_cases e : t j = 0
  · rw [if_pos e, e]; rfl
  · rw [if_neg e]
theorem th_st {T : Tr} {c : Cn} {t : Nat → Nat} {k : Nat} (h : St T c t k) (j : Nat) (hj : j < 3) : thF T (nmT j) = decide (t j ≠ 0) := by
  unfold thF
  rw [h.nd j hj]
  unfold ndT
  by_cases e : t j = 0
  · rw [if_pos e]; simp [e]
  · rw [if_neg e]; simp [e]
theorem newer_st {T : Tr} {c : Cn} {t : Nat → Nat} {k : Nat} (h : St T c t k) : ([[98], [99]] : List Bs).filter (fun x => decide (tmF T [97] < tmF T x)) = (if t 0 < t 1 then [[98]] else []) ++ (if t 0 < t 2 then [[99]] else []) := by
  have h0 : tmF T [97] = t 0 := tm_st h 0 (by omega)
  have h1 : tmF T [98] = t 1 := tm_st h 1 (by omega)
  have h2 : tmF T [99] = t 2 := tm_st h 2 (by omega)
  by_cases a : t 0 < t 1 <;> by_cases b : t 0 < t 2 <;> simp [h0, h1, h2, a, b]
theorem old_st {T : Tr} {c : Cn} {t : Nat → Nat} {k : Nat} (h : St T c t k) : oldF [] T [97] [[98], [99]] [] = wantT t := by
  have h0 : thF T [97] = decide (t 0 ≠ 0) := th_st h 0 (by omega)
  have hh : hasF [] phB.data.toList [97] = false := by decide
  unfold oldF wantT newerF
  rw [hh, h0, newer_st h]
  by_cases z : t 0 = 0
  · simp [z]
  · by_cases a : t 0 < t 1 <;> by_cases b : t 0 < t 2 <;> simp [z, a, b]
end Go.Proofs.YtjagnihkpgbjeaaDoor
