import Derived.Test.YtjagnihkpgbjeaaDoorHC
import Derived.Carry
namespace Go.Proofs.YtjagnihkpgbjeaaDoor
open Go.RowKit Go.Maps Go.ChangeMaps
set_option linter.unusedVariables false
theorem sort_any {wI : World} {f : Nat} {T : Tr} {rs : List Rl} {am ar : Option Addr} {nm cm nr cr : Nat} (C : GCtx wI f T rs (.slice ar nr cr)) (wb mb : Nat) :
    ∀ (fuel : Nat) (ts : List Bs) (tv : Value) (s : GS) (er : Int) (sf : GS) (w : World) (ov : Value), sortF (GG rs) (thF T) fuel ts s = some (er, sf) → WA wI w f wb mb am nm cm ar nr cr ov s → (∀ w', Only (SS wb mb ov) w w' → SlS w' tv ts) → ts.length ≤ 200000 →
      Calls Tryd.prog 56 #[.pointer (some ⟨wb, 0, none⟩), tv] w (SortP wI w f wb mb am nm cm ar nr cr ov er sf) := by
  intro fuel
  induction fuel using Nat.strongRecOn with
  | _ fuel ih =>
    intro ts tv s er sf w ov h1 h2 h3 h4
    exact sort_step C wb mb fuel (fun fk hfk ts tv s er sf w ov a b c d => ih fk hfk ts tv s er sf w ov a b c d) ts tv s er sf w ov h1 h2 h3 h4
def s00 : GS := ⟨fun _ => 0, 0, 0, []⟩
def NewWP (wI w : World) (f : Nat) (am : Option Addr) (nm cm : Nat) (ar : Option Addr) (nr cr : Nat) (e : Ending) (w' : World) : Prop :=
  ∃ wb mb, e = .returned (.pointer (some ⟨wb, 0, none⟩)) ∧ WA wI w' f wb mb am nm cm ar nr cr (.slice none 0 0) s00 ∧ Below w.heap.size w w'
set_option maxRecDepth 100000 in
set_option maxHeartbeats 4000000 in
theorem newWalk_any (wI w : World) (hI : Below wI.heap.size wI w) (f : Nat) (am : Option Addr) (nm cm : Nat) (ar : Option Addr) (nr cr : Nat) :
    Calls Tryd.prog 55 #[.agg #[.slice am nm cm, .slice ar nr cr], .pointer (some ⟨f, 0, none⟩), .string ⟨#[47]⟩] w (NewWP wI w f am nm cm ar nr cr) := by
  have hmm := @run_makeMap Tryd.prog
  have HI := Lib.hid hI
  obtain ⟨Q, hQ⟩ : ∃ Q, NewWP wI w f am nm cm ar nr cr = Q := ⟨_, rfl⟩
  rw [hQ]
  have HQ := Lib.hid hQ
  clear hI hQ
  go_enter Tryd.func55, Tryd.ntmps55
  go_wp2_with fail
  rw [← HQ.out]
  refine ⟨w.heap.size + 1 + 1, w.heap.size + 1, rfl, ?_, below_trans (below_alloc _ _) (below_trans (below_alloc _ _) (below_alloc _ _))⟩
  obtain ⟨w1, h1⟩ : ∃ w1, w.alloc (.cells #[.slice am nm cm, .slice ar nr cr] 45) = w1 := ⟨_, rfl⟩
  have b1 : Below w.heap.size w w1 := h1 ▸ below_alloc _ _
  have s1 : w1.heap.size = w.heap.size + 1 := by rw [← h1, size_alloc]
  rw [h1, ← s1]
  have s2 : (w1.alloc (.map #[] 0)).heap.size = w1.heap.size + 1 := size_alloc _ _
  have hz := heap_alloc_new (w1.alloc (.map #[] 0)) (.cells #[.slice am nm cm, .slice ar nr cr, .pointer (some ⟨f, 0, none⟩), .string ⟨#[47]⟩, .map (some w1.heap.size), .int .i64 0, .int .i64 0, .slice none 0 0] 100)
  rw [s2] at hz
  have hm : IMap ((w1.alloc (.map #[] 0)).alloc (.cells #[.slice am nm cm, .slice ar nr cr, .pointer (some ⟨f, 0, none⟩), .string ⟨#[47]⟩, .map (some w1.heap.size), .int .i64 0, .int .i64 0, .slice none 0 0] 100)) w1.heap.size 0 (fun _ => 0) :=
    ⟨0, .map [], Nat.le_refl _, (World.ownsMap_made w1 _ _ _).alloc _, fun k => rfl⟩
  have hI := HI.out
  have hIs := hI.size
  have hB : Below wI.heap.size wI ((w1.alloc (.map #[] 0)).alloc (.cells #[.slice am nm cm, .slice ar nr cr, .pointer (some ⟨f, 0, none⟩), .string ⟨#[47]⟩, .map (some w1.heap.size), .int .i64 0, .int .i64 0, .slice none 0 0] 100)) := below_trans hI (below_trans b1 (below_trans (below_alloc _ _) (below_alloc _ _)))
  exact ⟨hz, hm, World.ownsRow_nil _ _ _ _, ⟨by omega, by omega⟩, fun g hg => by (cases hg), hB, Nat.le_refl _, by decide, Nat.le_refl _⟩
def OrderP (w : World) (er : Int) (l : List Bs) (e : Ending) (w' : World) : Prop := ∃ v, e = .returned (.tuple #[v, .int .i64 er]) ∧ SlS w' v (if er = 0 then l else []) ∧ Below w.heap.size w w'
set_option maxRecDepth 100000 in
set_option maxHeartbeats 4000000 in
theorem Order_any {w : World} {f : Nat} {T : Tr} {rs : List Rl} {am ar : Option Addr} {nm cm nr cr : Nat} (C : GCtx w f T rs (.slice ar nr cr)) (tv : Value) (ts : List Bs) (htv : SlS w tv ts) (hl : ts.length ≤ 200000) (fuel : Nat) (er : Int) (sf : GS) (hso : sortF (GG rs) (thF T) fuel ts s00 = some (er, sf)) :
    Calls Tryd.prog 30 #[.agg #[.slice am nm cm, .slice ar nr cr], .pointer (some ⟨f, 0, none⟩), .string ⟨#[47]⟩, tv] w (OrderP w er sf.order) := by
  have hba := below_alloc w (.cells #[.slice am nm cm, .slice ar nr cr] 45)
  have HN := Lib.hid (newWalk_any w (w.alloc (.cells #[.slice am nm cm, .slice ar nr cr] 45)) hba f am nm cm ar nr cr)
  have HS := Lib.hid (fun (wb mb : Nat) (w1 : World) (hW : WA w w1 f wb mb am nm cm ar nr cr (.slice none 0 0) s00) => sort_any C wb mb fuel ts tv s00 er sf w1 (.slice none 0 0) hso hW (fun w' ho => (htv.below hW.old).only2 ho (fun g hg1 hg e => by
    rcases htv with ⟨rfl, _⟩ | ⟨g', off, c, rfl, _, _, h3, _⟩
    · cases hg
    · injection hg with hg
      have hg : g' = g := hg
      have := hW.ge
      rcases e with e | e | e
      · omega
      · omega
      · cases e)) hl)
  obtain ⟨a, n, c, rfl⟩ := sl_form htv
  obtain ⟨Q, hQ⟩ : ∃ Q, OrderP w er sf.order = Q := ⟨_, rfl⟩
  rw [hQ]
  have HQ := Lib.hid hQ
  clear C htv hso hba hQ
  go_enter Tryd.func30, Tryd.ntmps30
  go_wp2_with (go_at_call 55; refine HN.out.mono ?_; rintro e w1 ⟨wb, mb, rfl, hw, _⟩; have HW := Lib.hid hw; clear hw; simp only [])
  refine (HS.out _ _ _ HW.out).mono ?_
  rintro e w2 ⟨rfl, ov, hw2, hr2⟩
  have HW2 := Lib.hid hw2
  have q7 : w2.cell? ⟨wb, 7, none⟩ = some ov := cell_of hw2.blk 7
  clear hw2 hr2
  simp only []
  by_cases he : er = 0
  · subst he
    go_wp2_with fail
    rw [← HQ.out]
    exact ⟨_, rfl, SlS.own HW2.out.ord, HW2.out.old⟩
  · have hen : (er != 0) = true := by simpa using he
    go_wp2_with fail
    rw [← HQ.out]
    exact ⟨_, rfl, by rw [if_neg he]; exact sl0 _, HW2.out.old⟩
/-! Goal. -/
def goalF (rs : List Rl) : Option Bs := match rs with
  | [] => none
  | r :: rs => match r.ts with
    | [] => goalF rs
    | t :: ts => if (t :: ts).any pct then goalF rs else if t.head? = some 46 ∧ (47 : UInt8) ∉ t then goalF rs else some t
theorem goalF_drop (rs : List Rl) (k : Nat) (h : k < rs.length) : goalF (rs.drop k) = match rs[k].ts with
    | [] => goalF (rs.drop (k + 1))
    | t :: ts => if (t :: ts).any pct then goalF (rs.drop (k + 1)) else if t.head? = some 46 ∧ (47 : UInt8) ∉ t then goalF (rs.drop (k + 1)) else some t := by
  rw [List.drop_eq_getElem_cons h]; rfl
def GoalP (r : Option Bs) (w : World) (e : Ending) (w' : World) : Prop := (match r with | none => e = .returned (.tuple #[.string ⟨#[]⟩, .bool false]) | some t => e = .returned (.tuple #[.string (nameB t), .bool true])) ∧ Below w.heap.size w w'
theorem idx47 (l : Bs) : decide (0 ≤ Lib.indexByte l 47) = decide ((47 : UInt8) ∈ l) := by
  rw [decide_eq_decide]
  exact idx_iff 47 l
set_option maxRecDepth 100000 in
set_option maxHeartbeats 4000000 in
theorem Goal_any (w : World) (am ar : Option Addr) (nm cm nr cr : Nat) (rs : List Rl) (hv : RsV w (.slice ar nr cr) rs) (hl : rs.length ≤ 1000) :
    Calls Tryd.prog 32 #[.agg #[.slice am nm cm, .slice ar nr cr]] w (GoalP (goalF rs) w) := by
  have HV := Lib.hid hv
  obtain ⟨n, hn⟩ : ∃ n, rs.length = n := ⟨_, rfl⟩
  have hnr : nr = n := by obtain ⟨a, c, e⟩ := hv.len; rw [hn] at e; injection e
  subst hnr
  rw [hn] at hl
  have HN := Lib.hid hn
  obtain ⟨Q, hQ⟩ : ∃ Q, GoalP (goalF rs) w = Q := ⟨_, rfl⟩
  rw [hQ]
  have HQ := Lib.hid hQ
  clear hv hn hQ
  go_enter Tryd.func32, Tryd.ntmps32
  go_wp2_with fail
  refine wp_scope_straight ?_
  go_wp2_with fail
  refine wp_label ?_
  go_wp2_with fail
  go_loopw [10] (fun i wr => ∃ k : Nat, k ≤ nr ∧ i = .int .i64 k ∧ Hid (goalF rs = goalF (rs.drop k)) ∧ Hid (Below w.heap.size w wr)) (fun i _ => nr - (intOf i).toNat)
  case atStart => exact ⟨0, Nat.zero_le _, rfl, rfl, below_alloc _ _⟩
  case round =>
    obtain ⟨k, hk, rfl, HG, HB⟩ := hrel
    by_cases hlt : k < nr
    · have hltI : (k : Int) < (nr : Int) := by omega
      have h0 : (0 : Int) ≤ (k : Int) := by omega
      have hlr : k < rs.length := by rw [HN.out]; exact hlt
      obtain ⟨g, off, a0, n0, c0, a1, n1, c1, a2, n2, c2, rfl, q0, q1, q2, hr⟩ := HV.out.get2 HB.out k hlr
      have hadd := addk3 g off k
      have HD : Hid (goalF rs = _) := HG.out.trans (goalF_drop rs k hlr)
      have HR3 := Lib.hid hr
      obtain ⟨ts, hts⟩ : ∃ ts, rs[k].ts = ts := ⟨_, rfl⟩
      rw [hts] at HD
      have hst := hr.t
      have hltt := hr.lt
      rw [hts] at hst hltt
      have hn0 : n0 = ts.length := by obtain ⟨a', c', e⟩ := hst.len; injection e
      subst hn0
      have HST := Lib.hid (hst.below (HB.out.trans ((below_alloc wr (.cells #[.slice a0 ts.length c0, .slice a1 n1 c1, .slice a2 n2 c2] 48)).mono HB.out.size)))
      clear hr hts hst
      cases ts with
      | nil =>
        simp only [List.length_nil] at q0 HST
        go_wp2_with fail
        exact ⟨⟨k + 1, by omega, by go_num, HD.out, HB.out.trans ((below_alloc _ _).mono HB.out.size)⟩, by simp [intOf]; omega⟩
      | cons t ts =>
        obtain ⟨m, hm⟩ : ∃ m, (t :: ts).length = m := ⟨_, rfl⟩
        have hm0 : ((m : Int) == 0) = false := by rw [← hm]; simp; omega
        have hm1 : 0 < m := by rw [← hm]; simp
        have hm1I : (0 : Int) < (m : Int) := by omega
        obtain ⟨b, hb⟩ : ∃ b, (t :: ts).any pct = b := ⟨_, rfl⟩
        have HC := Lib.hid (ContainsF_any _ _ _ HST.out (by omega) b hb)
        have hc0 := (strs_sl HST.out (by simp))
        obtain ⟨g2, off2, rfl, _, hc2⟩ := hc0
        have hq := hc2 0 (by simp)
        rw [Nat.add_zero, show encStr (t :: ts)[0] = .string (nameB t) from rfl] at hq
        have hadd2 : (⟨g2, off2, none⟩ : Addr).add 0 = ⟨g2, off2, none⟩ := rfl
        rw [hm] at HST HC q0 hq
        have HBT := Lib.hid hb
        clear hc2 hm hb
        cases b with
        | true =>
          have HD2 : Hid (goalF rs = goalF (rs.drop (k + 1))) := by have := HD.out; simp only [HBT.out, if_true] at this; exact this
          go_wp2_with (go_at_call 57; refine HC.out.mono ?_; rintro e w1 ⟨rfl, h1⟩; obtain rfl := h1.symm; simp only [])
          exact ⟨⟨k + 1, by omega, by go_num, HD2.out, HB.out.trans ((below_alloc _ _).mono HB.out.size)⟩, by simp [intOf]; omega⟩
        | false =>
          have HD2 : Hid (goalF rs = if t.head? = some 46 ∧ (47 : UInt8) ∉ t then goalF (rs.drop (k + 1)) else some t) := by have := HD.out; simp only [HBT.out, if_false, Bool.false_eq_true] at this; exact this
          have hdt : (nameB t).data.toList = t := by unfold nameB; simp
          have HP := Lib.hid (fun w => Tryd.strings_HasPrefix (nameB t) ⟨#[46]⟩ w)
          have HI := Lib.hid (fun w => Tryd.strings_Contains_one (nameB t) 47 w)
          rw [hdt, show (⟨#[46]⟩ : ByteArray).data.toList = [46] from rfl, hp_dot] at HP
          rw [hdt, idx47] at HI
          obtain ⟨tb, htb⟩ : ∃ tb, nameB t = tb := ⟨_, rfl⟩
          rw [htb] at HP HI hq
          have HTB := Lib.hid htb
          clear hdt htb
          by_cases hd : t.head? = some 46
          · rw [decide_eq_true hd] at HP
            by_cases hs : (47 : UInt8) ∈ t
            · rw [decide_eq_true hs] at HI
              have HF : Hid (GoalP (goalF rs) w (.returned (.tuple #[.string tb, .bool true])) (wr.alloc (.cells #[.slice (some ⟨g2, off2, none⟩) m c0, .slice a1 n1 c1, .slice a2 n2 c2] 48))) := by
                rw [Hid, HD2.out, if_neg (by rintro ⟨_, h⟩; exact h hs)]
                exact ⟨by show Ending.returned (.tuple #[.string tb, .bool true]) = .returned (.tuple #[.string (nameB t), .bool true]); rw [HTB.out], HB.out.trans ((below_alloc _ _).mono HB.out.size)⟩
              clear hd hs
              go_wp2_with (first
                | (go_at_call 57; refine HC.out.mono ?_; rintro e w1 ⟨rfl, h1⟩; obtain rfl := h1.symm; simp only [])
                | (go_at_call 59; refine (HP.out _).mono ?_; rintro e w1 ⟨rfl, h1⟩; obtain rfl := h1.symm; simp only [])
                | (go_at_call 60; refine (HI.out _).mono ?_; rintro e w1 ⟨rfl, h1⟩; obtain rfl := h1.symm; simp only []))
              rw [← HQ.out]
              exact HF.out
            · rw [decide_eq_false hs] at HI
              have HD3 : Hid (goalF rs = goalF (rs.drop (k + 1))) := by rw [Hid, HD2.out, if_pos ⟨hd, hs⟩]
              clear hd hs
              go_wp2_with (first
                | (go_at_call 57; refine HC.out.mono ?_; rintro e w1 ⟨rfl, h1⟩; obtain rfl := h1.symm; simp only [])
                | (go_at_call 59; refine (HP.out _).mono ?_; rintro e w1 ⟨rfl, h1⟩; obtain rfl := h1.symm; simp only [])
                | (go_at_call 60; refine (HI.out _).mono ?_; rintro e w1 ⟨rfl, h1⟩; obtain rfl := h1.symm; simp only []))
              exact ⟨⟨k + 1, by omega, by go_num, HD3.out, HB.out.trans ((below_alloc _ _).mono HB.out.size)⟩, by simp [intOf]; omega⟩
          · rw [decide_eq_false hd] at HP
            have HF : Hid (GoalP (goalF rs) w (.returned (.tuple #[.string tb, .bool true])) (wr.alloc (.cells #[.slice (some ⟨g2, off2, none⟩) m c0, .slice a1 n1 c1, .slice a2 n2 c2] 48))) := by
              rw [Hid, HD2.out, if_neg (by rintro ⟨h, _⟩; exact hd h)]
              exact ⟨by show Ending.returned (.tuple #[.string tb, .bool true]) = .returned (.tuple #[.string (nameB t), .bool true]); rw [HTB.out], HB.out.trans ((below_alloc _ _).mono HB.out.size)⟩
            clear hd
            go_wp2_with (first
              | (go_at_call 57; refine HC.out.mono ?_; rintro e w1 ⟨rfl, h1⟩; obtain rfl := h1.symm; simp only [])
              | (go_at_call 59; refine (HP.out _).mono ?_; rintro e w1 ⟨rfl, h1⟩; obtain rfl := h1.symm; simp only []))
            rw [← HQ.out]
            exact HF.out
    · have hltI : ¬ (k : Int) < (nr : Int) := by omega
      have HF : Hid (GoalP (goalF rs) w (.returned (.tuple #[.string ⟨#[]⟩, .bool false])) wr) := by
        rw [Hid, HG.out, List.drop_eq_nil_of_le (by rw [HN.out]; omega)]
        exact ⟨rfl, HB.out⟩
      go_wp2_with fail
      rw [← HQ.out]
      exact HF.out
end Go.Proofs.YtjagnihkpgbjeaaDoor
