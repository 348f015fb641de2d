import Derived.Test.YtjagnihkpgbjeaaDoorFB
import Derived.Test.YtjagnihkpgbjeaaDoorVL
import Derived.Laws.AppendOwnNone
namespace Go.Proofs.YtjagnihkpgbjeaaDoor
open Go.RowKit
set_option linter.unusedVariables false
theorem plain_take (rs : List Rl) (x : Bs) (k : Nat) (h : k < rs.length) (b : Bool) (hb : makesF rs[k] x = b) : plainF (rs.take (k + 1)) x = if b then plainF (rs.take k) x ++ [rs[k]] else plainF (rs.take k) x := by
  unfold plainF
  rw [List.take_succ_eq_append_getElem h, List.filter_append]
  cases b <;> simp [hb]
theorem plain_len (rs : List Rl) (x : Bs) : (plainF rs x).length ≤ rs.length := List.length_filter_le _ _
/-- What plain answers. -/
def PlainP (wb : World) (rs : List Rl) (x : Bs) (w : World) (e : Ending) (w' : World) : Prop := ∃ v, e = .returned v ∧ Ro wb w w' v (plainF rs x)
theorem box3 {w w1 : World} {x y z : Value} (h1 : Below (w.alloc (.cells #[x, y, z] 48)).heap.size (w.alloc (.cells #[x, y, z] 48)) w1) :
    w1.cell? ⟨w.heap.size, 0, none⟩ = some x ∧ w1.cell? ⟨w.heap.size, 1, none⟩ = some y ∧ w1.cell? ⟨w.heap.size, 2, none⟩ = some z ∧ Below w.heap.size w w1 := by
  have hz : w.heap.size < (w.alloc (.cells #[x, y, z] 48)).heap.size := by simp
  refine ⟨(h1.cell (p := ⟨w.heap.size, 0, none⟩) hz).trans ?_, (h1.cell (p := ⟨w.heap.size, 1, none⟩) hz).trans ?_, (h1.cell (p := ⟨w.heap.size, 2, none⟩) hz).trans ?_, (below_alloc w _).trans (h1.mono (by simp))⟩ <;>
    simp only [World.cell?, heap_alloc_new w] <;> rfl
theorem sl_form {w : World} {v : Value} {L : List Bs} (h : SlS w v L) : ∃ a n c, v = .slice a n c := by
  obtain ⟨a, c, rfl⟩ := h.len
  exact ⟨_, _, _, rfl⟩
/-- A rule of a row, read behind. -/
theorem RsV.get2 {w w' : World} {a : Option Addr} {n c : Nat} {rs : List Rl} (h : RsV w (.slice a n c) rs) (hb : Below w.heap.size w w') (k : Nat) (hk : k < rs.length) :
    ∃ g off a0 n0 c0 a1 n1 c1 a2 n2 c2, a = some ⟨g, off, none⟩ ∧ w'.cell? ⟨g, off + k * 3, none⟩ = some (.slice a0 n0 c0) ∧ w'.cell? ⟨g, off + k * 3 + 1, none⟩ = some (.slice a1 n1 c1) ∧ w'.cell? ⟨g, off + k * 3 + 2, none⟩ = some (.slice a2 n2 c2) ∧ Rl3 w (.slice a0 n0 c0) (.slice a1 n1 c1) (.slice a2 n2 c2) rs[k] := by
  obtain ⟨g, off, x, y, z, e, hg, q0, q1, q2, hr⟩ := h.get k hk
  obtain ⟨a0, n0, c0, rfl⟩ := sl_form hr.t
  obtain ⟨a1, n1, c1, rfl⟩ := sl_form hr.n
  obtain ⟨a2, n2, c2, rfl⟩ := sl_form hr.k
  exact ⟨g, off, _, _, _, _, _, _, _, _, _, e, (hb.cell (p := ⟨g, _, none⟩) hg).trans q0, (hb.cell (p := ⟨g, _, none⟩) hg).trans q1, (hb.cell (p := ⟨g, _, none⟩) hg).trans q2, hr⟩
set_option maxRecDepth 100000 in
set_option maxHeartbeats 4000000 in
theorem plain_any (ms v : Value) (rs : List Rl) (x : ByteArray) (wb w : World) (hv : RsV wb v rs) (hwb : Below wb.heap.size wb w) (hl : rs.length ≤ 1000) :
    Calls Tryd.prog 51 #[.agg #[ms, v], .string x] w (PlainP wb rs x.data.toList w) := by
  obtain ⟨a, c, rfl⟩ := hv.len
  have HV := Lib.hid hv
  have HWB := Lib.hid hwb
  obtain ⟨n, hn⟩ : ∃ n, rs.length = n := ⟨_, rfl⟩
  rw [hn] at hl HV ⊢
  have HN := Lib.hid hn
  obtain ⟨xl, hxl⟩ : ∃ xl, x.data.toList = xl := ⟨_, rfl⟩
  have HX := Lib.hid hxl
  rw [hxl]
  clear hv hn hxl hwb
  go_enter Tryd.func51, Tryd.ntmps51
  go_wp2_with fail
  go_loopw [5, 11] (fun l i wr => ∃ k : Nat, k ≤ n ∧ i = .int .i64 k ∧ Hid (Ro wb w wr l (plainF (rs.take k) xl))) (fun _ i _ => n - (intOf i).toNat)
  case atStart => exact ⟨0, by omega, rfl, ⟨⟨[], rfl, World.ownsRow_nil _ _ _ _, fun i h => absurd h (by simp [plainF])⟩, below_alloc _ _⟩⟩
  case round =>
    obtain ⟨k, hk, rfl, HR⟩ := hrel
    by_cases hlt : k < n
    · have hltI : (k : Int) < (n : Int) := by omega
      have h0 : (0 : Int) ≤ (k : Int) := by omega
      have hlr : k < rs.length := by rw [HN.out]; exact hlt
      obtain ⟨g, off, a0, n0, c0, a1, n1, c1, a2, n2, c2, rfl, q0, q1, q2, hr⟩ := HV.out.get2 (HWB.out.trans (HR.out.old.mono HWB.out.size)) k hlr
      have hadd := addk3 g off k
      obtain ⟨t, ht⟩ : ∃ t, makesF rs[k] xl = t := ⟨_, rfl⟩
      have HT := Lib.hid (plain_take rs xl k hlr t ht)
      have HR3 := Lib.hid hr
      have HM := Lib.hid (fun w => fun (h : Rl3 w (.slice a0 n0 c0) (.slice a1 n1 c1) (.slice a2 n2 c2) rs[k]) => makes_any _ _ _ rs[k] x w h t (by rw [HX.out]; exact ht))
      clear hr ht
      cases t with
      | false =>
        go_wp2_with (go_at_call 77; refine (HM.out _ (HR3.out.below (HWB.out.trans ((HR.out.old.trans ((below_alloc _ _).mono HR.out.old.size)).mono HWB.out.size)))).mono ?_; rintro e w1 ⟨rfl, h1⟩; have H1 := Lib.hid (box3 h1); clear h1; simp only [])
        exact ⟨⟨k + 1, by omega, by go_num, by rw [HT.out]; exact HR.out.below H1.out.2.2.2⟩, by simp [intOf]; omega⟩
      | true =>
        go_wp2_with (first
          | (go_at_call 77; refine (HM.out _ (HR3.out.below (HWB.out.trans ((HR.out.old.trans ((below_alloc _ _).mono HR.out.old.size)).mono HWB.out.size)))).mono ?_; rintro e w1 ⟨rfl, h1⟩; have H1 := Lib.hid (box3 h1); clear h1; obtain ⟨p0, p1, p2, _⟩ := H1.out; simp only [])
          | (at_builtin; obtain ⟨v', w', hrun, hro⟩ := (HR.out.below H1.out.2.2.2).push (Nat.le_trans (plain_len _ _) (by simp; omega)) _ _ _ rs[k] HR3.out; have HRO := Lib.hid hro; have HRUN := Lib.hid hrun; clear hrun hro; refine wpList_run_append _ rfl _ _ 43 43 rfl _ _ rfl rfl HRUN.out ?_))
        exact ⟨⟨k + 1, by omega, by go_num, by rw [HT.out]; exact HRO.out⟩, by simp [intOf]; omega⟩
    · have hltI : ¬ (k : Int) < (n : Int) := by omega
      go_wp2_with fail
      go_ret
      refine ⟨_, rfl, ?_⟩
      have := HR.out
      rw [List.take_of_length_le (by rw [HN.out]; omega)] at this
      exact this
end Go.Proofs.YtjagnihkpgbjeaaDoor
