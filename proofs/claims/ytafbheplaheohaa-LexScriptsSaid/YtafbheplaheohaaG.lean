import Derived.Test.YtafbheplaheohaaF
namespace Go.Proofs.Ytafbheplaheohaa
open Go.RowKit
set_option linter.unusedVariables false

def AllP (w : World) (B : Nat) (l : List Prt) (e : Ending) (w' : World) : Prop := ∃ v, e = .returned v ∧ Wd w' (fun k => B ≤ k) v l ∧ Below B w w'
set_option maxRecDepth 100000 in
set_option maxHeartbeats 4000000 in
theorem all_any {w : World} {B pb : Nat} {lv : Value} {p : PS} (h : PAt w B pb lv p) (hz : p.sz ≤ 90000) (hB : B ≤ w.heap.size) :
    Calls Try.prog 34 #[.pointer (some ⟨pb, 0, none⟩)] w (AllP w B p.all) := by
  obtain ⟨Q, hQ⟩ : ∃ Q, AllP w B p.all = Q := ⟨_, rfl⟩
  rw [hQ]
  have HQ := Lib.hid hQ
  have HF := Lib.hid (flush_any h (by omega) hB)
  have hqf : p.flush.quotes = p.quotes := rfl
  by_cases hc : p.flush.list.isEmpty = true ∧ p.quotes = true
  · have HALL : Hid (p.all = [txt 2 []]) := by rw [Hid]; unfold PS.all; rw [hc.1, hc.2]; rfl
    obtain ⟨he, hqt⟩ := hc
    have hl0 : p.flush.list = [] := by simpa using he
    clear hQ h he
    go_enter Try.func34, Try.ntmps34
    go_wp2_with (go_at_call 51; refine HF.out.mono ?_; rintro e w3 ⟨rfl, lv3, hP3, hb3, hs3⟩; have hge := hP3.ge; obtain ⟨bv, L, hb, hl, hby⟩ := hP3.ex; rw [hl0] at hl; obtain ⟨la, lc, hlf⟩ := hl.wd.form; simp only [List.length_nil] at hlf; subst hlf; rw [hqf, hqt] at hb; have HB := Lib.hid hb; have HB3 := Lib.hid hb3; have q0 : w3.cell? ⟨pb, 0, none⟩ = some (.slice la 0 lc) := cell_of hb 0; have q3 : w3.cell? ⟨pb, 3, none⟩ = some (.bool true) := cell_of hb 3; have f0 := free_of hb 0; have hlt := blk_lt hb; clear hP3 hb3 hs3 hb hl hby; simp only [])
    rw [← HQ.out, HALL.out]
    have hsz : w3.heap.size ≠ pb := by omega
    refine ⟨.slice (some ⟨w3.heap.size, 0, none⟩) 1 1, rfl, Wd.one (pt := ⟨2, ⟨#[]⟩, ⟨#[]⟩, ⟨#[]⟩, .slice none 0 0, false⟩) (Nat.le_trans hB HB3.out.size) ?_ ⟨rfl, rfl, rfl, rfl, rfl⟩ (.nil 0), ?_⟩
    · have h1 := heap_alloc_new (w3.setCell ⟨pb, 0, none⟩ (.slice (some ⟨w3.heap.size, 0, none⟩) 1 1)) (.cells #[.int .i64 2, .string ⟨#[]⟩, .string ⟨#[]⟩, .string ⟨#[]⟩, .slice none 0 0, .bool false] 39)
      have h2 : (w3.setCell ⟨pb, 0, none⟩ (.slice (some ⟨w3.heap.size, 0, none⟩) 1 1)).heap.size = w3.heap.size := by simp
      rw [h2] at h1
      exact h1
    · exact (HB3.out.setCell hge _).alloc (by have := HB3.out.size; simp; omega) _
  · have HALL : Hid (p.all = p.flush.list) := by
      rw [Hid]; unfold PS.all
      rw [if_neg (by rw [Bool.and_eq_true]; exact hc)]
    have hd : ((p.flush.list.length : Int) == 0) = false ∨ p.quotes = false := by
      by_cases h1 : p.flush.list = []
      · right
        cases hq : p.quotes with
        | false => rfl
        | true => exact absurd ⟨by rw [h1]; rfl, hq⟩ hc
      · left
        have : 0 < p.flush.list.length := List.length_pos_iff.2 h1
        simp; omega
    obtain ⟨fn, hfn⟩ : ∃ fn, p.flush.list.length = fn := ⟨_, rfl⟩
    obtain ⟨fq, hfq⟩ : ∃ fq, p.quotes = fq := ⟨_, rfl⟩
    obtain ⟨zb, hzb⟩ : ∃ zb, ((fn : Int) == 0) = zb := ⟨_, rfl⟩
    rw [hfn, hfq, hzb] at hd
    rw [hfq] at hqf
    have HFN := Lib.hid hfn
    clear hQ h hc hfn hfq
    cases zb <;> cases fq <;> simp at hd
    all_goals
      go_enter Try.func34, Try.ntmps34
      go_wp2_with (go_at_call 51; refine HF.out.mono ?_; rintro e w3 ⟨rfl, lv3, hP3, hb3, hs3⟩; have hge := hP3.ge; obtain ⟨bv, L, hb, hl, hby⟩ := hP3.ex; obtain ⟨la, lc, hlf⟩ := hl.wd.form; rw [HFN.out] at hlf; subst hlf; rw [hqf] at hb; have HB := Lib.hid hb; have HB3 := Lib.hid hb3; have HL := Lib.hid hl; have q0 : w3.cell? ⟨pb, 0, none⟩ = some (.slice la fn lc) := cell_of hb 0; have q3 := cell_of hb 3; simp only [List.getElem?_cons_zero, List.getElem?_cons_succ] at q3; have f0 := free_of hb 0; clear hP3 hb3 hs3 hb hl hby; simp only [])
      rw [← HQ.out, HALL.out]
      exact ⟨.slice la fn lc, rfl, HL.out.wd, HB3.out⟩
set_option maxRecDepth 100000 in
set_option maxHeartbeats 400000 in
/-- r.rest(). -/
theorem rest_any (rb : Nat) (s : ByteArray) (k : Nat) (w : World) (hb : w.heap[rb]? = some (.cells [.string s, .int .i64 k].toArray 53 (0, 0))) (hk : k ≤ s.size) (hs : s.size ≤ 20000) :
    Calls Try.prog 21 #[.pointer (some ⟨rb, 0, none⟩)] w fun e w' => e = .returned (.string (s.extract k s.size)) ∧ Below w.heap.size w w' := by
  have q0 : w.cell? ⟨rb, 0, none⟩ = some (.string s) := cell_of hb 0
  have q1 : w.cell? ⟨rb, 1, none⟩ = some (.int .i64 k) := cell_of hb 1
  have hkI : (k : Int) ≤ (s.size : Int) := by omega
  have hk0 : (0 : Int) ≤ (k : Int) := by omega
  clear hb
  go_enter Try.func21, Try.ntmps21
  go_wp2_with fail
  go_quiet (fail)
  go_wp2_with fail
  go_ret
  exact ⟨rfl, drew_below w nq⟩
end Go.Proofs.Ytafbheplaheohaa
