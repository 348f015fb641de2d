import Derived.Test.YtjagnihkpgbjeaaDoorGB
namespace Go.Proofs.YtjagnihkpgbjeaaDoor
open Go.RowKit Go.Maps Go.ChangeMaps
set_option linter.unusedVariables false
/-! Has, Old. -/
set_option maxRecDepth 100000 in
set_option maxHeartbeats 4000000 in
theorem Has_any (ms v : Value) (rs : List Rl) (nm t : ByteArray) (w : World) (hv : RsV w v rs) (hl : rs.length ≤ 1000) (b : Bool) (hb : hasF rs nm.data.toList t.data.toList = b) :
    Calls Tryd.prog 61 #[.agg #[ms, v], .string nm, .string t] w fun e w' => e = .returned (.bool b) ∧ Below w.heap.size w w' := by
  have HV := Lib.hid hv
  have hba := below_alloc w (.cells #[ms, v] 45)
  have HS := Lib.hid (Special_any ms v rs nm (w.alloc (.cells #[ms, v] 45)) (hv.below hba) hl)
  have hfl : (specialF rs nm.data.toList).length ≤ 4000000 ∨ True := .inr trivial
  unfold SpecialP at HS
  have HLS : Hid ((specialF rs nm.data.toList).length ≤ 100000000) := by
    have e1 := few_len (plainF rs nm.data.toList) (fun r hr => hv.few r (List.mem_filter.1 hr).1)
    have e2 := plain_len rs nm.data.toList
    unfold specialF
    exact Nat.le_trans e1 (by omega)
  obtain ⟨S, hS⟩ : ∃ S, specialF rs nm.data.toList = S := ⟨_, rfl⟩
  obtain ⟨kn, hkn⟩ : ∃ kn, knownF rs nm.data.toList = kn := ⟨_, rfl⟩
  have HK := Lib.hid (fun (w' : World) (hb : Below w.heap.size w w') => Known_any ms v rs nm w' (hv.below hb) hl kn hkn)
  obtain ⟨x, hx⟩ : ∃ x, S.contains t.data.toList = x := ⟨_, rfl⟩
  unfold hasF at hb
  rw [hS, hkn, hx] at hb
  rw [hS] at HS HLS
  have HC := Lib.hid (fun (w' : World) (v' : Value) (h : SlS w' v' S) => Contains_any v' S t w' h (by have := HLS.out; omega) x hx)
  obtain ⟨a, d, rfl⟩ := hv.len
  obtain ⟨m, hm⟩ : ∃ m, rs.length = m := ⟨_, rfl⟩
  rw [hm] at HS HK ⊢
  clear hv hl hS hkn hx HV HLS hfl hm
  cases x with
  | true =>
    obtain rfl : true = b := by simpa using hb
    clear hb
    go_enter Tryd.func61, Tryd.ntmps61
    go_wp2_with (first
      | (go_at_call 81; refine HS.out.mono ?_; rintro e w1 ⟨u, rfl, h1⟩; have H1 := Lib.hid h1; obtain ⟨p0, p1, p2⟩ := box2 h1.old; have HP2 := Lib.hid p2; clear p2; obtain ⟨ua, un, uc, rfl⟩ := sl_form h1.sls; clear h1; simp only [])
      | (go_at_call 78; refine (HC.out _ _ H1.out.sls).mono ?_; rintro e w2 ⟨rfl, h2⟩; obtain rfl := h2.symm; simp only []))
    go_ret
    exact ⟨rfl, HP2.out⟩
  | false =>
    by_cases hS0 : S = []
    · subst hS0
      obtain rfl : kn = b := by simpa using hb
      clear hb
      go_enter Tryd.func61, Tryd.ntmps61
      go_wp2_with (first
        | (go_at_call 81; refine HS.out.mono ?_; rintro e w1 ⟨u, rfl, h1⟩; have H1 := Lib.hid h1; obtain ⟨p0, p1, p2⟩ := box2 h1.old; have HP2 := Lib.hid p2; clear p2; obtain ⟨ua, uc, rfl⟩ := h1.sls.len; clear h1; simp only [List.length_nil])
        | (go_at_call 78; refine (HC.out _ _ H1.out.sls).mono ?_; rintro e w2 ⟨rfl, h2⟩; obtain rfl := h2.symm; simp only [])
        | (go_at_call 87; refine (HK.out _ HP2.out).mono ?_; rintro e w2 ⟨rfl, h2⟩; have H2 := Lib.hid h2; clear h2; simp only []))
      go_ret
      exact ⟨rfl, HP2.out.trans (H2.out.mono HP2.out.size)⟩
    · have hb' : false = b := by
        rw [← hb]
        cases S with
        | nil => exact absurd rfl hS0
        | cons a b => rfl
      subst hb'
      obtain ⟨sn, hsn⟩ : ∃ sn, S.length = sn := ⟨_, rfl⟩
      have hsn0 : sn ≠ 0 := by rw [← hsn]; intro e; exact hS0 (List.eq_nil_of_length_eq_zero e)
      have HSN := Lib.hid hsn
      clear hb hS0 hsn
      go_enter Tryd.func61, Tryd.ntmps61
      go_wp2_with (first
        | (go_at_call 81; refine HS.out.mono ?_; rintro e w1 ⟨u, rfl, h1⟩; have H1 := Lib.hid h1; obtain ⟨p0, p1, p2⟩ := box2 h1.old; have HP2 := Lib.hid p2; clear p2; obtain ⟨ua, uc, hu⟩ := h1.sls.len; rw [HSN.out] at hu; subst hu; clear h1; simp only [])
        | (go_at_call 78; refine (HC.out _ _ H1.out.sls).mono ?_; rintro e w2 ⟨rfl, h2⟩; obtain rfl := h2.symm; simp only []))
      go_ret
      exact ⟨rfl, HP2.out⟩
end Go.Proofs.YtjagnihkpgbjeaaDoor
