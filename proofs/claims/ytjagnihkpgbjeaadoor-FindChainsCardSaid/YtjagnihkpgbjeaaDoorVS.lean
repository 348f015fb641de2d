import Derived.Test.YtjagnihkpgbjeaaDoorVL
import Derived.Test.YtjagnihkpgbjeaaDoorPA
namespace Go.Proofs.YtjagnihkpgbjeaaDoor
open Go.RowKit Go.Maps Go.ChangeMaps
set_option linter.unusedVariables false
theorem root_no : ¬ (0 ≤ at_ root1 0 (root1.size + 1) 0) := by decide
theorem path_of {p : ByteArray} {L : Pth} (h : parts root1 p = L) (hG : Good L) (hs : ∀ x ∈ L, x.length ≤ 60) (hf : L.length ≤ 20) (hw : (written L).length ≤ 200) (hp0 : p.size ≠ 0) (hps : p.size ≤ 30000) (hz : ∀ c ∈ p.data.toList, c ≠ 0) :
    findL p = L ∧ (∀ T, findE T p = (wayE T [] L : Nat)) ∧ PathOk p := by
  have ha : abs_ root1 p = (written L, 0) := by
    unfold abs_
    rw [if_neg, h, if_neg, if_neg]
    · omega
    · rintro ⟨x, hx, g⟩; have := hs x hx; omega
    · rintro (g | g | g)
      · exact hp0 g
      · exact hz 0 ((at_mem p 0).1 g) rfl
      · exact root_no g
  have hL : findL p = L := by
    unfold findL
    rw [ha]
    show parts root1 ⟨(written L).toArray⟩ = L
    rw [parts_eq]
    have : (⟨(written L).toArray⟩ : ByteArray).data.toList = written L := by simp
    rw [this]
    exact partsL_written _ hG
  refine ⟨hL, fun T => ?_, hps, by rw [ha]; show (written L).length ≤ 40000; omega, by rw [hL]; omega, fun x hx => ?_⟩
  · unfold findE
    rw [ha, hL]; rfl
  · rw [hL] at hx
    have := hs x hx
    unfold maxLen; omega
/-- A name that a directory may hold. -/
structure Nm (s : Bz) : Prop where
  ne : s ≠ []
  dot : s ≠ [46]
  dots : s ≠ [46, 46]
  no : ∀ c ∈ s, c ≠ 47
  nul : ∀ c ∈ s, c ≠ 0
  le : s.length ≤ 60
theorem push_nm {s : Bz} (h : Nm s) (l : List Bs) : push l s = l ++ [s] := by
  unfold push
  rw [if_neg (by rintro (e | e); exact h.ne e; exact h.dot e), if_neg h.dots]
theorem parts_of (p : ByteArray) : parts root1 p = (sp p.data.toList).foldl push [] := by
  unfold parts
  by_cases h : 0 < p.size ∧ gb p 0 = 47
  · rw [if_pos h]
  · rw [if_neg h]; rfl
theorem nm_parts {s : ByteArray} (h : Nm s.data.toList) : parts root1 (⟨#[47, 100, 47]⟩ ++ s) = [[100], s.data.toList] ∧ parts root1 (⟨#[100, 47]⟩ ++ s) = [[100], s.data.toList] := by
  have e1 : ((⟨#[47, 100, 47]⟩ : ByteArray) ++ s).data.toList = [] ++ 47 :: ([100] ++ 47 :: s.data.toList) := by simp
  have e2 : ((⟨#[100, 47]⟩ : ByteArray) ++ s).data.toList = [100] ++ 47 :: s.data.toList := by simp
  have hn : ∀ c ∈ ([100] : Bz), c ≠ 47 := by decide
  have hd : push ([] : List Bs) [100] = [[100]] := by decide
  constructor
  · rw [parts_of, e1, sp_cut [] _ (by simp), sp_cut [100] _ hn, sp_all _ h.no]
    show List.foldl push (push (push (push [] []) [100]) s.data.toList) [] = _
    rw [show push ([] : List Bs) [] = [] from rfl, hd, push_nm h]; rfl
  · rw [parts_of, e2, sp_cut [100] _ hn, sp_all _ h.no]
    show List.foldl push (push (push [] [100]) s.data.toList) [] = _
    rw [hd, push_nm h]; rfl
theorem nm_good {s : Bz} (h : Nm s) : Good [[100], s] := by
  intro x hx
  simp at hx
  rcases hx with rfl | rfl
  · decide
  · exact ⟨h.ne, h.dot, h.dots, h.no⟩
theorem nm_path {s : ByteArray} (h : Nm s.data.toList) (p : ByteArray) (hp : p = ⟨#[47, 100, 47]⟩ ++ s ∨ p = ⟨#[100, 47]⟩ ++ s) : findL p = [[100], s.data.toList] ∧ (∀ T, findE T p = (wayE T [] [[100], s.data.toList] : Nat)) ∧ PathOk p := by
  have hl : s.data.toList.length = s.size := Array.length_toList
  have hle := h.le
  have hsz : p.size = p.data.toList.length := Array.length_toList.symm
  have hdl : p.data.toList = 47 :: 100 :: 47 :: s.data.toList ∨ p.data.toList = 100 :: 47 :: s.data.toList := by
    rcases hp with rfl | rfl
    · exact .inl (by simp)
    · exact .inr (by simp)
  have hw : (written [[100], s.data.toList]).length ≤ 200 := by simp [written, joined]; omega
  refine path_of ?_ (nm_good h) (fun x hx => ?_) (by simp) hw ?_ ?_ ?_
  · rcases hp with rfl | rfl
    · exact (nm_parts h).1
    · exact (nm_parts h).2
  · simp at hx
    rcases hx with rfl | rfl
    · simp
    · exact hle
  · rw [hsz]; rcases hdl with e | e <;> rw [e] <;> simp
  · rw [hsz]; rcases hdl with e | e <;> rw [e] <;> simp only [List.length_cons] <;> omega
  · intro c hc
    rcases hdl with e | e
    · rw [e] at hc
      simp at hc
      rcases hc with rfl | rfl | rfl | hc
      · decide
      · decide
      · decide
      · exact h.nul c (by simpa using hc)
    · rw [e] at hc
      simp at hc
      rcases hc with rfl | rfl | hc
      · decide
      · decide
      · exact h.nul c (by simpa using hc)
theorem path_d : findL ⟨#[47, 100]⟩ = [[100]] ∧ (∀ T, findE T ⟨#[47, 100]⟩ = (wayE T [] [[100]] : Nat)) ∧ PathOk ⟨#[47, 100]⟩ :=
  path_of (by decide) (by unfold Good; decide) (by decide) (by decide) (by decide) (by decide) (by decide) (by decide)
theorem path_x : findL ⟨#[47, 120]⟩ = [[120]] ∧ (∀ T, findE T ⟨#[47, 120]⟩ = (wayE T [] [[120]] : Nat)) ∧ PathOk ⟨#[47, 120]⟩ :=
  path_of (by decide) (by unfold Good; decide) (by decide) (by decide) (by decide) (by decide) (by decide) (by decide)
theorem path_a : findL ⟨#[47, 97]⟩ = [[97]] ∧ (∀ T, findE T ⟨#[47, 97]⟩ = (wayE T [] [[97]] : Nat)) ∧ PathOk ⟨#[47, 97]⟩ :=
  path_of (by decide) (by unfold Good; decide) (by decide) (by decide) (by decide) (by decide) (by decide) (by decide)
end Go.Proofs.YtjagnihkpgbjeaaDoor
