import Derived.Test.YtjagnihkpgbjeaaDoorVF
import Derived.Test.YtjagnihkpgbjeaaDoorT
namespace Go.Proofs.YtjagnihkpgbjeaaDoor
open Go.RowKit Go.Maps Go.ChangeMaps
set_option linter.unusedVariables false
def root1 : ByteArray := ⟨#[47]⟩
/-- The names of the place that a path leads to. -/
def findL (p : ByteArray) : Pth := parts root1 ⟨(abs_ root1 p).1.toArray⟩
/-- Why a path leads nowhere: 0 if it leads to a place. -/
def findE (T : Tr) (p : ByteArray) : Int := if (abs_ root1 p).2 = 0 then (wayE T [] (findL p) : Nat) else (abs_ root1 p).2
def FindP (f : Nat) (T : Tr) (A : Pth → Nat) (p : ByteArray) (w : World) (e : Ending) (w' : World) : Prop :=
  Below w.heap.size w w' ∧ ((findE T p ≠ 0 ∧ e = .returned (.tuple #[spot0, .int .i64 (findE T p)])) ∨
    (findE T p = 0 ∧ findL p = [] ∧ e = .returned (.tuple #[spotV (.pointer none) ⟨#[]⟩ (.pointer (some ⟨f, 0, none⟩)) (.slice none 0 0), .int .i64 0])) ∨
    (findE T p = 0 ∧ ∃ d k dn nv, findL p = d ++ [k] ∧ T d = some dn ∧ dn.file = false ∧ w'.ownsRow w.heap.size 9 1 nv (d ++ [k]).length ((d ++ [k]).map encStr) ∧
      e = .returned (.tuple #[spotV (.pointer (some ⟨A d, 0, none⟩)) ⟨k.toArray⟩ (ptrV (kidsOf T A d k)) nv, .int .i64 0])))
set_option maxRecDepth 100000 in
set_option maxHeartbeats 400000 in
theorem here_any (f : Nat) (w : World) : Calls Tryd.prog 39 #[.pointer (some ⟨f, 0, none⟩)] w fun e w' => e = .returned (.pointer (some ⟨f, 0, none⟩)) ∧ w' = w := by
  go_enter Tryd.func39, Tryd.ntmps39
  go_wp2_with fail
  go_ret
  exact ⟨rfl, rfl⟩
def boxL : List Value := [.pointer none, .string ⟨#[]⟩, .pointer none, .slice none 0 0]
theorem row_nil {w : World} {B : Nat} {v : Value} {xs : List Value} (h : w.ownsRow B 9 1 v ([] : Pth).length xs) : ∃ Ad c, v = .slice Ad 0 c := by
  rcases h.2 with ⟨rfl, _⟩ | ⟨g, cap, cur, rfl, _⟩
  · exact ⟨none, 0, rfl⟩
  · exact ⟨_, _, rfl⟩
theorem find_below1 {w w1 w3 : World} (h1 : Below (w.alloc (.cells #[.pointer none, .string ⟨#[]⟩, .pointer none, .slice none 0 0] 74)).heap.size (w.alloc (.cells #[.pointer none, .string ⟨#[]⟩, .pointer none, .slice none 0 0] 74)) w1) (h3 : Below w1.heap.size w1 w3) : Below w.heap.size w w3 := by
  have s1 := h1.size
  have hz : (w.alloc (.cells #[.pointer none, .string ⟨#[]⟩, .pointer none, .slice none 0 0] 74)).heap.size = w.heap.size + 1 := by simp
  rw [hz] at s1
  exact (((Below.refl _ w).alloc (Nat.le_refl _) _).trans (h1.mono (by omega))).trans (h3.mono (by omega))
theorem row_strs {w : World} {B lg : Nat} {v : Value} {L : Pth} (hlg : L.length = lg) (h : w.ownsRow B 9 1 v lg (L.map encStr)) (h0 : 0 < lg) : ∃ g c, v = .slice (some ⟨g, 0, none⟩) lg c ∧ lg ≤ c ∧ ∀ i (hi : i < L.length), w.cell? ⟨g, i, none⟩ = some (.string ⟨L[i].toArray⟩) := by
  obtain ⟨g, c, rfl, _, _⟩ := h.form h0
  refine ⟨g, c, rfl, ?_, fun i hi => ?_⟩
  · rcases h.2 with ⟨e, _⟩ | ⟨g', c', cur, e, _, _, h1, _⟩
    · cases e
    · cases e; exact h1
  · rw [World.ownsRow.cellAt h i (by omega)]
    rw [List.getElem?_map, List.getElem?_eq_getElem hi]
    rfl
theorem row_names {w w1 w3 w5 : World} {g c lg : Nat} {xs : List Value} (h : w3.ownsRow w1.heap.size 9 1 (.slice (some ⟨g, 0, none⟩) lg c) lg xs) (h1 : Below (w.alloc (.cells #[.pointer none, .string ⟨#[]⟩, .pointer none, .slice none 0 0] 74)).heap.size (w.alloc (.cells #[.pointer none, .string ⟨#[]⟩, .pointer none, .slice none 0 0] 74)) w1) (h3 : Below w1.heap.size w1 w3) (h5 : Below w3.heap.size w3 w5) {v0 v1 v2 v3 : Value} :
    ((((w5.setCell ⟨w.heap.size, 0, none⟩ v0).setCell ⟨w.heap.size, 1, none⟩ v1).setCell ⟨w.heap.size, 2, none⟩ v2).setCell ⟨w.heap.size, 3, none⟩ v3).ownsRow w.heap.size 9 1 (.slice (some ⟨g, 0, none⟩) lg c) lg xs := by
  have s1 := h1.size
  have hz : (w.alloc (.cells #[.pointer none, .string ⟨#[]⟩, .pointer none, .slice none 0 0] 74)).heap.size = w.heap.size + 1 := by simp
  rw [hz] at s1
  refine ⟨h.1, ?_⟩
  rcases h.2 with ⟨e, _⟩ | ⟨g', c', cur, e, hb, h2, r⟩
  · cases e
  · cases e
    refine .inr ⟨g, c, cur, rfl, by omega, ?_, r⟩
    have hne : g ≠ w.heap.size := by omega
    rw [Below.heap_setCell _ _ _ _ hne, Below.heap_setCell _ _ _ _ hne, Below.heap_setCell _ _ _ _ hne, Below.heap_setCell _ _ _ _ hne, h5.block _ (Array.getElem?_eq_some_iff.1 h2).1]
    exact h2
theorem walk_good (f g c : Nat) (d : Pth) (k : Bz) (w : World) {B N : Nat} {tl : List Value} {T : Tr} {A : Pth → Nat} {M : Pth → Option Nat} {V : Pth → Value} (hT : TreeAt w B N f 71 tl T A M V) {r0 : Nd} (h0 : T [] = some r0) (hr0 : r0.file = false)
    {lg : Nat} (hlg : (d ++ [k]).length = lg) (hL2 : (d ++ [k]).length ≤ 1000000) (hc : lg ≤ c) (hS : ∀ i (h : i < (d ++ [k]).length), w.cell? ⟨g, i, none⟩ = some (.string ⟨(d ++ [k])[i].toArray⟩)) (hs : ∀ x ∈ d ++ [k], x.length ≤ maxLen) (hE : wayE T [] (d ++ [k]) = 0) :
    Calls Tryd.prog 65 #[.pointer (some ⟨f, 0, none⟩), .slice (some ⟨g, 0, none⟩) lg c] w fun e w' => (∃ dn, T d = some dn ∧ dn.file = false) ∧
      e = .returned (.tuple #[spotV (.pointer (some ⟨A d, 0, none⟩)) ⟨k.toArray⟩ (ptrV (kidsOf T A d k)) (.slice (some ⟨g, 0, none⟩) lg c), .int .i64 0]) ∧ Below w.heap.size w w' := by
  subst hlg
  refine (walk_any f g c 0 0 (d ++ [k]) w hT h0 hr0 (by simp) hL2 hc hS hs).mono ?_
  rintro e w' ⟨h1, ⟨h2, _⟩ | ⟨_, d', k', dn, h3, h4, h5, h6⟩⟩
  · exact absurd hE h2
  · obtain ⟨e1, e2⟩ := List.append_inj' h3 rfl
    have e2 : k = k' := by simpa using e2
    subst e1; subst e2
    exact ⟨⟨dn, h4, h5⟩, h6, h1⟩
theorem walk_bad (f g c : Nat) (d : Pth) (k : Bz) (w : World) {B N : Nat} {tl : List Value} {T : Tr} {A : Pth → Nat} {M : Pth → Option Nat} {V : Pth → Value} (hT : TreeAt w B N f 71 tl T A M V) {r0 : Nd} (h0 : T [] = some r0) (hr0 : r0.file = false)
    {lg : Nat} (hlg : (d ++ [k]).length = lg) (hL2 : (d ++ [k]).length ≤ 1000000) (hc : lg ≤ c) (hS : ∀ i (h : i < (d ++ [k]).length), w.cell? ⟨g, i, none⟩ = some (.string ⟨(d ++ [k])[i].toArray⟩)) (hs : ∀ x ∈ d ++ [k], x.length ≤ maxLen) (hE : ¬ wayE T [] (d ++ [k]) = 0) :
    Calls Tryd.prog 65 #[.pointer (some ⟨f, 0, none⟩), .slice (some ⟨g, 0, none⟩) lg c] w fun e w' => e = .returned (.tuple #[spot0, .int .i64 (wayE T [] (d ++ [k]))]) ∧ Below w.heap.size w w' := by
  subst hlg
  refine (walk_any f g c 0 0 (d ++ [k]) w hT h0 hr0 (by simp) hL2 hc hS hs).mono ?_
  rintro e w' ⟨h1, ⟨_, h2⟩ | ⟨h2, _⟩⟩
  · exact ⟨h2, h1⟩
  · exact absurd h2 hE
theorem box_facts {w : World} {a : Nat} {v0 v1 v2 v3 : Value} (hb : w.heap[a]? = some (.cells [v0, v1, v2, v3].toArray 74 (0, 0))) :
    w.cell? ⟨a, 0, none⟩ = some v0 ∧ w.cell? ⟨a, 1, none⟩ = some v1 ∧ w.cell? ⟨a, 2, none⟩ = some v2 ∧ w.cell? ⟨a, 3, none⟩ = some v3 ∧ w.frozen? ⟨a, 0, none⟩ = false ∧ w.frozen? ⟨a, 1, none⟩ = false ∧ w.frozen? ⟨a, 2, none⟩ = false ∧ w.frozen? ⟨a, 3, none⟩ = false :=
  ⟨cell_of hb 0, cell_of hb 1, cell_of hb 2, cell_of hb 3, free_of hb 0, free_of hb 1, free_of hb 2, free_of hb 3⟩
theorem find_below {w w1 w3 w5 : World} (h1 : Below (w.alloc (.cells #[.pointer none, .string ⟨#[]⟩, .pointer none, .slice none 0 0] 74)).heap.size (w.alloc (.cells #[.pointer none, .string ⟨#[]⟩, .pointer none, .slice none 0 0] 74)) w1) (h3 : Below w1.heap.size w1 w3) (h5 : Below w3.heap.size w3 w5) :
    Below w.heap.size w w5 ∧ w5.heap[w.heap.size]? = some (.cells [.pointer none, .string ⟨#[]⟩, .pointer none, .slice none 0 0].toArray 74 (0, 0)) := by
  have s1 := h1.size
  have s3 := h3.size
  have hz : (w.alloc (.cells #[.pointer none, .string ⟨#[]⟩, .pointer none, .slice none 0 0] 74)).heap.size = w.heap.size + 1 := by simp
  rw [hz] at s1
  constructor
  · exact ((((Below.refl _ w).alloc (Nat.le_refl _) _).trans (h1.mono (by omega))).trans (h3.mono (by omega))).trans (h5.mono (by omega))
  · rw [h5.block _ (by omega), h3.block _ (by omega), h1.block _ (by omega)]
    exact heap_alloc_new w _
set_option maxRecDepth 100000 in
set_option maxHeartbeats 4000000 in
theorem find_any (f : Nat) (p : ByteArray) (w : World) {B N : Nat} {tl : List Value} {T : Tr} {A : Pth → Nat} {M : Pth → Option Nat} {V : Pth → Value} (hT : TreeAt w B N f 71 tl T A M V) {r0 : Nd} (h0 : T [] = some r0) (hr0 : r0.file = false) (hp : p.size ≤ 30000)
    (hlen : (abs_ root1 p).1.length ≤ 40000) (hpl : (findL p).length ≤ 1000000 ∧ ∀ x ∈ findL p, x.length ≤ maxLen) :
    Calls Tryd.prog 38 #[.pointer (some ⟨f, 0, none⟩), .string p] w (FindP f T A p w) := by
  obtain ⟨rs, rn, hr⟩ : ∃ rs rn, abs_ root1 p = (rs, rn) := ⟨_, _, rfl⟩
  have HABS := Lib.hid (fun w => Abs_any root1 p w (by decide) (by omega) rs rn hr)
  have HHE := Lib.hid (fun w => here_any f w)
  have HT := Lib.hid hT
  have HR := Lib.hid hr
  obtain ⟨Q, hQ⟩ : ∃ Q, FindP f T A p w = Q := ⟨_, rfl⟩
  rw [hQ]
  have HQ := Lib.hid hQ
  have hlen' : rs.length ≤ 40000 := by rw [hr] at hlen; exact hlen
  have HPL := Lib.hid hpl
  have HL : Hid (findL p = parts root1 ⟨rs.toArray⟩) := by rw [Hid, findL, hr]
  by_cases hn : rn = 0
  · subst hn
    have HPA := Lib.hid (fun w => Parts_any root1 ⟨rs.toArray⟩ w (by decide) (by simpa [ByteArray.size] using hlen'))
    have HF : Hid (findE T p = (wayE T [] (findL p) : Nat)) := by rw [Hid, findE, hr]; rfl
    obtain ⟨L, hL⟩ : ∃ L, findL p = L := ⟨_, rfl⟩
    rw [← HL.out, hL] at HPA
    rw [hL] at HF HPL
    have HLL := Lib.hid hL
    have hrt : root1 = ⟨#[47]⟩ := rfl
    rw [hrt] at HABS HPA
    clear hT hr hQ hL hlen hpl HL HR hrt hlen'
    cases L with
    | nil =>
      have HWR := Lib.hid (fun (Ad : Option Addr) (c : Nat) (w : World) => walk_root f Ad c w)
      go_enter Tryd.func38, Tryd.ntmps38
      go_wp2_with (first
        | (go_at_call 64; refine (HABS.out _).mono ?_; rintro e w1 ⟨rfl, h1⟩; have H1 := Lib.hid h1; clear h1; simp only [])
        | (go_at_call 39; refine (HHE.out _).mono ?_; rintro e w2 ⟨rfl, h2⟩; obtain rfl := h2.symm; simp only [])
        | (go_at_call 66; refine (HPA.out _).mono ?_; rintro e w3 ⟨v3, rfl, h3, h3b⟩; obtain ⟨Ad, c, rfl⟩ := row_nil h3; have H3 := Lib.hid h3b; clear h3 h3b; simp only [])
        | (go_at_call 65; refine (HWR.out _ _ _).mono ?_; rintro e w5 ⟨rfl, h5⟩; have H5 := Lib.hid h5; have HC := Lib.hid (find_below H1.out H3.out h5); clear h5; obtain ⟨q0, q1, q2, q3, u0, u1, u2, u3⟩ := box_facts HC.out.2; simp only [spotV]))
      refine bodyPost_ret (v := .tuple #[spotV (.pointer none) ⟨#[]⟩ (.pointer (some ⟨f, 0, none⟩)) (.slice none 0 0), .int .i64 0]) ?_ rfl ?_
      · simp [results, Tryd.results38, go_sem, q0, q1, q2, q3]
        rfl
      · rw [← HQ.out]
        exact ⟨below4 HC.out.1 _ _ _ _, .inr (.inl ⟨HF.out.trans rfl, HLL.out, rfl⟩)⟩
    | cons k0 r =>
      have hk0 : (k0 :: r) ≠ [] := by simp
      obtain ⟨d, k, hdk⟩ : ∃ d k, k0 :: r = d ++ [k] := ⟨_, _, (List.dropLast_concat_getLast hk0).symm⟩
      rw [hdk] at HF HPA HPL HLL
      obtain ⟨lg, hlg⟩ : ∃ lg, (d ++ [k]).length = lg := ⟨_, rfl⟩
      have HLG := Lib.hid hlg
      have hlg0 : 0 < lg := by rw [← hlg]; simp
      rw [hlg] at HPA
      by_cases hE : wayE T [] (d ++ [k]) = 0
      · have HWR := Lib.hid (fun (g c : Nat) (w : World) (hT : TreeAt w B N f 71 tl T A M V) hc hS => walk_good f g c d k w hT h0 hr0 HLG.out HPL.out.1 hc hS HPL.out.2 hE)
        obtain ⟨kv, hkv⟩ : ∃ kv, ptrV (kidsOf T A d k) = .pointer kv := by cases kidsOf T A d k <;> exact ⟨_, rfl⟩
        have HKV := Lib.hid hkv
        rw [hkv] at HWR
        have HE := Lib.hid hE
        clear hkv hE hdk hk0 hlg
        go_enter Tryd.func38, Tryd.ntmps38
        go_wp2_with (first
          | (go_at_call 64; refine (HABS.out _).mono ?_; rintro e w1 ⟨rfl, h1⟩; have H1 := Lib.hid h1; clear h1; simp only [])
          | (go_at_call 39; refine (HHE.out _).mono ?_; rintro e w2 ⟨rfl, h2⟩; obtain rfl := h2.symm; simp only [])
          | (go_at_call 66; refine (HPA.out _).mono ?_; rintro e w3 ⟨v3, rfl, h3, h3b⟩; obtain ⟨g, c, rfl, hcc, hS⟩ := row_strs HLG.out h3 hlg0; have H3 := Lib.hid h3b; have HROW := Lib.hid h3; have HS := Lib.hid hS; clear h3 h3b hS; simp only [])
          | (go_at_call 65; refine (HWR.out _ _ _ (HT.out.only (X := fun _ => False) (Only.of_below (find_below1 H1.out H3.out)) (fun _ h => h.elim)) hcc HS.out).mono ?_; rintro e w5 ⟨⟨dn, hdn⟩, rfl, h5⟩; have H5 := Lib.hid h5; have HDN := Lib.hid hdn; have HC := Lib.hid (find_below H1.out H3.out h5); clear h5 hdn; obtain ⟨q0, q1, q2, q3, u0, u1, u2, u3⟩ := box_facts HC.out.2; simp only [spotV]))
        refine bodyPost_ret (v := .tuple #[spotV (.pointer (some ⟨A d, 0, none⟩)) ⟨k.toArray⟩ (.pointer kv) (.slice (some ⟨g, 0, none⟩) lg c), .int .i64 0]) ?_ rfl ?_
        · simp [results, Tryd.results38, go_sem, q0, q1, q2, q3]
          rfl
        · rw [← HQ.out]
          refine ⟨below4 HC.out.1 _ _ _ _, .inr (.inr ⟨HF.out.trans (by rw [HE.out]; rfl), d, k, dn, .slice (some ⟨g, 0, none⟩) lg c, HLL.out, HDN.out.1, HDN.out.2, ?_, ?_⟩)⟩
          · rw [HLG.out]
            exact row_names HROW.out H1.out H3.out H5.out
          · rw [HKV.out]
      · have HWR := Lib.hid (fun (g c : Nat) (w : World) (hT : TreeAt w B N f 71 tl T A M V) hc hS => walk_bad f g c d k w hT h0 hr0 HLG.out HPL.out.1 hc hS HPL.out.2 hE)
        have HE := Lib.hid hE
        obtain ⟨we, hwe⟩ : ∃ we, wayE T [] (d ++ [k]) = we := ⟨_, rfl⟩
        rw [hwe] at HWR HF HE
        clear hE hdk hk0 hlg hwe
        go_enter Tryd.func38, Tryd.ntmps38
        go_wp2_with (first
          | (go_at_call 64; refine (HABS.out _).mono ?_; rintro e w1 ⟨rfl, h1⟩; have H1 := Lib.hid h1; clear h1; simp only [])
          | (go_at_call 39; refine (HHE.out _).mono ?_; rintro e w2 ⟨rfl, h2⟩; obtain rfl := h2.symm; simp only [])
          | (go_at_call 66; refine (HPA.out _).mono ?_; rintro e w3 ⟨v3, rfl, h3, h3b⟩; obtain ⟨g, c, rfl, hcc, hS⟩ := row_strs HLG.out h3 hlg0; have H3 := Lib.hid h3b; have HROW := Lib.hid h3; have HS := Lib.hid hS; clear h3 h3b hS; simp only [])
          | (go_at_call 65; refine (HWR.out _ _ _ (HT.out.only (X := fun _ => False) (Only.of_below (find_below1 H1.out H3.out)) (fun _ h => h.elim)) hcc HS.out).mono ?_; rintro e w5 ⟨rfl, h5⟩; have H5 := Lib.hid h5; have HC := Lib.hid (find_below H1.out H3.out h5); clear h5; obtain ⟨q0, q1, q2, q3, u0, u1, u2, u3⟩ := box_facts HC.out.2; simp only [spotV, spot0]))
        refine bodyPost_ret (v := .tuple #[spot0, .int .i64 we]) ?_ rfl ?_
        · simp [results, Tryd.results38, go_sem, q0, q1, q2, q3]
          rfl
        · rw [← HQ.out]
          exact ⟨below4 HC.out.1 _ _ _ _, .inl ⟨by rw [HF.out]; exact fun e => HE.out (by omega), by rw [HF.out]⟩⟩
  · have hne : (rn != 0) = true := by simpa using hn
    have HF : Hid (findE T p = rn) := by rw [Hid, findE, hr]; exact if_neg hn
    have HN := Lib.hid hn
    have hrt : root1 = ⟨#[47]⟩ := rfl
    rw [hrt] at HABS
    clear hT hr hQ hlen hpl HL HR hrt hlen' hn
    go_enter Tryd.func38, Tryd.ntmps38
    go_wp2_with (go_at_call 64; refine (HABS.out _).mono ?_; rintro e w1 ⟨rfl, h1⟩; have H1 := Lib.hid h1; have HC := Lib.hid (find_below H1.out (Below.refl _ _) (Below.refl _ _)); clear h1; obtain ⟨q0, q1, q2, q3, u0, u1, u2, u3⟩ := box_facts HC.out.2; simp only [])
    refine bodyPost_ret (v := .tuple #[spot0, .int .i64 rn]) ?_ rfl ?_
    · simp [results, Tryd.results38, go_sem, q0, q1, q2, q3]
      rfl
    · rw [← HQ.out]
      exact ⟨below4 HC.out.1 _ _ _ _, .inl ⟨by rw [HF.out]; exact HN.out, by rw [HF.out]⟩⟩
end Go.Proofs.YtjagnihkpgbjeaaDoor
