import Derived.Test.YtjagnihkpgbjeaaDoorHE
import Derived.Test.YtjagnihkpgbjeaaDoorGI
namespace Go.Proofs.YtjagnihkpgbjeaaDoor
open Go.RowKit Go.Maps Go.ChangeMaps
set_option linter.unusedVariables false
theorem szset (w : World) (a : Addr) (u : Value) : (w.setCell a u).heap.size = w.heap.size := by simp
def namesB : List Bs := [[46, 80, 72, 79, 78, 89], [37, 46, 111], [46, 99, 46, 111], [97], [46, 47, 98], [46, 120, 47, 121]]
def goodB (s : Bs) : Bool := s == [97] || s == [46, 47, 98] || s == [46, 120, 47, 121]
def ruleT (s : Bs) : List Bs := if s = [37, 46, 111] then [s] else [s, [122]]
def mkR (ts : List Bs) : Rl := ⟨ts, [], []⟩
theorem goal_names : ∀ (S : List Bs), (∀ s ∈ S, s ∈ namesB) → goalF ((S.map ruleT).map mkR) = S.find? goodB
  | [], _ => rfl
  | s :: S, h => by
    have ih := goal_names S (fun x hx => h x (List.mem_cons_of_mem _ hx))
    have hs := h s List.mem_cons_self
    have hc : s = [46, 80, 72, 79, 78, 89] ∨ s = [37, 46, 111] ∨ s = [46, 99, 46, 111] ∨ s = [97] ∨ s = [46, 47, 98] ∨ s = [46, 120, 47, 121] := by simpa [namesB] using hs
    rcases hc with rfl | rfl | rfl | rfl | rfl | rfl
    · rw [List.find?_cons_of_neg (by decide), ← ih]; rfl
    · rw [List.find?_cons_of_neg (by decide), ← ih]; rfl
    · rw [List.find?_cons_of_neg (by decide), ← ih]; rfl
    · rw [List.find?_cons_of_pos (by decide)]; rfl
    · rw [List.find?_cons_of_pos (by decide)]; rfl
    · rw [List.find?_cons_of_pos (by decide)]; rfl
theorem find_snoc (S : List Bs) (s : Bs) : (S ++ [s]).find? goodB = match S.find? goodB with | some t => some t | none => if goodB s then some s else none := by
  rw [List.find?_append]
  cases S.find? goodB with
  | some t => rfl
  | none => simp [List.find?_cons]; cases goodB s <;> rfl
theorem find_ne {S : List Bs} {t : Bs} (h : S.find? goodB = some t) : t ≠ [] := by
  have := List.find?_some h
  intro e
  rw [e] at this
  exact absurd this (by decide)
theorem Gq.pushm {w0 w : World} {b4 : Nat} {v : Value} {L : List (List Bs)} (h : Gq w0 w b4 v L) (m : Nat) (hm : L.length = m) (hl : m ≤ 1000) (ts : List Bs) (ht : ts.length ≤ 1000) (arr : Array Value) (harr : arr = (ts.map encStr).toArray) (n : Nat) (hn : ts.length = n) :
    ∃ v' w3, (Builtin.append_ #[43, 43] 43 #[v, .slice (some ⟨w.heap.size + 1, 0, none⟩) 1 1]).run Tryd.prog ((w.alloc (.cells arr 9)).alloc (.cells #[.slice (some ⟨w.heap.size, 0, none⟩) n n, .slice none 0 0, .slice none 0 0] 48)) = .ok v' w3 ∧
      w3.cell? ⟨b4, 1, none⟩ = some v ∧ w3.frozen? ⟨b4, 1, none⟩ = false ∧ (∃ g c, v' = .slice (some ⟨g, 0, none⟩) (m + 1) c) ∧ Gq w0 (w3.setCell ⟨b4, 1, none⟩ v') b4 v' (L ++ [ts]) := by
  subst hm
  obtain ⟨v', w3, h1, h2, h3, h4⟩ := h.push hl ts ht arr harr n hn
  obtain ⟨cs, hcl, how, _⟩ := h4.own
  obtain ⟨g, c, e, _⟩ := how.form (by simp)
  obtain ⟨a, c2, e2⟩ := h3
  refine ⟨v', w3, h1, cell_of h2 1, free_of h2 1, ⟨g, c, ?_⟩, h4⟩
  rw [e]; simp
theorem Gq.fixm {w0 w : World} {b4 g cap : Nat} {L : List (List Bs)} {ts : List Bs} (m : Nat) (hm : L.length = m) (h : Gq w0 w b4 (.slice (some ⟨g, 0, none⟩) (m + 1) cap) (L ++ [ts])) (us : List Bs) (hu : us.length ≤ 1000) (arr : Array Value) (harr : arr = (us.map encStr).toArray) (n : Nat) (hn : us.length = n) :
    (∃ x, (w.alloc (.cells arr 9)).cell? ⟨g, m * 3, none⟩ = some x) ∧ (w.alloc (.cells arr 9)).frozen? ⟨g, m * 3, none⟩ = false ∧
    Gq w0 ((w.alloc (.cells arr 9)).setCell ⟨g, m * 3, none⟩ (.slice (some ⟨w.heap.size, 0, none⟩) n n)) b4 (.slice (some ⟨g, 0, none⟩) (m + 1) cap) (L ++ [us]) := by
  subst hm
  exact h.fix us hu arr harr n hn
/-- The loop's state. -/
structure Lg (w0 wr : World) (b4 : Nat) (v : Value) (S : List Bs) : Prop where
  gq : Gq w0 wr b4 v (S.map ruleT)
  nm : ∀ s ∈ S, s ∈ namesB
set_option maxRecDepth 100000 in
set_option maxHeartbeats 16000000 in
theorem goal_walk (A : Option Addr) (n c : Nat) (zs : Nat → Int) (W : World) (hn : n ≤ maxLen) (hI : Ints W A n zs) (hz : ∀ k : Nat, -9223372036854775808 ≤ (zs k : Int) ∧ zs k ≤ 9223372036854775807) :
    Calls Tryd.prog 9 #[.slice A n c] W fun e w' => e = .returned (.bool true) ∧ Below W.heap.size W w' := by
  have HAL := Lib.hid (alive29 W)
  have HI := Lib.hid hI
  unfold maxLen at hn
  clear hI hz
  by_cases h12 : 12 < n
  · have h12I : (12 : Int) < (n : Int) := by omega
    go_enter Tryd.func9, Tryd.ntmps9
    go_wp2_with (go_at_call 29; refine HAL.out.mono ?_; rintro e w1 ⟨rfl, h0⟩; have H0 := Lib.hid h0; clear h0; simp only [])
    go_ret
    exact ⟨rfl, H0.out⟩
  have h12I : ¬ (12 : Int) < (n : Int) := by omega
  go_enter Tryd.func9, Tryd.ntmps9
  go_wp2_with (go_at_call 29; refine HAL.out.mono ?_; rintro e w1 ⟨rfl, h0⟩; have H0 := Lib.hid h0; clear h0; simp only [])
  obtain ⟨w0, hw0⟩ : ∃ w0, (w1.alloc (.cells #[.slice none 0 0, .slice none 0 0] 45)).alloc (.cells #[.string ⟨#[46, 80, 72, 79, 78, 89]⟩, .string ⟨#[37, 46, 111]⟩, .string ⟨#[46, 99, 46, 111]⟩, .string ⟨#[97]⟩, .string ⟨#[46, 47, 98]⟩, .string ⟨#[46, 120, 47, 121]⟩] 9) = w0 := ⟨_, rfl⟩
  have hs0 : w0.heap.size = w1.heap.size + 1 + 1 := by rw [← hw0, size_alloc, size_alloc]
  have hb0 : Below w1.heap.size w1 w0 := hw0 ▸ below_trans (below_alloc _ _) (below_alloc _ _)
  have hz4 : w0.heap[w1.heap.size]? = some (.cells [.slice none 0 0, .slice none 0 0].toArray 45 (0, 0)) := by
    rw [← hw0, Below.heap_alloc _ _ _ (by rw [size_alloc]; omega)]; exact heap_alloc_new _ _
  have hz5 : w0.heap[w1.heap.size + 1]? = some (.cells [.string ⟨#[46, 80, 72, 79, 78, 89]⟩, .string ⟨#[37, 46, 111]⟩, .string ⟨#[46, 99, 46, 111]⟩, .string ⟨#[97]⟩, .string ⟨#[46, 47, 98]⟩, .string ⟨#[46, 120, 47, 121]⟩].toArray 9 (0, 0)) := by
    rw [← hw0, ← size_alloc w1 (.cells #[.slice none 0 0, .slice none 0 0] 45)]; exact heap_alloc_new _ _
  have HST : Hid (Lg w0 w0 w1.heap.size (.slice none 0 0) []) := ⟨⟨hz4, ⟨[], rfl, World.ownsRow_nil _ _ _ _, fun i h => absurd h (by simp)⟩, Only.refl _ _, by omega⟩, fun s h => absurd h (by simp)⟩
  have HZ5 := Lib.hid hz5
  have HB0 := Lib.hid hb0
  have HS0 := Lib.hid hs0
  rw [hw0]
  clear hz4 hz5 hb0 hs0 hw0
  obtain ⟨b4, hb4⟩ : ∃ b4, w1.heap.size = b4 := ⟨_, rfl⟩
  have HB4 := Lib.hid hb4
  rw [hb4] at HST HZ5 HS0
  simp only [hb4]
  clear hb4
  go_loopw [6, 7] (fun v6 i wr => ∃ (k : Nat) (S : List Bs), k ≤ n ∧ S.length = k ∧ i = .int .i64 k ∧ v6 = .string (nameB ((S.find? goodB).getD [])) ∧ Hid (∃ v, Lg w0 wr b4 v S)) (fun _ i _ => n - (intOf i).toNat)
  case atStart => exact ⟨0, [], Nat.zero_le _, rfl, rfl, rfl, ⟨_, HST.out⟩⟩
  case round =>
    obtain ⟨k, S, hk, hSk, rfl, rfl, HL0⟩ := hrel
    obtain ⟨v, hL⟩ := HL0.out
    have HL := Lib.hid hL
    have HSK := Lib.hid hSk
    clear HST HL0 hSk
    by_cases hlt : k < n
    · have hltI : (k : Int) < (n : Int) := by omega
      have hk0 : (0 : Int) ≤ (k : Int) := by omega
      have hkb : k ≤ 12 := by omega
      obtain ⟨ad, rfl, hcell⟩ := HI.out (by omega)
      have hck : wr.cell? (ad.add k) = some (.int .i64 (zs k)) := by
        have := hcell k hlt
        have hb := World.block_lt_of_cell? _ _ this
        have e1 := H0.out.size
        have e2 := HB0.out.size
        have e3 := HB4.out
        have ho := hL.gq.old.block (ad.add k).block (by omega) (by omega)
        have e4 := (below_trans H0.out HB0.out).block _ hb
        unfold World.cell? at this ⊢
        rw [ho, e4]; exact this
      have hq1 : wr.cell? ⟨b4, 1, none⟩ = some v := cell_of hL.gq.blk 1
      have hn5 : wr.heap[b4 + 1]? = some (.cells [.string ⟨#[46, 80, 72, 79, 78, 89]⟩, .string ⟨#[37, 46, 111]⟩, .string ⟨#[46, 99, 46, 111]⟩, .string ⟨#[97]⟩, .string ⟨#[46, 47, 98]⟩, .string ⟨#[46, 120, 47, 121]⟩].toArray 9 (0, 0)) := (hL.gq.old.block (b4 + 1) (by have := HS0.out; omega) (by omega)).trans HZ5.out
      obtain ⟨z, hz⟩ : ∃ z, zs k = z := ⟨_, rfl⟩
      rw [hz] at hck
      obtain ⟨j, hj, hj4⟩ : ∃ j : Nat, z % 1024 = j ∧ j < 1024 := ⟨(z % 1024).toNat, by omega, by omega⟩
      have hand : bits .and .i64 z 1023 = (j : Int) := by rw [i64_and1023, hj]
      have HMK : Hid (∀ m : Nat, m = k → (S.map ruleT).length = m) := fun m hm => by rw [List.length_map, HSK.out, hm]
      have hc : j % 6 = 0 ∨ j % 6 = 1 ∨ j % 6 = 2 ∨ j % 6 = 3 ∨ j % 6 = 4 ∨ j % 6 = 5 := by omega
      clear hz hj hcell hL
      obtain ⟨fd, hfd⟩ : ∃ fd, S.find? goodB = fd := ⟨_, rfl⟩
      have HFD := Lib.hid hfd
      rw [hfd]
      clear hfd
      rcases hc with hc | hc | hc | hc | hc | hc
      · have hmod : (j : Int) % 6 = 0 := by omega
        have q5 : wr.cell? ⟨b4 + 1, 0, none⟩ = some (.string ⟨#[46, 80, 72, 79, 78, 89]⟩) := cell_of hn5 0
        have HNM : Hid (∀ s ∈ S ++ [[46, 80, 72, 79, 78, 89]], s ∈ namesB) := fun s hs => by
          rcases List.mem_append.1 hs with h | h
          · exact HL.out.nm s h
          · rw [List.mem_singleton.1 h]; decide
        have HLN : Hid ((S ++ [[46, 80, 72, 79, 78, 89]]).length = k + 1) := by rw [Hid, List.length_append, HSK.out]; rfl
        have HRT : Hid ((S ++ [[46, 80, 72, 79, 78, 89]]).map ruleT = S.map ruleT ++ [[[46, 80, 72, 79, 78, 89], [122]]]) := by rw [Hid, List.map_append]; rfl
        clear hc hj4 hn5
        cases fd with
        | none =>
          have HFN : Hid ((S ++ [[46, 80, 72, 79, 78, 89]]).find? goodB = none) := by rw [Hid, find_snoc, HFD.out]; rfl
          simp only [Option.getD_none, nameB]
          go_wp2_with (at_builtin; obtain ⟨v', w3, hrun, hb3, hf3, ⟨gv, cv, rfl⟩, hgq⟩ := HL.out.gq.pushm k (HMK.out k rfl) (by omega) [[46, 80, 72, 79, 78, 89], [122]] (by simp) #[.string ⟨#[46, 80, 72, 79, 78, 89]⟩, .string ⟨#[122]⟩] rfl 2 rfl; have HGQ := Lib.hid hgq; have HRUN := Lib.hid hrun; clear hgq hrun; refine wpList_run_append _ rfl _ _ 43 43 rfl _ _ rfl rfl HRUN.out ?_)
          go_roundw
          case measure => simp [intOf]; omega
          case rel => exact ⟨k + 1, S ++ [[46, 80, 72, 79, 78, 89]], by omega, HLN.out, by go_num, by rw [HFN.out]; rfl, ⟨_, ⟨by rw [HRT.out]; exact HGQ.out, HNM.out⟩⟩⟩
        | some t =>
          have HFN : Hid ((S ++ [[46, 80, 72, 79, 78, 89]]).find? goodB = some t) := by rw [Hid, find_snoc, HFD.out]
          have htn := find_ne HFD.out
          have hte : (nameB t).toList.isEmpty = false := by
            rw [Lib.toList_data]
            have : (nameB t).data.toList = t := by unfold nameB; simp
            rw [this]
            cases t with
            | nil => exact absurd rfl htn
            | cons => rfl
          simp only [Option.getD_some]
          obtain ⟨tb, htb⟩ : ∃ tb, nameB t = tb := ⟨_, rfl⟩
          rw [htb] at hte ⊢
          have HTB := Lib.hid htb
          clear htb htn
          go_wp2_with (at_builtin; obtain ⟨v', w3, hrun, hb3, hf3, ⟨gv, cv, rfl⟩, hgq⟩ := HL.out.gq.pushm k (HMK.out k rfl) (by omega) [[46, 80, 72, 79, 78, 89], [122]] (by simp) #[.string ⟨#[46, 80, 72, 79, 78, 89]⟩, .string ⟨#[122]⟩] rfl 2 rfl; have HGQ := Lib.hid hgq; have HRUN := Lib.hid hrun; clear hgq hrun; refine wpList_run_append _ rfl _ _ 43 43 rfl _ _ rfl rfl HRUN.out ?_)
          go_roundw
          case measure => simp [intOf]; omega
          case rel => exact ⟨k + 1, S ++ [[46, 80, 72, 79, 78, 89]], by omega, HLN.out, by go_num, by rw [HFN.out, ← HTB.out]; rfl, ⟨_, ⟨by rw [HRT.out]; exact HGQ.out, HNM.out⟩⟩⟩
      · have hmod : (j : Int) % 6 = 1 := by omega
        have q5 : wr.cell? ⟨b4 + 1, 1, none⟩ = some (.string ⟨#[37, 46, 111]⟩) := cell_of hn5 1
        have HNM : Hid (∀ s ∈ S ++ [[37, 46, 111]], s ∈ namesB) := fun s hs => by
          rcases List.mem_append.1 hs with h | h
          · exact HL.out.nm s h
          · rw [List.mem_singleton.1 h]; decide
        have HLN : Hid ((S ++ [[37, 46, 111]]).length = k + 1) := by rw [Hid, List.length_append, HSK.out]; rfl
        have HRT : Hid ((S ++ [[37, 46, 111]]).map ruleT = S.map ruleT ++ [[[37, 46, 111]]]) := by rw [Hid, List.map_append]; rfl
        clear hc hj4 hn5
        cases fd with
        | none =>
          have HFN : Hid ((S ++ [[37, 46, 111]]).find? goodB = none) := by rw [Hid, find_snoc, HFD.out]; rfl
          simp only [Option.getD_none, nameB]
          go_wp2_with (at_builtin; obtain ⟨v', w3, hrun, hb3, hf3, ⟨gv, cv, rfl⟩, hgq⟩ := HL.out.gq.pushm k (HMK.out k rfl) (by omega) [[37, 46, 111], [122]] (by simp) #[.string ⟨#[37, 46, 111]⟩, .string ⟨#[122]⟩] rfl 2 rfl; have HGQ := Lib.hid hgq; have HRUN := Lib.hid hrun; have hfx := hgq.fixm (g := gv) (cap := cv) k (HMK.out k rfl) [[37, 46, 111]] (by simp) #[.string ⟨#[37, 46, 111]⟩] rfl 1 rfl; obtain ⟨⟨x3, hx3⟩, hy3, hgq2⟩ := hfx; rw [szset] at hgq2; have hbb : (w3.setCell ⟨b4, 1, none⟩ (.slice (some ⟨gv, 0, none⟩) (k + 1) cv)).cell? ⟨b4, 1, none⟩ = some (.slice (some ⟨gv, 0, none⟩) (k + 1) cv) := cell_of hgq.blk 1; have HGQ2 := Lib.hid hgq2; have hkk : k < k + 1 := Nat.lt_succ_self k; have hadk : (⟨gv, 0, none⟩ : Addr).add (k * 3) = ⟨gv, k * 3, none⟩ := (by rw [addk, Nat.zero_add]); have hkI : (k : Int) < (k : Int) + 1 := (by omega); clear hgq2; clear hgq hrun; refine wpList_run_append _ rfl _ _ 43 43 rfl _ _ rfl rfl HRUN.out ?_)
          go_roundw
          case measure => simp [intOf]; omega
          case rel => exact ⟨k + 1, S ++ [[37, 46, 111]], by omega, HLN.out, by go_num, by rw [HFN.out]; rfl, ⟨_, ⟨by rw [HRT.out]; exact HGQ2.out, HNM.out⟩⟩⟩
        | some t =>
          have HFN : Hid ((S ++ [[37, 46, 111]]).find? goodB = some t) := by rw [Hid, find_snoc, HFD.out]
          have htn := find_ne HFD.out
          have hte : (nameB t).toList.isEmpty = false := by
            rw [Lib.toList_data]
            have : (nameB t).data.toList = t := by unfold nameB; simp
            rw [this]
            cases t with
            | nil => exact absurd rfl htn
            | cons => rfl
          simp only [Option.getD_some]
          obtain ⟨tb, htb⟩ : ∃ tb, nameB t = tb := ⟨_, rfl⟩
          rw [htb] at hte ⊢
          have HTB := Lib.hid htb
          clear htb htn
          go_wp2_with (at_builtin; obtain ⟨v', w3, hrun, hb3, hf3, ⟨gv, cv, rfl⟩, hgq⟩ := HL.out.gq.pushm k (HMK.out k rfl) (by omega) [[37, 46, 111], [122]] (by simp) #[.string ⟨#[37, 46, 111]⟩, .string ⟨#[122]⟩] rfl 2 rfl; have HGQ := Lib.hid hgq; have HRUN := Lib.hid hrun; have hfx := hgq.fixm (g := gv) (cap := cv) k (HMK.out k rfl) [[37, 46, 111]] (by simp) #[.string ⟨#[37, 46, 111]⟩] rfl 1 rfl; obtain ⟨⟨x3, hx3⟩, hy3, hgq2⟩ := hfx; rw [szset] at hgq2; have hbb : (w3.setCell ⟨b4, 1, none⟩ (.slice (some ⟨gv, 0, none⟩) (k + 1) cv)).cell? ⟨b4, 1, none⟩ = some (.slice (some ⟨gv, 0, none⟩) (k + 1) cv) := cell_of hgq.blk 1; have HGQ2 := Lib.hid hgq2; have hkk : k < k + 1 := Nat.lt_succ_self k; have hadk : (⟨gv, 0, none⟩ : Addr).add (k * 3) = ⟨gv, k * 3, none⟩ := (by rw [addk, Nat.zero_add]); have hkI : (k : Int) < (k : Int) + 1 := (by omega); clear hgq2; clear hgq hrun; refine wpList_run_append _ rfl _ _ 43 43 rfl _ _ rfl rfl HRUN.out ?_)
          go_roundw
          case measure => simp [intOf]; omega
          case rel => exact ⟨k + 1, S ++ [[37, 46, 111]], by omega, HLN.out, by go_num, by rw [HFN.out, ← HTB.out]; rfl, ⟨_, ⟨by rw [HRT.out]; exact HGQ2.out, HNM.out⟩⟩⟩
      · have hmod : (j : Int) % 6 = 2 := by omega
        have q5 : wr.cell? ⟨b4 + 1, 2, none⟩ = some (.string ⟨#[46, 99, 46, 111]⟩) := cell_of hn5 2
        have HNM : Hid (∀ s ∈ S ++ [[46, 99, 46, 111]], s ∈ namesB) := fun s hs => by
          rcases List.mem_append.1 hs with h | h
          · exact HL.out.nm s h
          · rw [List.mem_singleton.1 h]; decide
        have HLN : Hid ((S ++ [[46, 99, 46, 111]]).length = k + 1) := by rw [Hid, List.length_append, HSK.out]; rfl
        have HRT : Hid ((S ++ [[46, 99, 46, 111]]).map ruleT = S.map ruleT ++ [[[46, 99, 46, 111], [122]]]) := by rw [Hid, List.map_append]; rfl
        clear hc hj4 hn5
        cases fd with
        | none =>
          have HFN : Hid ((S ++ [[46, 99, 46, 111]]).find? goodB = none) := by rw [Hid, find_snoc, HFD.out]; rfl
          simp only [Option.getD_none, nameB]
          go_wp2_with (at_builtin; obtain ⟨v', w3, hrun, hb3, hf3, ⟨gv, cv, rfl⟩, hgq⟩ := HL.out.gq.pushm k (HMK.out k rfl) (by omega) [[46, 99, 46, 111], [122]] (by simp) #[.string ⟨#[46, 99, 46, 111]⟩, .string ⟨#[122]⟩] rfl 2 rfl; have HGQ := Lib.hid hgq; have HRUN := Lib.hid hrun; clear hgq hrun; refine wpList_run_append _ rfl _ _ 43 43 rfl _ _ rfl rfl HRUN.out ?_)
          go_roundw
          case measure => simp [intOf]; omega
          case rel => exact ⟨k + 1, S ++ [[46, 99, 46, 111]], by omega, HLN.out, by go_num, by rw [HFN.out]; rfl, ⟨_, ⟨by rw [HRT.out]; exact HGQ.out, HNM.out⟩⟩⟩
        | some t =>
          have HFN : Hid ((S ++ [[46, 99, 46, 111]]).find? goodB = some t) := by rw [Hid, find_snoc, HFD.out]
          have htn := find_ne HFD.out
          have hte : (nameB t).toList.isEmpty = false := by
            rw [Lib.toList_data]
            have : (nameB t).data.toList = t := by unfold nameB; simp
            rw [this]
            cases t with
            | nil => exact absurd rfl htn
            | cons => rfl
          simp only [Option.getD_some]
          obtain ⟨tb, htb⟩ : ∃ tb, nameB t = tb := ⟨_, rfl⟩
          rw [htb] at hte ⊢
          have HTB := Lib.hid htb
          clear htb htn
          go_wp2_with (at_builtin; obtain ⟨v', w3, hrun, hb3, hf3, ⟨gv, cv, rfl⟩, hgq⟩ := HL.out.gq.pushm k (HMK.out k rfl) (by omega) [[46, 99, 46, 111], [122]] (by simp) #[.string ⟨#[46, 99, 46, 111]⟩, .string ⟨#[122]⟩] rfl 2 rfl; have HGQ := Lib.hid hgq; have HRUN := Lib.hid hrun; clear hgq hrun; refine wpList_run_append _ rfl _ _ 43 43 rfl _ _ rfl rfl HRUN.out ?_)
          go_roundw
          case measure => simp [intOf]; omega
          case rel => exact ⟨k + 1, S ++ [[46, 99, 46, 111]], by omega, HLN.out, by go_num, by rw [HFN.out, ← HTB.out]; rfl, ⟨_, ⟨by rw [HRT.out]; exact HGQ.out, HNM.out⟩⟩⟩
      · have hmod : (j : Int) % 6 = 3 := by omega
        have q5 : wr.cell? ⟨b4 + 1, 3, none⟩ = some (.string ⟨#[97]⟩) := cell_of hn5 3
        have HNM : Hid (∀ s ∈ S ++ [[97]], s ∈ namesB) := fun s hs => by
          rcases List.mem_append.1 hs with h | h
          · exact HL.out.nm s h
          · rw [List.mem_singleton.1 h]; decide
        have HLN : Hid ((S ++ [[97]]).length = k + 1) := by rw [Hid, List.length_append, HSK.out]; rfl
        have HRT : Hid ((S ++ [[97]]).map ruleT = S.map ruleT ++ [[[97], [122]]]) := by rw [Hid, List.map_append]; rfl
        clear hc hj4 hn5
        cases fd with
        | none =>
          have HFN : Hid ((S ++ [[97]]).find? goodB = some [97]) := by rw [Hid, find_snoc, HFD.out]; rfl
          simp only [Option.getD_none, nameB]
          go_wp2_with (at_builtin; obtain ⟨v', w3, hrun, hb3, hf3, ⟨gv, cv, rfl⟩, hgq⟩ := HL.out.gq.pushm k (HMK.out k rfl) (by omega) [[97], [122]] (by simp) #[.string ⟨#[97]⟩, .string ⟨#[122]⟩] rfl 2 rfl; have HGQ := Lib.hid hgq; have HRUN := Lib.hid hrun; clear hgq hrun; refine wpList_run_append _ rfl _ _ 43 43 rfl _ _ rfl rfl HRUN.out ?_)
          go_roundw
          case measure => simp [intOf]; omega
          case rel => exact ⟨k + 1, S ++ [[97]], by omega, HLN.out, by go_num, by rw [HFN.out]; rfl, ⟨_, ⟨by rw [HRT.out]; exact HGQ.out, HNM.out⟩⟩⟩
        | some t =>
          have HFN : Hid ((S ++ [[97]]).find? goodB = some t) := by rw [Hid, find_snoc, HFD.out]
          have htn := find_ne HFD.out
          have hte : (nameB t).toList.isEmpty = false := by
            rw [Lib.toList_data]
            have : (nameB t).data.toList = t := by unfold nameB; simp
            rw [this]
            cases t with
            | nil => exact absurd rfl htn
            | cons => rfl
          simp only [Option.getD_some]
          obtain ⟨tb, htb⟩ : ∃ tb, nameB t = tb := ⟨_, rfl⟩
          rw [htb] at hte ⊢
          have HTB := Lib.hid htb
          clear htb htn
          go_wp2_with (at_builtin; obtain ⟨v', w3, hrun, hb3, hf3, ⟨gv, cv, rfl⟩, hgq⟩ := HL.out.gq.pushm k (HMK.out k rfl) (by omega) [[97], [122]] (by simp) #[.string ⟨#[97]⟩, .string ⟨#[122]⟩] rfl 2 rfl; have HGQ := Lib.hid hgq; have HRUN := Lib.hid hrun; clear hgq hrun; refine wpList_run_append _ rfl _ _ 43 43 rfl _ _ rfl rfl HRUN.out ?_)
          go_roundw
          case measure => simp [intOf]; omega
          case rel => exact ⟨k + 1, S ++ [[97]], by omega, HLN.out, by go_num, by rw [HFN.out, ← HTB.out]; rfl, ⟨_, ⟨by rw [HRT.out]; exact HGQ.out, HNM.out⟩⟩⟩
      · have hmod : (j : Int) % 6 = 4 := by omega
        have q5 : wr.cell? ⟨b4 + 1, 4, none⟩ = some (.string ⟨#[46, 47, 98]⟩) := cell_of hn5 4
        have HNM : Hid (∀ s ∈ S ++ [[46, 47, 98]], s ∈ namesB) := fun s hs => by
          rcases List.mem_append.1 hs with h | h
          · exact HL.out.nm s h
          · rw [List.mem_singleton.1 h]; decide
        have HLN : Hid ((S ++ [[46, 47, 98]]).length = k + 1) := by rw [Hid, List.length_append, HSK.out]; rfl
        have HRT : Hid ((S ++ [[46, 47, 98]]).map ruleT = S.map ruleT ++ [[[46, 47, 98], [122]]]) := by rw [Hid, List.map_append]; rfl
        clear hc hj4 hn5
        cases fd with
        | none =>
          have HFN : Hid ((S ++ [[46, 47, 98]]).find? goodB = some [46, 47, 98]) := by rw [Hid, find_snoc, HFD.out]; rfl
          simp only [Option.getD_none, nameB]
          go_wp2_with (at_builtin; obtain ⟨v', w3, hrun, hb3, hf3, ⟨gv, cv, rfl⟩, hgq⟩ := HL.out.gq.pushm k (HMK.out k rfl) (by omega) [[46, 47, 98], [122]] (by simp) #[.string ⟨#[46, 47, 98]⟩, .string ⟨#[122]⟩] rfl 2 rfl; have HGQ := Lib.hid hgq; have HRUN := Lib.hid hrun; clear hgq hrun; refine wpList_run_append _ rfl _ _ 43 43 rfl _ _ rfl rfl HRUN.out ?_)
          go_roundw
          case measure => simp [intOf]; omega
          case rel => exact ⟨k + 1, S ++ [[46, 47, 98]], by omega, HLN.out, by go_num, by rw [HFN.out]; rfl, ⟨_, ⟨by rw [HRT.out]; exact HGQ.out, HNM.out⟩⟩⟩
        | some t =>
          have HFN : Hid ((S ++ [[46, 47, 98]]).find? goodB = some t) := by rw [Hid, find_snoc, HFD.out]
          have htn := find_ne HFD.out
          have hte : (nameB t).toList.isEmpty = false := by
            rw [Lib.toList_data]
            have : (nameB t).data.toList = t := by unfold nameB; simp
            rw [this]
            cases t with
            | nil => exact absurd rfl htn
            | cons => rfl
          simp only [Option.getD_some]
          obtain ⟨tb, htb⟩ : ∃ tb, nameB t = tb := ⟨_, rfl⟩
          rw [htb] at hte ⊢
          have HTB := Lib.hid htb
          clear htb htn
          go_wp2_with (at_builtin; obtain ⟨v', w3, hrun, hb3, hf3, ⟨gv, cv, rfl⟩, hgq⟩ := HL.out.gq.pushm k (HMK.out k rfl) (by omega) [[46, 47, 98], [122]] (by simp) #[.string ⟨#[46, 47, 98]⟩, .string ⟨#[122]⟩] rfl 2 rfl; have HGQ := Lib.hid hgq; have HRUN := Lib.hid hrun; clear hgq hrun; refine wpList_run_append _ rfl _ _ 43 43 rfl _ _ rfl rfl HRUN.out ?_)
          go_roundw
          case measure => simp [intOf]; omega
          case rel => exact ⟨k + 1, S ++ [[46, 47, 98]], by omega, HLN.out, by go_num, by rw [HFN.out, ← HTB.out]; rfl, ⟨_, ⟨by rw [HRT.out]; exact HGQ.out, HNM.out⟩⟩⟩
      · have hmod : (j : Int) % 6 = 5 := by omega
        have q5 : wr.cell? ⟨b4 + 1, 5, none⟩ = some (.string ⟨#[46, 120, 47, 121]⟩) := cell_of hn5 5
        have HNM : Hid (∀ s ∈ S ++ [[46, 120, 47, 121]], s ∈ namesB) := fun s hs => by
          rcases List.mem_append.1 hs with h | h
          · exact HL.out.nm s h
          · rw [List.mem_singleton.1 h]; decide
        have HLN : Hid ((S ++ [[46, 120, 47, 121]]).length = k + 1) := by rw [Hid, List.length_append, HSK.out]; rfl
        have HRT : Hid ((S ++ [[46, 120, 47, 121]]).map ruleT = S.map ruleT ++ [[[46, 120, 47, 121], [122]]]) := by rw [Hid, List.map_append]; rfl
        clear hc hj4 hn5
        cases fd with
        | none =>
          have HFN : Hid ((S ++ [[46, 120, 47, 121]]).find? goodB = some [46, 120, 47, 121]) := by rw [Hid, find_snoc, HFD.out]; rfl
          simp only [Option.getD_none, nameB]
          go_wp2_with (at_builtin; obtain ⟨v', w3, hrun, hb3, hf3, ⟨gv, cv, rfl⟩, hgq⟩ := HL.out.gq.pushm k (HMK.out k rfl) (by omega) [[46, 120, 47, 121], [122]] (by simp) #[.string ⟨#[46, 120, 47, 121]⟩, .string ⟨#[122]⟩] rfl 2 rfl; have HGQ := Lib.hid hgq; have HRUN := Lib.hid hrun; clear hgq hrun; refine wpList_run_append _ rfl _ _ 43 43 rfl _ _ rfl rfl HRUN.out ?_)
          go_roundw
          case measure => simp [intOf]; omega
          case rel => exact ⟨k + 1, S ++ [[46, 120, 47, 121]], by omega, HLN.out, by go_num, by rw [HFN.out]; rfl, ⟨_, ⟨by rw [HRT.out]; exact HGQ.out, HNM.out⟩⟩⟩
        | some t =>
          have HFN : Hid ((S ++ [[46, 120, 47, 121]]).find? goodB = some t) := by rw [Hid, find_snoc, HFD.out]
          have htn := find_ne HFD.out
          have hte : (nameB t).toList.isEmpty = false := by
            rw [Lib.toList_data]
            have : (nameB t).data.toList = t := by unfold nameB; simp
            rw [this]
            cases t with
            | nil => exact absurd rfl htn
            | cons => rfl
          simp only [Option.getD_some]
          obtain ⟨tb, htb⟩ : ∃ tb, nameB t = tb := ⟨_, rfl⟩
          rw [htb] at hte ⊢
          have HTB := Lib.hid htb
          clear htb htn
          go_wp2_with (at_builtin; obtain ⟨v', w3, hrun, hb3, hf3, ⟨gv, cv, rfl⟩, hgq⟩ := HL.out.gq.pushm k (HMK.out k rfl) (by omega) [[46, 120, 47, 121], [122]] (by simp) #[.string ⟨#[46, 120, 47, 121]⟩, .string ⟨#[122]⟩] rfl 2 rfl; have HGQ := Lib.hid hgq; have HRUN := Lib.hid hrun; clear hgq hrun; refine wpList_run_append _ rfl _ _ 43 43 rfl _ _ rfl rfl HRUN.out ?_)
          go_roundw
          case measure => simp [intOf]; omega
          case rel => exact ⟨k + 1, S ++ [[46, 120, 47, 121]], by omega, HLN.out, by go_num, by rw [HFN.out, ← HTB.out]; rfl, ⟨_, ⟨by rw [HRT.out]; exact HGQ.out, HNM.out⟩⟩⟩
    · have hltI : ¬ (k : Int) < (n : Int) := by omega
      have hq0 : wr.cell? ⟨b4, 0, none⟩ = some (.slice none 0 0) := cell_of HL.out.gq.blk 0
      have hq1 : wr.cell? ⟨b4, 1, none⟩ = some v := cell_of HL.out.gq.blk 1
      have hrv := HL.out.gq.rsv
      obtain ⟨ra, rc, hvf⟩ := hrv.len
      rw [List.length_map, List.length_map, HSK.out] at hvf
      subst hvf
      have HGO := Lib.hid (Goal_any wr none ra 0 0 k rc _ hrv (by rw [List.length_map, List.length_map, HSK.out]; omega))
      have hgn := goal_names S HL.out.nm
      unfold mkR at hgn
      rw [hgn] at HGO
      have HOLD : Hid (Below W.heap.size W wr) := by
        have e3 := HB4.out
        have e1 := H0.out.size
        exact below_trans H0.out ((HB0.out.trans (HL.out.gq.old.below (fun i hi => by rw [hi]; omega) HB0.out.size)))
      clear hrv hgn
      obtain ⟨fd, hfd⟩ : ∃ fd, S.find? goodB = fd := ⟨_, rfl⟩
      rw [hfd] at HGO ⊢
      cases fd with
      | none =>
        simp only [Option.getD_none, nameB]
        clear hfd
        unfold GoalP at HGO
        go_wp2_with (go_at_call 32; refine HGO.out.mono ?_; rintro e w9 ⟨h8, h9⟩; obtain rfl := (show e = .returned (.tuple #[.string ⟨#[]⟩, .bool false]) from h8); have H9 := Lib.hid h9; clear h8 h9; simp only [])
        go_ret
        exact ⟨rfl, below_trans HOLD.out H9.out⟩
      | some t =>
        have htn := find_ne hfd
        have hte : (nameB t).toList.isEmpty = false := by
          rw [Lib.toList_data]
          have : (nameB t).data.toList = t := by unfold nameB; simp
          rw [this]
          cases t with
          | nil => exact absurd rfl htn
          | cons => rfl
        simp only [Option.getD_some]
        unfold GoalP at HGO
        obtain ⟨tb, htb⟩ : ∃ tb, nameB t = tb := ⟨_, rfl⟩
        simp only [htb] at hte HGO ⊢
        clear htb htn hfd
        go_wp2_with (go_at_call 32; refine HGO.out.mono ?_; rintro e w9 ⟨h8, h9⟩; obtain rfl := (show e = .returned (.tuple #[.string tb, .bool true]) from h8); have H9 := Lib.hid h9; clear h8 h9; simp only [])
        go_ret
        exact ⟨rfl, below_trans HOLD.out H9.out⟩
end Go.Proofs.YtjagnihkpgbjeaaDoor

namespace Go.Proofs.YtjagnihkpgbjeaaDoor
open Go.RowKit Go.Maps Go.ChangeMaps
set_option linter.unusedVariables false
/-! Numbers in names; chains and rings of targets. -/
def dg (i : Nat) : Bs := if i < 10 then [UInt8.ofNat (48 + i)] else [UInt8.ofNat (48 + i / 10), UInt8.ofNat (48 + i % 10)]
def digB : ByteArray := ⟨#[48, 49, 50, 51, 52, 53, 54, 55, 56, 57]⟩
theorem dig_at : ∀ n : Fin 10, digB.extract n.val (n.val + 1) = nameB (dg n.val) := by decide
theorem nameB_list (l : Bs) : (nameB l).data.toList = l := by unfold nameB; simp
theorem nameB_size (l : Bs) : (nameB l).size = l.length := by unfold nameB; simp [ByteArray.size]
theorem nameB_app (a b : Bs) : nameB a ++ nameB b = nameB (a ++ b) := by
  refine ByteArray.ext (Array.toList_inj.1 ?_)
  rw [ByteArray.data_append, Array.toList_append, nameB_list, nameB_list, nameB_list]
set_option maxRecDepth 100000 in
set_option maxHeartbeats 4000000 in
theorem Digits_lo (n : Nat) (hn : n < 10) (w : World) : Calls Tryd.prog 26 #[.int .i64 n] w fun e w' => e = .returned (.string (nameB (dg n))) ∧ w' = w := by
  have h1 : Int.tmod (n : Int) 10 = (n : Int) := by rw [Int.tmod_eq_emod_of_nonneg (by omega)]; omega
  have hb : IntKind.i64.wrap ((n : Int) + 1) = (n : Int) + 1 := IntWalk.i64_in _ (by omega)
  have hd : decide ((9 : Int) < (n : Int)) = false := decide_eq_false (by omega)
  have he : (⟨#[48, 49, 50, 51, 52, 53, 54, 55, 56, 57]⟩ : ByteArray).extract n (n + 1) = nameB (dg n) := dig_at ⟨n, hn⟩
  have hn0 : (0 : Int) ≤ (n : Int) := by omega
  have hn1 : (n : Int) ≤ (n : Int) + 1 := by omega
  have hn2 : (n : Int) + 1 ≤ 10 := by omega
  obtain ⟨E, hE⟩ : ∃ E, nameB (dg n) = E := ⟨_, rfl⟩
  rw [hE] at he ⊢
  clear hE
  go_enter Tryd.func26, Tryd.ntmps26
  go_wp2_with fail
  go_ret
  exact ⟨rfl, rfl⟩
set_option maxRecDepth 100000 in
set_option maxHeartbeats 4000000 in
theorem Digits_any (n : Nat) (hn : n < 100) (w : World) : Calls Tryd.prog 26 #[.int .i64 n] w fun e w' => e = .returned (.string (nameB (dg n))) ∧ w' = w := by
  by_cases h10 : n < 10
  · exact Digits_lo n h10 w
  obtain ⟨q, hq⟩ : ∃ q, n % 10 = q := ⟨_, rfl⟩
  obtain ⟨p, hp⟩ : ∃ p, n / 10 = p := ⟨_, rfl⟩
  have h1 : Int.tmod (n : Int) 10 = (q : Int) := by rw [Int.tmod_eq_emod_of_nonneg (by omega)]; omega
  have h2 : Int.tdiv (n : Int) 10 = (p : Int) := by rw [Int.tdiv_eq_ediv_of_nonneg (by omega)]; omega
  have hb : IntKind.i64.wrap ((q : Int) + 1) = (q : Int) + 1 := IntWalk.i64_in _ (by omega)
  have hb2 : IntKind.i64.wrap (p : Int) = (p : Int) := IntWalk.i64_in _ (by omega)
  have hd : decide ((9 : Int) < (n : Int)) = true := decide_eq_true (by omega)
  have he : (⟨#[48, 49, 50, 51, 52, 53, 54, 55, 56, 57]⟩ : ByteArray).extract q (q + 1) = nameB (dg q) := dig_at ⟨q, by omega⟩
  have hn0 : (0 : Int) ≤ (q : Int) := by omega
  have hn1 : (q : Int) ≤ (q : Int) + 1 := by omega
  have hn2 : (q : Int) + 1 ≤ 10 := by omega
  have HD := Lib.hid (Digits_lo p (by omega) w)
  have hdg : nameB (dg n) = nameB (dg p) ++ nameB (dg q) := by
    rw [nameB_app]
    unfold dg
    rw [if_neg h10, if_pos (by omega), if_pos (by omega), hp, hq]; rfl
  have hs1 : (nameB (dg p)).size = 1 := by rw [nameB_size]; unfold dg; rw [if_pos (by omega)]; rfl
  have hs2 : (nameB (dg q)).size = 1 := by rw [nameB_size]; unfold dg; rw [if_pos (by omega)]; rfl
  rw [hdg]
  obtain ⟨E, hE⟩ : ∃ E, nameB (dg q) = E := ⟨_, rfl⟩
  obtain ⟨F, hF⟩ : ∃ F, nameB (dg p) = F := ⟨_, rfl⟩
  rw [hE] at he hs2 ⊢
  rw [hF] at HD hs1 ⊢
  have hz : ¬ (9223372036854775807 < F.size + E.size) := by omega
  clear hE hF hdg hs1 hs2 hp hq
  go_enter Tryd.func26, Tryd.ntmps26
  go_wp2_with (go_at_call 26; refine HD.out.mono ?_; rintro e w5 ⟨rfl, h5⟩; obtain rfl := h5.symm; simp only [])
  go_ret
  exact ⟨rfl, rfl⟩
def tn (i : Nat) : Bs := 116 :: dg i
theorem dg_len (i : Nat) : (dg i).length ≤ 2 := by unfold dg; split <;> simp
theorem tn_ok : ∀ i : Fin 61, okB (tn i.val) = true := by decide
theorem tn_pct : ∀ i : Fin 61, pct (tn i.val) = false := by decide
theorem tn_inj : ∀ i j : Fin 61, tn i.val = tn j.val → i = j := by decide
theorem tn_u : ∀ i : Fin 61, tn i.val ≠ [117] := by decide
/-- The needs of the i-th of n targets. -/
def nsR (n back i : Nat) : List Bs := if i + 1 < n then [tn (i + 1)] else if back < n then [tn back] else []
def rsR (n back m : Nat) : List Rl := (List.range m).map fun i => ⟨[tn i], nsR n back i, []⟩
theorem rsR_succ (n back m : Nat) : rsR n back (m + 1) = rsR n back m ++ [⟨[tn m], nsR n back m, []⟩] := by unfold rsR; rw [List.range_succ, List.map_append]; rfl
theorem makes_tn (n back i j : Nat) (hi : i < 61) (hj : j < 61) : makesF ⟨[tn i], nsR n back i, []⟩ (tn j) = decide (i = j) := by
  have hp : pct (tn i) = false := tn_pct ⟨i, hi⟩
  unfold makesF isPlainF
  by_cases h : i = j
  · subst h; simp [hp]
  · have : tn j ≠ tn i := fun e => h (by have := tn_inj ⟨j, hj⟩ ⟨i, hi⟩ e; injection this with this; exact this.symm)
    simp [h, this]
theorem plain_tn (n back : Nat) (j : Nat) (hj : j < 61) : ∀ m, m ≤ 61 → plainF (rsR n back m) (tn j) = if j < m then [⟨[tn j], nsR n back j, []⟩] else []
  | 0, _ => by simp [rsR, plainF]
  | m + 1, hm => by
    have ih := plain_tn n back j hj m (by omega)
    have hmk := makes_tn n back m j (by omega) hj
    rw [rsR_succ]
    unfold plainF at ih ⊢
    rw [List.filter_append, ih]
    by_cases h1 : j < m
    · rw [if_pos h1, if_pos (by omega), List.filter_cons, hmk, decide_eq_false (by omega)]; rfl
    · rw [if_neg h1]
      by_cases h2 : m = j
      · subst h2
        rw [if_pos (by omega), List.filter_cons, hmk, decide_eq_true rfl]; rfl
      · rw [if_neg (by omega), List.filter_cons, hmk, decide_eq_false h2]; rfl
theorem gg_tn (n back j : Nat) (hj : j < n) (hn : n ≤ 60) : GG (rsR n back n) (tn j) = ⟨nsR n back j, [], true⟩ := by
  show planL (plainF (rsR n back n) (tn j)) = _
  rw [plain_tn n back j (by omega) n (by omega), if_pos hj]
  unfold planL
  rw [List.foldl_cons, List.foldl_nil, if_pos rfl]
  have : addF [] (nsR n back j) = nsR n back j := by
    unfold nsR
    split
    · rfl
    · split <;> rfl
  rw [this]
theorem gg_u (n back : Nat) (hn : n ≤ 60) : GG (rsR n back n) [117] = ⟨[], [], false⟩ := by
  have h : plainF (rsR n back n) [117] = [] := by
    unfold plainF
    rw [List.filter_eq_nil_iff]
    intro r hr
    unfold rsR at hr
    obtain ⟨i, hi, rfl⟩ := List.mem_map.1 hr
    have hi := List.mem_range.1 hi
    have := tn_u ⟨i, by omega⟩
    unfold makesF
    simp [Ne.symm this]
  show planL (plainF (rsR n back n) [117]) = _
  rw [h]; rfl
/-- A walk's state with the first i targets open. -/
structure Chn (s : GS) (n i : Nat) : Prop where
  lo : ∀ j, j < i → s.st (tn j) = 1
  hi : ∀ j, i ≤ j → j < n → s.st (tn j) = 0
  re : s.reached = i
  ne : s.nested = i
theorem Chn.open {s : GS} {n i : Nat} (h : Chn s n i) (hi : i < n) (hn : n ≤ 60) : Chn (openS s (tn i)) n (i + 1) := by
  refine ⟨fun j hj => ?_, fun j hj hjn => ?_, by show s.reached + 1 = i + 1; rw [h.re], by show s.nested + 1 = i + 1; rw [h.ne]⟩
  · show setS s.st (tn i) 1 (tn j) = 1
    unfold setS
    by_cases e : tn j = tn i
    · rw [if_pos e]
    · rw [if_neg e]
      refine h.lo j ?_
      by_cases e2 : j = i
      · subst e2; exact absurd rfl e
      · omega
  · show setS s.st (tn i) 1 (tn j) = 0
    unfold setS
    rw [if_neg (fun e => by have := tn_inj ⟨j, by omega⟩ ⟨i, by omega⟩ e; injection this with this; omega)]
    exact h.hi j (by omega) hjn
def chL (n back i : Nat) : List Bs := if i < n then [tn i] else if back < n then [tn back] else []
theorem nsR_chL (n back i : Nat) (hi : i < n) : nsR n back i = chL n back (i + 1) := rfl
def ordR (n i : Nat) : List Bs := ((List.range (n - i)).map fun d => tn (n - 1 - d))
theorem ordR_step (n i : Nat) (hi : i < n) : ordR n i = ordR n (i + 1) ++ [tn i] := by
  unfold ordR
  rw [show n - i = (n - (i + 1)) + 1 by omega, List.range_succ, List.map_append]
  simp only [List.map_cons, List.map_nil]
  rw [show n - 1 - (n - (i + 1)) = i by omega]
theorem chain_ok {n : Nat} (hn : n ≤ 60) : ∀ (d i F : Nat) (s : GS), i + d = n → d + 1 ≤ F → Chn s n i → ∃ s', sortF (GG (rsR n n n)) (thF newT) F (chL n n i) s = some (0, s') ∧ s'.order = s.order ++ ordR n i ∧ s'.nested = i
  | 0, i, F, s, hd, hF, h => by
    obtain ⟨m, rfl⟩ : ∃ m, F = m + 1 := ⟨F - 1, by omega⟩
    refine ⟨s, ?_, ?_, h.ne⟩
    · rw [show chL n n i = [] by unfold chL; rw [if_neg (by omega), if_neg (by omega)]]; rfl
    · unfold ordR; rw [show n - i = 0 by omega]; simp
  | d + 1, i, F, s, hd, hF, h => by
    obtain ⟨m, rfl⟩ : ∃ m, F = m + 1 := ⟨F - 1, by omega⟩
    have hi : i < n := by omega
    obtain ⟨s1, e1, e2, e3⟩ := chain_ok hn d (i + 1) m (openS s (tn i)) (by omega) (by omega) (h.open hi hn)
    have hok := tn_ok ⟨i, by omega⟩
    have h0 := h.hi i (Nat.le_refl _) hi
    have hg := gg_tn n n i hi hn
    refine ⟨closeS s1 (tn i), ?_, ?_, ?_⟩
    · rw [show chL n n i = [tn i] by unfold chL; rw [if_pos hi], sortF, if_neg (by rw [hok]; simp), if_neg (by rw [h0]; decide), if_neg (by rw [h0]; decide), if_neg (by rw [h.re, h.ne]; omega), if_neg (by rw [hg]; simp), hg]
      show (match sortF (GG (rsR n n n)) (thF newT) m (chL n n (i + 1)) (openS s (tn i)) with | none => none | some (e, s1) => _) = _
      rw [e1]
      simp only [if_true]
      rw [if_neg (by rw [e3]; omega)]
      obtain ⟨m', rfl⟩ : ∃ m', m = m' + 1 := ⟨m - 1, by omega⟩
      rfl
    · show s1.order ++ [tn i] = _
      rw [e2, ordR_step n i hi, ← List.append_assoc]; rfl
    · show s1.nested - 1 = i
      rw [e3]; omega
theorem chain_ring {n back : Nat} (hn : n ≤ 60) (hb : back < n) : ∀ (d i F : Nat) (s : GS), i + d = n → d + 1 ≤ F → Chn s n i → ∃ s', sortF (GG (rsR n back n)) (thF newT) F (chL n back i) s = some (18, s')
  | 0, i, F, s, hd, hF, h => by
    obtain ⟨m, rfl⟩ : ∃ m, F = m + 1 := ⟨F - 1, by omega⟩
    have hok := tn_ok ⟨back, by omega⟩
    have h1 := h.lo back (by omega)
    refine ⟨s, ?_⟩
    rw [show chL n back i = [tn back] by unfold chL; rw [if_neg (by omega), if_pos hb], sortF, if_neg (by rw [hok]; simp), if_neg (by rw [h1]; decide), if_pos h1]
  | d + 1, i, F, s, hd, hF, h => by
    obtain ⟨m, rfl⟩ : ∃ m, F = m + 1 := ⟨F - 1, by omega⟩
    have hi : i < n := by omega
    obtain ⟨s1, e1⟩ := chain_ring hn hb d (i + 1) m (openS s (tn i)) (by omega) (by omega) (h.open hi hn)
    have hok := tn_ok ⟨i, by omega⟩
    have h0 := h.hi i (Nat.le_refl _) hi
    have hg := gg_tn n back i hi hn
    refine ⟨s1, ?_⟩
    rw [show chL n back i = [tn i] by unfold chL; rw [if_pos hi], sortF, if_neg (by rw [hok]; simp), if_neg (by rw [h0]; decide), if_neg (by rw [h0]; decide), if_neg (by rw [h.re, h.ne]; omega), if_neg (by rw [hg]; simp), hg]
    show (match sortF (GG (rsR n back n)) (thF newT) m (chL n back (i + 1)) (openS s (tn i)) with | none => none | some (e, s1) => _) = _
    rw [e1]
    rfl
theorem chn0 (n : Nat) : Chn s00 n 0 := ⟨fun j hj => absurd hj (Nat.not_lt_zero _), fun _ _ _ => rfl, rfl, rfl⟩
theorem rings_u (n back : Nat) (hn : n ≤ 60) : ∃ s', sortF (GG (rsR n back n)) (thF newT) 1 [[117]] s00 = some (19, s') := by
  refine ⟨s00, ?_⟩
  rw [sortF, if_neg (by decide), if_neg (by decide), if_neg (by decide), if_neg (by decide), if_pos]
  rw [gg_u n back hn]
  exact ⟨rfl, rfl⟩
end Go.Proofs.YtjagnihkpgbjeaaDoor
