import Derived.Test.YtjagnihkpgbjeaaDoorGB
namespace Go.Proofs.YtjagnihkpgbjeaaDoor
open Go.RowKit
set_option linter.unusedVariables false
/-! isSpecial of a target without a dot ahead; add. -/
theorem hp_dot (l : Bs) : Lib.hasPrefix l [46] = decide (l.head? = some 46) := by
  cases l with
  | nil => rfl
  | cons a t =>
    unfold Lib.hasPrefix
    by_cases h : a = 46
    · subst h; simp [List.isPrefixOf]
    · have h2 : ¬ (46 : UInt8) = a := fun e => h e.symm
      simp [List.isPrefixOf, h, h2]
set_option maxRecDepth 100000 in
set_option maxHeartbeats 1000000 in
theorem special_no (s : ByteArray) (w : World) (h : s.data.toList.head? ≠ some 46) : Calls Tryd.prog 50 #[.string s] w fun e w' => e = .returned (.bool false) ∧ w' = w := by
  have HC := Lib.hid (Tryd.strings_CutPrefix s ⟨#[46]⟩ w)
  rw [show (⟨#[46]⟩ : ByteArray).data.toList = [46] from rfl, hp_dot, decide_eq_false h] at HC
  obtain ⟨r, hr⟩ : ∃ r : ByteArray, ⟨(Lib.trimPrefix s.data.toList [46]).toArray⟩ = r := ⟨_, rfl⟩
  rw [hr] at HC
  clear h hr
  go_enter Tryd.func50, Tryd.ntmps50
  go_wp2_with (go_at_call 75; refine HC.out.mono ?_; rintro e w1 ⟨rfl, h1⟩; obtain rfl := h1.symm; simp only [])
  go_ret
  exact ⟨rfl, rfl⟩
def addF (L M : List Bs) : List Bs := M.foldl (fun l x => if l.contains x then l else l ++ [x]) L
theorem addF_len : ∀ (M L : List Bs), (addF L M).length ≤ L.length + M.length
  | [], L => by simp [addF]
  | x :: M, L => by
    show (addF (if L.contains x then L else L ++ [x]) M).length ≤ _
    have ih := addF_len M (if L.contains x then L else L ++ [x])
    have : (if L.contains x then L else L ++ [x]).length ≤ L.length + 1 := by split <;> simp
    simp only [List.length_cons]
    omega
theorem addF_take (L M : List Bs) (k : Nat) (h : k < M.length) (b : Bool) (hb : (addF L (M.take k)).contains M[k] = b) : addF L (M.take (k + 1)) = if b then addF L (M.take k) else addF L (M.take k) ++ [M[k]] := by
  unfold addF at hb ⊢
  rw [List.take_succ_eq_append_getElem h, List.foldl_append]
  simp only [List.foldl_cons, List.foldl_nil]
  rw [hb]
/-- A row of texts of base B, and that of what was there none but the blocks of S has turned. -/
structure AddSR (B : Nat) (S : Nat → Prop) (w w' : World) (v : Value) (L : List Bs) : Prop where
  own : w'.ownsRow B 9 1 v L.length (L.map encStr)
  oth : Only S w w'
  wher : ∀ g, v.ownBlock = some g → S g ∨ w.heap.size ≤ g
def AddSP (B : Nat) (S : Nat → Prop) (w : World) (L : List Bs) (e : Ending) (w' : World) : Prop := ∃ v, e = .returned v ∧ AddSR B S w w' v L
theorem run_app_one (w : World) (B : Nat) (v : Value) (L : List Bs) (x : Bs) (h : w.ownsRow B 9 1 v L.length (L.map encStr)) (hl : L.length ≤ 10000000) (hB : B ≤ w.heap.size) :
    ∃ v' w', (Builtin.append_ #[29, 29] 29 #[v, .slice (some ⟨w.heap.size, 0, none⟩) 1 1]).run Tryd.prog (w.alloc (.cells #[.string ⟨x.toArray⟩] 9)) = .ok v' w' ∧ w'.ownsRow B 9 1 v' (L ++ [x]).length ((L ++ [x]).map encStr) ∧ Only (fun j => v.ownBlock = some j) w w' ∧ (∀ g, v'.ownBlock = some g → v.ownBlock = some g ∨ w.heap.size ≤ g) := by
  obtain ⟨i0, hi, hz0, hz1, hz2⟩ := info_parts info9
  have hba := below_alloc w (.cells #[.string ⟨x.toArray⟩] 9)
  have hown := own_keep3 h hba
  have hcell : (w.alloc (.cells #[.string ⟨x.toArray⟩] 9)).cell? ⟨w.heap.size, 0, none⟩ = some (encStr x) := by
    simp only [World.cell?, heap_alloc_new w]; rfl
  obtain ⟨v', w', e1, e2, e3, _⟩ := run_append_own (P := Tryd.prog) (w.alloc (.cells #[.string ⟨x.toArray⟩] 9)) B 29 29 9 i0 _ 1 16 Tryd.underlying29 hi hz0 hz1 hz2 rfl (by decide) v L.length (L.map encStr) hown ⟨w.heap.size, 0, none⟩ 1 1 [encStr x] rfl
    (fun j u hj => by
      match j, hj with
      | 0, hj => simp at hj; subst hj; simp [Addr.add]
      | j + 1, hj => simp at hj) (by intro u hu; simp at hu; subst hu; rfl) (by unfold maxLen; omega) (by omega) (by have := hba.size; omega)
  have hw := append_where hown hcell rfl (by omega) e1
  refine ⟨v', w', e1, by rw [List.length_append, List.map_append]; exact e2, (Only.of_below (S := fun j => v.ownBlock = some j) hba).trans (Only.of_grown (S := fun i => v.ownBlock = some i) e3 (fun k hk => hk)) (fun _ h => h) (fun _ _ h => h), fun g hg => ?_⟩
  rcases hw with hw | hw
  · exact .inl (hw ▸ hg)
  · rw [hw] at hg
    injection hg with hg
    have := hba.size
    exact .inr (by omega)
set_option maxRecDepth 100000 in
set_option maxHeartbeats 4000000 in
theorem addS_any (B : Nat) (S : Nat → Prop) (v u : Value) (L M : List Bs) (w : World) (hB : B ≤ w.heap.size) (hv : w.ownsRow B 9 1 v L.length (L.map encStr)) (hS : ∀ g, v.ownBlock = some g → S g) (hu : ∀ w', Only S w w' → SlS w' u M) (hl : L.length + M.length ≤ 1000000) :
    Calls Tryd.prog 52 #[v, u] w (AddSP B S w (addF L M)) := by
  have HU := Lib.hid hu
  have HV := Lib.hid (AddSR.mk hv (Only.refl S w) (fun g hg => .inl (hS g hg)))
  obtain ⟨a, c, rfl⟩ := (hu w (Only.refl _ _)).len
  obtain ⟨va, vn, vc, rfl⟩ := sl_form (SlS.own hv)
  obtain ⟨n, hn⟩ : ∃ n, M.length = n := ⟨_, rfl⟩
  have HN := Lib.hid hn
  have HLL := Lib.hid hl
  rw [hn] at hl HU ⊢
  obtain ⟨R, hR⟩ : ∃ R, AddSP B S w (addF L M) = R := ⟨_, rfl⟩
  rw [hR]
  have HR := Lib.hid hR
  clear hu hv hn hR hS
  go_enter Tryd.func52, Tryd.ntmps52
  go_wp2_with fail
  go_loopw [0, 9] (fun l i wr => ∃ k : Nat, k ≤ n ∧ i = .int .i64 k ∧ Hid (AddSR B S w wr l (addF L (M.take k)))) (fun _ i _ => n - (intOf i).toNat)
  case atStart => exact ⟨0, by omega, rfl, HV.out⟩
  case round =>
    obtain ⟨k, hk, rfl, HX⟩ := hrel
    by_cases hlt : k < n
    · have hltI : (k : Int) < (n : Int) := by omega
      have h0 : (0 : Int) ≤ (k : Int) := by omega
      have hlr : k < M.length := by rw [HN.out]; exact hlt
      obtain ⟨g, off, rfl, _, hc⟩ := strs_sl (HU.out _ HX.out.oth) (by omega)
      have hck := hc k hlr
      have hadd := addk g off k
      clear hc
      rw [show encStr M[k] = .string (nameB M[k]) from rfl] at hck
      obtain ⟨b, hb⟩ : ∃ b, (addF L (M.take k)).contains M[k] = b := ⟨_, rfl⟩
      have HLN : Hid ((addF L (M.take k)).length ≤ 1000000) := Nat.le_trans (addF_len _ _) (by have := HLL.out; simp; omega)
      have HC := Lib.hid (Contains_any _ _ (nameB M[k]) wr (SlS.own HX.out.own) (by have := HLN.out; omega) b (by rw [show (nameB M[k]).data.toList = M[k] by unfold nameB; simp]; exact hb))
      have HT := Lib.hid (addF_take L M k hlr b hb)
      have HNB : Hid (nameB M[k] = ⟨M[k].toArray⟩) := rfl
      obtain ⟨xb, hxb⟩ : ∃ xb, nameB M[k] = xb := ⟨_, rfl⟩
      rw [hxb] at hck HC HNB
      clear hb hxb
      cases b with
      | true =>
        go_wp2_with (go_at_call 78; refine HC.out.mono ?_; rintro e w1 ⟨rfl, h1⟩; obtain rfl := h1.symm; simp only [])
        exact ⟨⟨k + 1, by omega, by go_num, by rw [HT.out]; exact HX.out⟩, by simp [intOf]; omega⟩
      | false =>
        obtain ⟨v', w', hrun, ho, hoth, hwh⟩ := run_app_one wr B _ _ M[k] HX.out.own (by have := HLN.out; omega) (Nat.le_trans hB HX.out.oth.size)
        rw [← HNB.out] at hrun
        have HRO : Hid (AddSR B S w w' v' (addF L (M.take (k + 1)))) := by
          rw [HT.out]
          refine ⟨ho, HX.out.oth.trans hoth (fun _ h => h) (fun i hi h => ?_), fun g hg => ?_⟩
          · rcases HX.out.wher i h with h | h
            · exact h
            · omega
          · rcases hwh g hg with h | h
            · exact HX.out.wher g h
            · exact .inr (Nat.le_trans HX.out.oth.size h)
        have HRUN := Lib.hid hrun
        clear hrun ho hoth hwh
        go_wp2_with (first
          | (go_at_call 78; refine HC.out.mono ?_; rintro e w1 ⟨rfl, h1⟩; obtain rfl := h1.symm; simp only [])
          | (at_builtin; refine wpList_run_append _ rfl _ _ 29 29 rfl _ _ rfl rfl HRUN.out ?_))
        exact ⟨⟨k + 1, by omega, by go_num, HRO.out⟩, by simp [intOf]; omega⟩
    · have hltI : ¬ (k : Int) < (n : Int) := by omega
      go_wp2_with fail
      rw [← HR.out]
      refine ⟨_, rfl, ?_⟩
      have := HX.out
      rw [List.take_of_length_le (by rw [HN.out]; omega)] at this
      exact this
end Go.Proofs.YtjagnihkpgbjeaaDoor
