import Derived.Test.YtcmjpkfinbakkaaGreatDoorKF
import Derived.Test.YtcmjpkfinbakkaaGreatDoorWN
import Derived.Test.YtcmjpkfinbakkaaGreatDoorRR
namespace Go.Proofs.YtcmjpkfinbakkaaGreatDoor
open Go.RowKit Go.ChangeShapes Go.WideShapes
set_option linter.unusedVariables false
set_option maxRecDepth 100000

/-- What each argument of ToolsCat is to give: a file's bytes, or error 6, or behind all what comes in. -/
def catR (ls : Nat → Bz) (gone : List Bool) (inb : Bz) (n k : Nat) : Bz × Nat := if k < n then (if gone.getD k false then ([], 6) else (ls k, 0)) else (inb, 0)
/-- The arguments of ToolsCat. -/
def catL (k : Nat) : List ByteArray := (List.range k).map fN
theorem catL_len (k : Nat) : (catL k).length = k := by simp [catL]
theorem catL_next (k : Nat) : catL (k + 1) = catL k ++ [fN k] := by simp [catL, List.range_succ]
theorem catL_at (k : Nat) {j : Nat} (h : j < k) : (catL k ++ [dash]).getD j ByteArray.empty = fN j := by
  rw [List.getD_eq_getElem?_getD, List.getElem?_append_left (by rw [catL_len]; exact h)]
  simp [catL, h]
theorem catL_get (k : Nat) {j : Nat} (h : j < k) : (catL k ++ [dash])[j]'(by simp [catL_len]; omega) = fN j := by
  have := catL_at k h
  rw [List.getD_eq_getElem?_getD, List.getElem?_eq_getElem (by simp [catL_len]; omega)] at this
  exact this
theorem catL_last (k : Nat) : (catL k ++ [dash])[k]'(by rw [List.length_append, catL_len]; exact Nat.lt_succ_self k) = dash := by
  rw [List.getElem_append_right (by rw [catL_len]; exact Nat.le_refl k)]
  simp [catL_len]
theorem fN_dash (j : Nat) : ¬ fN j = dash := by
  intro e
  have := congrArg ByteArray.size e
  cases this
theorem fN_size (j : Nat) : (fN j).size = 2 := rfl
theorem log_fN (k : Nat) (h : k < 10) : (logB nCat (fN k) 6).data.toList = [99, 97, 116, 58, 32] ++ (fN k).data.toList ++ [58, 32, 101, 114, 114, 111, 114, 32, 54, 10] := by
  match k, h with
  | 0, _ | 1, _ | 2, _ | 3, _ | 4, _ | 5, _ | 6, _ | 7, _ | 8, _ | 9, _ => decide +kernel
/-- The status of cat is 1 just if it complained. -/
theorem catS_st (L : List ByteArray) (R : Nat → Bz × Nat) : ∀ k, (catS nCat L R k).1 = if (catS nCat L R k).2.2 = [] then 0 else 1
  | 0 => rfl
  | k + 1 => by
    have ih := catS_st L R k
    show (if (R k).2 = 0 then (catS nCat L R k).1 else 1) = if (if (R k).2 = 0 then (catS nCat L R k).2.2 else (catS nCat L R k).2.2 ++ (logB nCat (L.getD k ByteArray.empty) (R k).2).data.toList) = [] then 0 else 1
    generalize (catS nCat L R k).2.2 = ms at ih ⊢
    generalize (catS nCat L R k).1 = st at ih ⊢
    by_cases h : (R k).2 = 0
    · simp only [h, if_true]; exact ih
    · simp only [h, if_false]
      rw [if_neg]
      intro e
      have h2 := congrArg List.length e
      rw [List.length_append, dl] at h2
      unfold logB at h2
      simp only [ByteArray.size_append, List.length_nil] at h2
      have : nCat.size = 3 := rfl
      omega
/-- What cat has told behind k arguments, by the arguments alone. -/
def catA (ls : Nat → Bz) (gone : List Bool) (inb : Bz) (n k : Nat) : Int × Bz × Bz := catS nCat (catL n ++ [dash]) (catR ls gone inb n) k
theorem catA_gone {ls : Nat → Bz} {gone : List Bool} {inb : Bz} {n k : Nat} (h : k < n) (h10 : k < 10) (hg : gone.getD k false = true) :
    (catA ls gone inb n (k + 1)).2.1 = (catA ls gone inb n k).2.1 ∧ (catA ls gone inb n (k + 1)).2.2 = (catA ls gone inb n k).2.2 ++ ([99, 97, 116, 58, 32] ++ (fN k).data.toList ++ [58, 32, 101, 114, 114, 111, 114, 32, 54, 10]) := by
  have hR : catR ls gone inb n k = ([], 6) := by unfold catR; rw [if_pos h, if_pos hg]
  unfold catA
  constructor
  · show (catS _ _ _ k).2.1 ++ (catR ls gone inb n k).1 = _
    rw [hR]; exact List.append_nil _
  · show (if (catR ls gone inb n k).2 = 0 then _ else _) = _
    rw [hR, if_neg (by decide), catL_at n h, log_fN k h10]
theorem catA_there {ls : Nat → Bz} {gone : List Bool} {inb : Bz} {n k : Nat} (h : k < n) (hg : gone.getD k false = false) :
    (catA ls gone inb n (k + 1)).2.1 = (catA ls gone inb n k).2.1 ++ ls k ∧ (catA ls gone inb n (k + 1)).2.2 = (catA ls gone inb n k).2.2 := by
  have hR : catR ls gone inb n k = (ls k, 0) := by unfold catR; rw [if_pos h, hg]; rfl
  unfold catA
  constructor
  · show (catS _ _ _ k).2.1 ++ (catR ls gone inb n k).1 = _
    rw [hR]
  · show (if (catR ls gone inb n k).2 = 0 then _ else _) = _
    rw [hR, if_pos rfl]
theorem catA_end {ls : Nat → Bz} {gone : List Bool} {inb : Bz} {n : Nat} :
    (catA ls gone inb n (n + 1)).2.1 = (catA ls gone inb n n).2.1 ++ inb ∧ (catA ls gone inb n (n + 1)).2.2 = (catA ls gone inb n n).2.2 := by
  have hR : catR ls gone inb n n = (inb, 0) := by unfold catR; rw [if_neg (by omega)]
  unfold catA
  constructor
  · show (catS _ _ _ n).2.1 ++ (catR ls gone inb n n).1 = _
    rw [hR]
  · show (if (catR ls gone inb n n).2 = 0 then _ else _) = _
    rw [hR, if_pos rfl]
theorem catA_len {ls : Nat → Bz} {gone : List Bool} {inb : Bz} {n : Nat} {k : Nat} (hls : ∀ j < n, j < k → (ls j).length ≤ 200) (hin : inb.length ≤ 200) (hk : k ≤ n + 1) : (catA ls gone inb n k).2.1.length ≤ 2000 * k ∧ (catA ls gone inb n k).2.2.length ≤ 3000 * k := by
  refine catS_len nCat _ _ (by decide) k fun j hj => ?_
  by_cases hn : j < n
  · rw [catL_at n hn]
    refine ⟨?_, ?_, by rw [fN_size]; omega⟩
    · unfold catR; rw [if_pos hn]; split
      · simp
      · have := hls j hn hj; simp only; omega
    · unfold catR; rw [if_pos hn]; split <;> simp
  · have hjn : j = n := by omega
    subst hjn
    refine ⟨by unfold catR; rw [if_neg hn]; simp only; omega, by unfold catR; rw [if_neg hn]; simp, ?_⟩
    rw [List.getD_eq_getElem?_getD, List.getElem?_eq_getElem (by simp [catL_len]), catL_last]
    decide
/-- The tree behind k rounds of ToolsCat. -/
structure CatT (ls : Nat → Bz) (gone : List Bool) (k : Nat) (T : Vf.Tr) : Prop where
  root : ∃ r0, T [] = some r0 ∧ r0.file = false
  has : ∀ j, j < k → j < 10 → gone.getD j false = false → ∃ t, T [[102, UInt8.ofNat (48 + j)]] = some ⟨true, ls j, t⟩
  gone : ∀ j, j < k → j < 10 → gone.getD j false = true → T [[102, UInt8.ofNat (48 + j)]] = none
  free : ∀ j, k ≤ j → j < 10 → T [[102, UInt8.ofNat (48 + j)]] = none
theorem nm_inj {i j : Nat} (hi : i < 10) (hj : j < 10) (h : ([[102, UInt8.ofNat (48 + i)]] : Vf.Pth) = [[102, UInt8.ofNat (48 + j)]]) : i = j := by
  injection h with h _
  injection h with _ h
  injection h with h _
  have := congrArg UInt8.toNat h
  rw [UInt8.toNat_ofNat', UInt8.toNat_ofNat'] at this
  omega
theorem CatT.new (ls : Nat → Bz) (gone : List Bool) : CatT ls gone 0 Vf.newT :=
  ⟨⟨_, rfl, rfl⟩, fun j h => by omega, fun j h => by omega, fun j _ _ => rfl⟩
theorem CatT.skip {ls : Nat → Bz} {gone : List Bool} {k : Nat} {T : Vf.Tr} (h : CatT ls gone k T) (hg : gone.getD k false = true) : CatT ls gone (k + 1) T := by
  refine ⟨h.root, fun j hj h10 hf => ?_, fun j hj h10 hf => ?_, fun j hj h10 => h.free j (by omega) h10⟩
  · by_cases e : j = k
    · rw [e, hg] at hf; cases hf
    · exact h.has j (by omega) h10 hf
  · by_cases e : j = k
    · exact h.free j (by omega) h10
    · exact h.gone j (by omega) h10 hf
theorem CatT.put {ls : Nat → Bz} {gone : List Bool} {k : Nat} {T : Vf.Tr} (h : CatT ls gone k T) (hk : k < 10) (hg : gone.getD k false = false) (t : Int) : CatT ls gone (k + 1) (Vf.setF T [[102, UInt8.ofNat (48 + k)]] (some ⟨true, ls k, t⟩)) := by
  have other : ∀ j, j ≠ k → j < 10 → Vf.setF T [[102, UInt8.ofNat (48 + k)]] (some ⟨true, ls k, t⟩) [[102, UInt8.ofNat (48 + j)]] = T [[102, UInt8.ofNat (48 + j)]] := fun j hj h10 => Vf.setF_other _ _ (fun e => hj (nm_inj h10 hk e))
  refine ⟨?_, fun j hj h10 hf => ?_, fun j hj h10 hf => ?_, fun j hj h10 => ?_⟩
  · obtain ⟨r0, h1, h2⟩ := h.root
    exact ⟨r0, by rw [Vf.setF_other _ _ (by simp)]; exact h1, h2⟩
  · by_cases e : j = k
    · subst e; exact ⟨t, Vf.setF_same ..⟩
    · rw [other j e h10]; exact h.has j (by omega) h10 hf
  · by_cases e : j = k
    · rw [e, hg] at hf; cases hf
    · rw [other j e h10]; exact h.gone j (by omega) h10 hf
  · rw [other j (by omega) h10]; exact h.free j (by omega) h10
theorem fP_E (T : Vf.Tr) {k : Nat} (hk : k < 10) : Vf.findE T (fP k) = 0 := by rw [(fP_path k hk).2.1 T]; rfl
theorem CatT.pres0 {ls : Nat → Bz} {gone : List Bool} {n : Nat} {T : Vf.Tr} (h : CatT ls gone n T) {j : Nat} (hj : j < n) (h10 : j < 10) (hg : gone.getD j false = true) : Vf.presE T (fP j) = 6 := by
  unfold Vf.presE
  rw [if_neg (by rw [fP_E T h10]; decide), (fP_path j h10).1, h.gone j hj h10 hg]; rfl
/-- A file system and a row of arguments, side by side. -/
structure CatW (B : Nat) (w : World) (N f : Nat) (c : Vf.Cn) (T : Vf.Tr) (v : Value) (L : List ByteArray) : Prop where
  fs : ∃ F : Nat → Prop, Vf.Fs w B N f c T F ∧ (∀ j, F j → B ≤ j ∧ j < w.heap.size) ∧ ∀ g, v.ownBlock = some g → ¬ F g
  row : w.ownsRow B 9 1 v L.length (L.map .string)
  le : B ≤ w.heap.size
theorem fs_only {w w' : World} {B N f : Nat} {c : Vf.Cn} {T : Vf.Tr} {F X : Nat → Prop} (h : Vf.Fs w B N f c T F) (ho : Vf.Only X w w') (hx : ∀ k, X k → ¬ F k) : Vf.Fs w' B N f c T F := by
  obtain ⟨A, M, V, hT, hft, hr⟩ := h
  exact ⟨A, M, V, hT.only ho (fun k hk hf => hx k hk (hft k hf)), hft, hr⟩
theorem row9_only {w w' : World} {B n : Nat} {v : Value} {xs : List Value} (h : w.ownsRow B 9 1 v n xs) (hb : ∀ g, v.ownBlock = some g → g < w.heap.size → w'.heap[g]? = w.heap[g]?) : w'.ownsRow B 9 1 v n xs := by
  refine ⟨h.1, ?_⟩
  rcases h.2 with h1 | ⟨b, cap, cur, rfl, h2, h3, h4⟩
  · exact .inl h1
  · exact .inr ⟨b, cap, cur, rfl, h2, by rw [hb b rfl (Array.getElem?_eq_some_iff.1 h3).1]; exact h3, h4⟩
theorem CatW.new {B : Nat} {w : World} {f : Nat} {c : Vf.Cn} (h : Vf.Sx B w 0 f c Vf.newT) : CatW B w 0 f c Vf.newT (.slice none 0 0) [] := by
  obtain ⟨⟨F, h1, h2⟩, h3⟩ := h
  exact ⟨⟨F, h1, h2, fun g hg => by cases hg⟩, World.ownsRow_nil _ _ _ _, h3⟩
theorem CatW.below {B : Nat} {w w' : World} {N f : Nat} {c : Vf.Cn} {T : Vf.Tr} {v : Value} {L : List ByteArray} (h : CatW B w N f c T v L) (hb : Below w.heap.size w w') : CatW B w' N f c T v L := by
  obtain ⟨⟨F, h1, h2, h3⟩, h4, h5⟩ := h
  exact ⟨⟨F, h1.below hb, fun j hj => ⟨(h2 j hj).1, Nat.lt_of_lt_of_le (h2 j hj).2 hb.size⟩, h3⟩, row9_only h4 (fun g _ hg => hb.block g hg), Nat.le_trans h5 hb.size⟩
/-- One more argument. -/
theorem CatW.push {B : Nat} {w : World} {N f : Nat} {c : Vf.Cn} {T : Vf.Tr} {v : Value} {L : List ByteArray} (h : CatW B w N f c T v L) (hL : L.length ≤ 900) (x : ByteArray) :
    ∃ a n' c' w', (Builtin.append_ #[22, 22] 22 #[v, .slice (some ⟨w.heap.size, 0, none⟩) 1 1]).run Tryz.prog (w.alloc (.cells #[.string x] 9)) = .ok (.slice a n' c') w' ∧ n' = L.length + 1 ∧ CatW B w' N f c T (.slice a n' c') (L ++ [x]) ∧ Below B w w' := by
  obtain ⟨⟨F, h1, h2, h3⟩, h4, h5⟩ := h
  have hw0 : Below w.heap.size w (w.alloc (.cells #[.string x] 9)) := (Below.refl _ _).alloc (Nat.le_refl _) _
  have h4' : (w.alloc (.cells #[.string x] 9)).ownsRow B 9 1 v L.length (L.map .string) := row9_only h4 (fun g _ hg => hw0.block g hg)
  have hc : (w.alloc (.cells #[.string x] 9)).cell? ⟨w.heap.size, 0, none⟩ = some (.string x) := by
    simp only [World.cell?, heap_alloc_new w]; rfl
  have hT : Txt (w.alloc (.cells #[.string x] 9)) (.slice (some ⟨w.heap.size, 0, none⟩) 1 1) [x] := ⟨_, 1, rfl, fun i hi => by
    refine ⟨w.heap.size, 0, rfl, by simp, ?_⟩
    match i, hi with
    | 0, _ => exact hc⟩
  obtain ⟨v', w', hrun, r1, r2⟩ := app_strs h4' hT (by simp; omega) (Nat.le_trans h5 hw0.size)
  have r3 := Vf.append_where h4' hc rfl (by omega) hrun
  obtain ⟨a, c', rfl, _⟩ := own_slice r1
  have hO : Vf.Only (fun k => v.ownBlock = some k) w w' :=
    (Vf.Only.of_below (S := fun k => v.ownBlock = some k) hw0).trans (Vf.Only.of_grown (S := fun k => v.ownBlock = some k) r2 (fun k hk => hk)) (fun _ e => e) (fun _ _ e => e)
  refine ⟨a, _, c', w', hrun, rfl, ⟨⟨F, fs_only h1 hO h3, fun j hj => ⟨(h2 j hj).1, Nat.lt_of_lt_of_le (h2 j hj).2 hO.size⟩, fun g hg hF => ?_⟩, ?_, Nat.le_trans h5 hO.size⟩, hO.below (fun k hk => (h4.lt k hk).1) h5⟩
  · rcases r3 with e | e
    · exact h3 g (e ▸ hg) hF
    · rw [e] at hg
      injection hg with hg
      have := (h2 g hF).2
      have := hw0.size
      omega
  · simpa using r1
/-- A file is written beside the arguments. -/
theorem CatW.write {B : Nat} {w : World} {N f : Nat} {c : Vf.Cn} {T : Vf.Tr} {v : Value} {L : List ByteArray} (h : CatW B w N f c T v L) (p : ByteArray) (hp : Vf.PathOk p) (hE : Vf.findE T p = 0) (hn : T (Vf.findL p) = none) (hc : c.Ok) (hN : N < maxLen) (bl : Bz) (u : Value) (hb : Vf.Bin w u bl) (hba : ∀ g, 0 < bl.length → u.ownBlock = some g → g < B) (hbl : bl.length ≤ 1000000) (hfull : ¬ c.nodes ≤ c.count) (hroom : ¬ c.bytes - c.size < bl.length) :
    Calls Tryz.prog 17 #[.pointer (some ⟨f, 0, none⟩), .string p, u, .bool false] w fun e w' => e = .returned (.int .i64 0) ∧ CatW B w' (N + 1) f { c with count := c.count + 1, size := c.size + bl.length, clock := c.clock + 1 } (Vf.setF T (Vf.findL p) (some ⟨true, bl, c.clock + 1⟩)) v L ∧ Below B w w' := by
  obtain ⟨⟨F, h1, h2, h3⟩, h4, h5⟩ := h
  obtain ⟨ba, bc, rfl, hcell⟩ := hb
  refine (Vf.Write_new w p false h1 hp hc hN h5 hE hn bl ba bc ⟨ba, bc, rfl, hcell⟩ (fun a ha h0 hF => by
    have := (h2 _ hF).1
    have := hba a.block h0 (by rw [ha]; rfl)
    omega) hbl hfull hroom).mono ?_
  intro e w' hm
  obtain ⟨e1, e2, e3⟩ := Vf.MutP.fs hm
  refine ⟨e1, ⟨⟨_, e2, fun j hj => ⟨?_, hj.2⟩, fun g hg hF => ?_⟩, row9_only h4 (fun g hg hl => e3.block g hl (h3 g hg)), Nat.le_trans h5 e3.size⟩, e3.below (fun k hk => (h2 k hk).1) h5⟩
  · rcases hj.1 with h | h
    · exact (h2 j h).1
    · exact Nat.le_trans h5 h
  · rcases hF.1 with h | h
    · exact h3 g hg h
    · have := (h4.lt g hg).2; omega
theorem CatW.sx {B : Nat} {w : World} {N f : Nat} {c : Vf.Cn} {T : Vf.Tr} {v : Value} {L : List ByteArray} (h : CatW B w N f c T v L) : Vf.Sx B w N f c T := by
  obtain ⟨⟨F, h1, h2, h3⟩, h4, h5⟩ := h
  exact ⟨⟨F, h1, h2⟩, h5⟩
theorem CatW.txt {B : Nat} {w : World} {N f : Nat} {c : Vf.Cn} {T : Vf.Tr} {v : Value} {L : List ByteArray} (h : CatW B w N f c T v L) : Txt w v L := by
  rcases h.row.2 with ⟨h1, h0⟩ | ⟨b, cap, cur, rfl, h2, h3, h4⟩
  · exact ⟨none, 0, by rw [h0]; exact h1, fun i hi => by omega⟩
  · refine ⟨_, cap, rfl, fun i hi => ⟨b, 0, rfl, (Array.getElem?_eq_some_iff.1 h3).1, ?_⟩⟩
    have := h.row.cells (g := b) rfl i (.string L[i]) (by simp [hi])
    rwa [addn] at this
theorem Bss.below {w w' : World} {v : Value} {n : Nat} {ls : Nat → Bz} (h : Bss w v n ls) (hb : Below w.heap.size w w') : ∃ a c, v = .slice a n c ∧ ∀ i, i < n → ∃ b off u, a = some ⟨b, off, none⟩ ∧ w'.cell? ⟨b, off + i, none⟩ = some u ∧ Vf.Bin w' u (ls i) ∧ ∀ g, 0 < (ls i).length → u.ownBlock = some g → g < w.heap.size := by
  obtain ⟨a, c, h1, h2⟩ := h.form
  refine ⟨a, c, h1, fun i hi => ?_⟩
  obtain ⟨b, off, u, e1, e2, e3, e4, e5, e6⟩ := h2 i hi
  refine ⟨b, off, u, e1, (hb.cell (p := ⟨b, _, none⟩) e2).trans e3, ?_, ?_⟩
  · obtain ⟨ua, uc, hu, hcell⟩ := e4
    refine ⟨ua, uc, hu, fun j hj => ?_⟩
    obtain ⟨g, o, k1, k2, k3⟩ := hcell j hj
    exact ⟨g, o, k1, Nat.lt_of_lt_of_le k2 hb.size, (hb.cell (p := ⟨g, _, none⟩) k2).trans k3⟩
  · intro g h0 hg
    obtain ⟨ua, uc, rfl, hcell⟩ := e4
    obtain ⟨g', o, rfl, k2, k3⟩ := hcell 0 h0
    injection hg with hg
    exact hg ▸ k2
end Go.Proofs.YtcmjpkfinbakkaaGreatDoor
