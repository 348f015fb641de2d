import Derived.Test.YthbemfpoanmjcaaDoorAB
namespace Go.Proofs.YthbemfpoanmjcaaDoor
set_option linter.unusedVariables false

/-! Words with blanks between, and what an exchange makes of them. -/
def isL (c : UInt8) : Bool := (decide (97 ≤ c.toNat) && decide (c.toNat ≤ 122)) || decide (c.toNat = 46)
def Gd (x : ByteArray) : Prop := 0 < x.size ∧ x.size ≤ 40 ∧ ∀ c ∈ x.data.toList, isL c = true
theorem isL_ne {c : UInt8} (h : isL c = true) (d : UInt8) (hd : isL d = false) : c ≠ d := by
  rintro rfl; rw [h] at hd; exact absurd hd (by decide)
theorem Gd.no {x : ByteArray} (h : Gd x) {d : UInt8} (hd : isL d = false) : d ∉ x.data.toList := fun hm => isL_ne (h.2.2 _ hm) d hd rfl
theorem listB_no {d : UInt8} (hd : isL d = false) (h32 : d ≠ 32) : ∀ {l : List ByteArray}, (∀ x ∈ l, Gd x) → d ∉ listB l
  | [], _ => by simp [listB]
  | [x], h => (h x (by simp)).no hd
  | x :: y :: l, h => by
    intro hm
    have hm' : d ∈ x.data.toList ++ 32 :: listB (y :: l) := hm
    rcases List.mem_append.1 hm' with h1 | h1
    · exact (h x (by simp)).no hd h1
    · rcases List.mem_cons.1 h1 with h2 | h2
      · exact h32 h2
      · exact listB_no hd h32 (fun z hz => h z (List.mem_cons_of_mem _ hz)) h2
theorem sep_isL {c : UInt8} (h : isL c = true) : sepR c.toNat = false := by
  unfold isL at h
  simp only [Bool.or_eq_true, Bool.and_eq_true, decide_eq_true_iff] at h
  exact sepR_big (by omega) (by omega)
theorem get_drop {s : ByteArray} {i : Nat} {b : UInt8} {t : Bs} (h : s.data.toList.drop i = b :: t) : i < s.size ∧ s.get! i = b ∧ s.data.toList.drop (i + 1) = t := by
  have hi : i < s.data.toList.length := by
    refine Nat.lt_of_not_le fun hle => ?_
    rw [List.drop_eq_nil_of_le hle] at h; cases h
  rw [List.drop_eq_getElem_cons hi] at h
  injection h with h1 h2
  have hi' : i < s.size := by rw [← dl s]; exact hi
  refine ⟨hi', ?_, h2⟩
  rw [← h1]
  have hi2 : i < s.data.size := by simpa using hi
  show s.data[i]! = _
  rw [getElem!_pos s.data i hi2]
  exact (Array.getElem_toList hi2).symm
theorem sep_drop {s : ByteArray} {i : Nat} {b : UInt8} {t : Bs} (h : s.data.toList.drop i = b :: t) : sepAt s i = sepR b.toNat := by
  unfold sepAt; rw [(get_drop h).2.1]
theorem word_on {s : ByteArray} {SP acc : List (Nat × Nat)} {fr : Nat} : ∀ (x : Bs) (t : Bs) (i : Nat), (∀ c ∈ x, isL c = true) → s.data.toList.drop i = x ++ t → AtW s SP i fr acc → AtW s SP (i + x.length) fr acc ∧ s.data.toList.drop (i + x.length) = t
  | [], t, i, _, hd, h => ⟨h, hd⟩
  | c :: x, t, i, hx, hd, h => by
    have hg := get_drop (t := x ++ t) hd
    have h2 := word_on x t (i + 1) (fun z hz => hx z (List.mem_cons_of_mem _ hz)) hg.2.2 (h.on hg.1 (by rw [sep_drop (t := x ++ t) hd]; exact sep_isL (hx c (by simp))))
    rw [show i + (c :: x).length = i + 1 + x.length by rw [List.length_cons]; omega]
    exact h2
theorem ex_word {s x : ByteArray} {i : Nat} {t : Bs} (hd : s.data.toList.drop i = x.data.toList ++ t) (hi : i ≤ s.size) : s.extract i (i + x.data.toList.length) = x := by
  have hl := congrArg List.length hd
  rw [List.length_drop, List.length_append, dl] at hl
  refine ba_ext ?_
  rw [(ext_dt (t := s) (a := i) (b := i + x.data.toList.length) (by omega) (by omega)).1, List.drop_take, hd, Nat.add_sub_cancel_left, List.take_left]
theorem one_word {s x : ByteArray} {SP acc : List (Nat × Nat)} {i : Nat} {t : Bs} (hx : Gd x) (h : AtW s SP i i acc) (hd : s.data.toList.drop i = x.data.toList ++ 32 :: t) :
    ∃ j, AtW s SP j j (acc ++ [(i, i + x.data.toList.length)]) ∧ s.data.toList.drop j = t ∧ s.extract i (i + x.data.toList.length) = x ∧ j ≤ s.size := by
  have h0 : i ≤ s.size := by
    refine Nat.le_of_not_lt fun hlt => ?_
    rw [List.drop_eq_nil_of_le (by rw [dl]; omega)] at hd
    have := congrArg List.length hd
    simp at this
  obtain ⟨h1, h2⟩ := word_on x.data.toList (32 :: t) i hx.2.2 hd h
  have hg := get_drop h2
  have hxs : 0 < x.data.toList.length := by rw [dl]; exact hx.1
  exact ⟨_, h1.word hg.1 (by rw [sep_drop h2]; rfl) (by omega), hg.2.2, ex_word hd h0, hg.1⟩
theorem list_walk {s : ByteArray} {SP : List (Nat × Nat)} : ∀ (l : List ByteArray) (i : Nat) (acc : List (Nat × Nat)), l ≠ [] → (∀ x ∈ l, Gd x) → AtW s SP i i acc → s.data.toList.drop i = listB l ++ [32] →
    SP.map (fun z => s.extract z.1 z.2) = acc.map (fun z => s.extract z.1 z.2) ++ l
  | [], _, _, h, _, _, _ => absurd rfl h
  | [x], i, acc, _, hx, h, hd => by
    obtain ⟨j, h1, h2, h3, h4⟩ := one_word (t := []) (hx x (by simp)) h hd
    have hj : j = s.size := by
      have := congrArg List.length h2
      rw [List.length_drop, dl, List.length_nil] at this; omega
    subst hj
    have := h1.last
    rw [if_neg (by omega)] at this
    rw [this, List.map_append, List.map_singleton, h3]
  | x :: y :: l, i, acc, _, hx, h, hd => by
    have hd' : s.data.toList.drop i = x.data.toList ++ 32 :: (listB (y :: l) ++ [32]) := by rw [hd]; show (x.data.toList ++ 32 :: listB (y :: l)) ++ [32] = _; simp
    obtain ⟨j, h1, h2, h3, h4⟩ := one_word (hx x (by simp)) h hd'
    rw [list_walk (y :: l) j _ (by simp) (fun z hz => hx z (List.mem_cons_of_mem _ hz)) h1 h2, List.map_append, List.map_singleton, h3]
    simp
theorem words_list {s : ByteArray} {l : List ByteArray} (hl : ∀ x ∈ l, Gd x) (hs : s.data.toList = 32 :: (listB l ++ [32])) : wordsB s = l := by
  have h0 := AtW.start s
  have hd : s.data.toList.drop 0 = 32 :: (listB l ++ [32]) := by rw [List.drop_zero, hs]
  have hg := get_drop hd
  have h1 := h0.skip hg.1 (by rw [sep_drop hd]; rfl) (by omega)
  unfold wordsB
  rw [Nat.zero_add] at h1 hg
  cases l with
  | nil =>
    have hd2 : s.data.toList.drop 1 = 32 :: [] := hg.2.2
    have hg2 := get_drop hd2
    have h2 := h1.skip hg2.1 (by rw [sep_drop hd2]; rfl) (by omega)
    have hj : 1 + 1 = s.size := by
      have := congrArg List.length hs
      rw [dl] at this; simpa [listB] using this.symm
    rw [hj] at h2
    have := h2.last
    rw [if_neg (by omega)] at this
    rw [this]; rfl
  | cons x l =>
    have := list_walk (x :: l) 1 [] (by simp) hl h1 hg.2.2
    simpa using this
/-! The exchange. -/
theorem fm_congr {f g : ByteArray → Bs} : ∀ (l : List ByteArray), (∀ y ∈ l, f y = g y) → l.flatMap f = l.flatMap g
  | [], _ => rfl
  | y :: l, h => by
    rw [List.flatMap_cons, List.flatMap_cons, h y (by simp), fm_congr l fun z hz => h z (List.mem_cons_of_mem _ hz)]
theorem swapL_flat {fr tt : Bs} : ∀ (ws : List Bs) (out : Bs), out.length + 101 * ws.length ≤ 16384 → (∀ x ∈ ws, (oneF fr tt x).length ≤ 100) → swapL fr tt ws false out = out ++ ws.flatMap fun x => 32 :: oneF fr tt x
  | [], out, _, _ => by simp [swapL]
  | x :: ws, out, h, hx => by
    have h1 := hx x (by simp)
    rw [List.length_cons] at h
    rw [swapL, if_neg (by omega), swapL_flat ws _ (by simp; omega) (fun z hz => hx z (List.mem_cons_of_mem _ hz))]
    simp
theorem listB_flat (x : ByteArray) : ∀ (l : List ByteArray), listB (x :: l) = x.data.toList ++ l.flatMap fun z => 32 :: z.data.toList
  | [] => by simp [listB]
  | y :: l => by
    show x.data.toList ++ 32 :: listB (y :: l) = _
    rw [listB_flat y l]; simp
theorem swapF_list {V fr tt : Bs} {l : List ByteArray} {f : ByteArray → ByteArray} (hl : ∀ x ∈ l, Gd x) (hn : l.length ≤ 100) (hV : V = 32 :: (listB l ++ [32])) (hf : ∀ x ∈ l, (f x).data.toList = oneF fr tt x.data.toList) (hs : ∀ x ∈ l, (f x).size ≤ 100) :
    swapF V fr tt = listB (l.map f) := by
  unfold swapF
  rw [words_list hl (s := ⟨V.toArray⟩) (by rw [← hV])]
  cases l with
  | nil => rfl
  | cons x l =>
    rw [List.map_cons, List.map_cons, listB_flat]
    have h1 := hs x (by simp)
    rw [← dl, hf x (by simp)] at h1
    rw [List.length_cons] at hn
    rw [swapL, if_neg (by simp), swapL_flat _ _ (by simp; omega) (fun z hz => by
      obtain ⟨y, hy, rfl⟩ := List.mem_map.1 hz
      rw [← hf y (List.mem_cons_of_mem _ hy), dl]; exact hs y (List.mem_cons_of_mem _ hy))]
    rw [hf x (by simp), if_pos rfl, List.nil_append, List.nil_append, List.flatMap_map, List.flatMap_map]
    congr 1
    exact fm_congr l fun y hy => by rw [hf y (List.mem_cons_of_mem _ hy)]
end Go.Proofs.YthbemfpoanmjcaaDoor
