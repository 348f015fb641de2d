import Derived.Test.YthbemfpoanmjcaaDoorK
namespace Go.Proofs.YthbemfpoanmjcaaDoor
open Go.RowKit
set_option linter.unusedVariables false

theorem scan_le (o c : UInt8) : ∀ (t : Bs) (i : Nat) (k : Int), scanR o c t i k ≤ i + t.length ∧ (scanR o c t i k ≠ 0 → i + 1 ≤ scanR o c t i k)
  | [], i, k => ⟨by simp [scanR], fun h => absurd rfl h⟩
  | b :: t, i, k => by
    rw [scanR]
    split
    · have h := scan_le o c t (i + 1) (k + 1)
      exact ⟨by rw [List.length_cons]; omega, fun h0 => by have := h.2 h0; omega⟩
    · split
      · split
        · exact ⟨by rw [List.length_cons]; omega, fun _ => Nat.le_refl _⟩
        · have h := scan_le o c t (i + 1) (k - 1)
          exact ⟨by rw [List.length_cons]; omega, fun h0 => by have := h.2 h0; omega⟩
      · have h := scan_le o c t (i + 1) k
        exact ⟨by rw [List.length_cons]; omega, fun h0 => by have := h.2 h0; omega⟩
theorem ref_bounds (s : Bs) (h : 2 ≤ s.length) : refN s ≤ s.length ∧ (refN s ≠ 0 → 2 ≤ refN s) := by
  have key : ∀ o c, scanR o c (s.drop 1) 1 0 ≤ s.length ∧ (scanR o c (s.drop 1) 1 0 ≠ 0 → 2 ≤ scanR o c (s.drop 1) 1 0) := fun o c => by
    have := scan_le o c (s.drop 1) 1 0
    rw [List.length_drop] at this
    exact ⟨by omega, fun h0 => by have := this.2 h0; omega⟩
  unfold refN
  split
  · exact key _ _
  · split
    · exact key _ _
    · exact ⟨h, fun _ => Nat.le_refl _⟩
theorem index_lt {s : Bs} {z : Int} (h : Lib.indexByte s 36 = z) : -1 ≤ z ∧ z < s.length := by
  have : ∀ s : Bs, -1 ≤ Lib.indexByte s 36 ∧ Lib.indexByte s 36 < s.length := by
    intro s
    induction s with
    | nil => exact ⟨by decide, by decide⟩
    | cons c t ih =>
      rw [Lib.indexByte]
      split
      · simp only [List.length_cons]; omega
      · split
        · simp only [List.length_cons]; omega
        · simp only [List.length_cons]; omega
  rw [← h]; exact this s
theorem swapL_len (fr tt : Bs) : ∀ (L : List Bs) (first : Bool) (out : Bs), (∀ w ∈ L, w.length ≤ 300000) → tt.length ≤ 16384 → out.length ≤ 400000 → (swapL fr tt L first out).length ≤ 400000
  | [], _, out, _, _, h => h
  | w :: r, first, out, hw, ht, h => by
    rw [swapL]
    split
    · exact h
    · have h1 := one_len fr tt w
      have h2 := hw w (by simp)
      refine swapL_len fr tt r false _ (fun x hx => hw x (List.mem_cons_of_mem _ hx)) ht ?_
      rw [List.length_append, List.length_append]
      have h3 : (if first = true then ([] : Bs) else [32]).length ≤ 1 := by split <;> simp
      omega
theorem refer_len {l au : Prs} (hau : ∀ p ∈ au, p.2.size ≤ 300000) {d : Nat} {op : List Bs} {s : Bs} {c : Nat} : (referF (bsl l) (bsl au) (expandF (bsl l) (bsl au) d) op s c).1.1.length ≤ 400000 := by
  unfold referF
  split
  · exact Nat.zero_le _
  · split
    · exact Nat.le_trans (value_len hau) (by decide)
    · obtain ⟨⟨⟨i, e⟩, c1⟩, hE⟩ : ∃ r, expandF (bsl l) (bsl au) d op ((s.take (s.length - 1)).drop 1) (c + 1) = r := ⟨_, rfl⟩
      have hl := expand_len (bsl l) (bsl au) d op ((s.take (s.length - 1)).drop 1) (c + 1)
      rw [hE] at hl ⊢
      dsimp only at hl ⊢
      split
      · exact Nat.zero_le _
      · split
        · exact Nat.le_trans (value_len hau) (by decide)
        · have h1 := cut_le i [58]
          have h2 := cut_le (Lib.cut i [58]).2.1 [61]
          have h3 := value_len (l := l) hau (d := d) (op := op) (nm := (Lib.cut i [58]).1) (c := c1)
          unfold swapF
          refine swapL_len _ _ _ _ _ (fun w hw => ?_) (Nat.le_trans h2.2 (Nat.le_trans h1.2 hl)) (Nat.zero_le _)
          obtain ⟨x, hx, rfl⟩ := List.mem_map.1 hw
          have h4 := words_le _ x hx
          rw [dl]
          exact Nat.le_trans (Nat.le_trans h4 (Nat.le_of_eq (sz_mk _))) h3
/-- An expansion under way. -/
structure Pc (B eb : Nat) (w wx : World) (lv av : Value) (l au : Prs) (c : Nat) (op : List ByteArray) (out : Bs) : Prop where
  ex : Ex B eb wx lv av l au c op
  bd : Bd w.heap.size wx w.heap.size out
  kp : Kp B eb w wx
  lt : eb < w.heap.size
section
variable {B eb : Nat} {w wx wy : World} {lv av : Value} {l au : Prs} {c : Nat} {op : List ByteArray} {out : Bs}
theorem Pc.hB (h : Pc B eb w wx lv av l au c op out) : B ≤ w.heap.size := Nat.le_trans h.ex.le (Nat.le_of_lt h.lt)
theorem Pc.sz (h : Pc B eb w wx lv av l au c op out) : w.heap.size ≤ wx.heap.size := by have := h.kp.bl.size; exact this
theorem Pc.put {out2 : Bs} (h : Pc B eb w wx lv av l au c op out) (hb : Below w.heap.size wx wy) (hk : Lib.OthersKept 5 (some w.heap.size) wx wy) (hd : Bd w.heap.size wy w.heap.size out2) : Pc B eb w wy lv av l au c op out2 :=
  ⟨h.ex.write hb hk h.lt h.hB h.bd.blk, hd, h.kp.step hb h.hB, h.lt⟩
theorem Pc.ref {c2 : Nat} (h : Pc B eb w wx lv av l au c op out) (he : Ex B eb wy lv av l au c2 op) (hk : Kp B eb wx wy) : Pc B eb w wy lv av l au c2 op out :=
  ⟨he, h.bd.kp (B := B) hk.ok h.lt, h.kp.trans hk, h.lt⟩
theorem Pc.start (he : Ex B eb w lv av l au c op) : Pc B eb w (w.alloc (.cells #[.pointer none, .slice none 0 0] 60)) lv av l au c op [] := by
  have hb : Below w.heap.size w (w.alloc (.cells #[.pointer none, .slice none 0 0] 60)) := (Below.refl _ _).alloc (Nat.le_refl _) _
  exact ⟨he.below hb, Bd.new w, Kp.of_below hb (Nat.le_trans he.le (Nat.le_of_lt he.lt)), he.lt⟩
theorem Pc.write (h : Pc B eb w wx lv av l au c op out) (s : ByteArray) (hl : out.length + s.size ≤ 10000000) :
    Calls Tryd.prog 29 #[.pointer (some ⟨w.heap.size, 0, none⟩), .string s] wx fun e w' => e = .returned (.tuple #[.int .i64 s.size, .nilIface]) ∧ Pc B eb w w' lv av l au c op (out ++ s.data.toList) :=
  Calls.mono (h.bd.write h.sz s hl) fun e w' ⟨h1, h2, h3, h4⟩ => ⟨h1, h.put h3 h4 h2⟩
theorem Pc.byte (h : Pc B eb w wx lv av l au c op out) (hl : out.length ≤ 10000000) :
    Calls Tryd.prog 30 #[.pointer (some ⟨w.heap.size, 0, none⟩), .int .u8 36] wx fun e w' => e = .returned .nilIface ∧ Pc B eb w w' lv av l au c op (out ++ [36]) :=
  Calls.mono (h.bd.byte h.sz 36 hl) fun e w' ⟨h1, h2, h3, h4⟩ => ⟨h1, h.put h3 h4 h2⟩
theorem Pc.str (h : Pc B eb w wx lv av l au c op out) :
    Calls Tryd.prog 34 #[.pointer (some ⟨w.heap.size, 0, none⟩)] wx fun e w' => e = .returned (.string ⟨out.toArray⟩) ∧ Ex B eb w' lv av l au c op ∧ Kp B eb w w' :=
  Calls.mono (Tryd.Builder_String_any_k w.heap.size w.heap.size out wx (Lib.IsBuilderF.of h.bd.bd) h.sz) fun e w' ⟨h1, h2, h3, h4⟩ => ⟨h1, h.ex.write h3 h4 h.lt h.hB h.bd.blk, h.kp.step h3 h.hB⟩
end
theorem take_ext {s : ByteArray} {a : Nat} (h : a ≤ s.size) : (s.extract 0 a).data.toList = s.data.toList.take a ∧ (s.extract 0 a).size = a := by
  have := ext_dt (t := s) (Nat.zero_le a) h
  exact ⟨by rw [this.1]; rfl, by rw [this.2]; omega⟩
theorem drop_ext {s : ByteArray} {a : Nat} (h : a ≤ s.size) : (s.extract a s.size).data.toList = s.data.toList.drop a ∧ (s.extract a s.size).size = s.size - a := by
  have := ext_dt (t := s) h (Nat.le_refl _)
  exact ⟨by rw [this.1, List.take_of_length_le (by rw [dl]; exact Nat.le_refl _)], this.2⟩
def szOf : Value → Nat | .string s => s.size | _ => 0
set_option maxRecDepth 100000 in
set_option maxHeartbeats 16000000 in
theorem expand_walk (B eb : Nat) (lv av : Value) (l au : Prs) (rf : Bs → Nat → R) (ne : Nat) (hne : ne ≤ 40) (op : List ByteArray)
    (HR : ∀ (w : World) (cnt : Nat) (s : ByteArray), Ex B eb w lv av l au cnt op → cnt ≤ 10000 → 1 ≤ s.size → s.size ≤ 16384 → Calls Tryd.prog 33 #[.pointer (some ⟨eb, 0, none⟩), .string s, .int .i64 ((ne : Int) + 1)] w (EP B eb w lv av l au op (rf s.data.toList cnt)))
    (hok : ∀ s c, c ≤ 10000 → OKc (rf s c)) (hln : ∀ s c, (rf s c).1.1.length ≤ 400000)
    (w : World) (cnt : Nat) (s : ByteArray) (hE : Ex B eb w lv av l au cnt op) (hc : cnt ≤ 10000) :
    Calls Tryd.prog 23 #[.pointer (some ⟨eb, 0, none⟩), .string s, .int .i64 ne] w (EP B eb w lv av l au op (if 16384 < s.data.toList.length then (([], 3), cnt) else piecesF rf (s.data.toList.length + 1) s.data.toList [] cnt)) := by
  by_cases hbig : 16384 < s.size
  · have hbd : decide ((16384 : Int) < (s.size : Int)) = true := decide_eq_true (by omega)
    rw [if_pos (by rw [dl]; exact hbig)]
    have HEND : Hid (EP B eb w lv av l au op (([], 3), cnt) (.returned (.tuple #[.string ⟨#[]⟩, .int .i64 3])) w) := EP.mk (t := ⟨#[]⟩) rfl hE (Kp.refl _ _ _)
    clear hE HR
    go_enter Tryd.func23, Tryd.ntmps23
    go_wp2_with fail
    refine wp_scope_straight ?_
    go_wp2_with fail
    try simp +zetaDelta only [Exit.noGoto_ret]
    go_ret2
    exact HEND.out
  have hbd : decide ((16384 : Int) < (s.size : Int)) = false := decide_eq_false (by omega)
  rw [if_neg (by rw [dl]; exact hbig)]
  obtain ⟨G, hG⟩ : ∃ G, piecesF rf (s.data.toList.length + 1) s.data.toList [] cnt = G := ⟨_, rfl⟩
  rw [hG]
  have HG := Lib.hid hG
  have HRF := Lib.hid HR
  have HOK := Lib.hid hok
  have HLN := Lib.hid hln
  have HPC := Lib.hid (Pc.start hE)
  have hbn : IntKind.i64.wrap ((ne : Int) + 1) = (ne : Int) + 1 := IntWalk.i64_in _ (by omega)
  have hs16 : s.size ≤ 16384 := by omega
  have hsl : s.data.toList.length = s.size := dl s
  rw [hsl] at HG
  clear hE HR hG hok hln hbig hsl
  go_enter Tryd.func23, Tryd.ntmps23
  go_wp2_with fail
  refine wp_scope_straight ?_
  go_wp2_with fail
  refine wp_label ?_
  go_wp2_with fail
  go_loopw [1] (fun y wx => ∃ (f : Nat) (s2 : ByteArray) (out : Bs) (c : Nat), y = .string s2 ∧ s2.size < f ∧ s2.size ≤ 16384 ∧ out.length + s2.size ≤ 800000 ∧ c ≤ 10000 ∧ Hid (Pc B eb w wx lv av l au c op out) ∧ Hid (piecesF rf f s2.data.toList out c = G)) (fun y _ => szOf y)
  case atStart => exact ⟨s.size + 1, s, [], cnt, rfl, by omega, hs16, by simp; omega, hc, HPC.out, HG.out⟩
  case round =>
    obtain ⟨f, s2, out, c, rfl, hf, hs2, hol, hcc, HP, HE⟩ := hrel
    obtain ⟨f, rfl⟩ : ∃ f1, f = f1 + 1 := ⟨f - 1, by omega⟩
    have hib : Calls Tryd.prog 28 #[.string s2, .int .u8 36] wr fun e w' => e = .returned (.int .i64 (Lib.indexByte s2.data.toList 36)) ∧ w' = wr := Tryd.strings_IndexByte s2 36 wr
    obtain ⟨z, hz⟩ : ∃ z, Lib.indexByte s2.data.toList 36 = z := ⟨_, rfl⟩
    rw [hz] at hib
    have hzb := index_lt hz
    rw [dl] at hzb
    have HIB := Lib.hid hib
    have HZ := Lib.hid hz
    have hbm : IntKind.i64.wrap ((s2.size : Int) - 1) = (s2.size : Int) - 1 := IntWalk.i64_in _ (by omega)
    clear hib hz
    by_cases hz0 : z < 0
    · have hzd : decide (z < 0) = true := decide_eq_true hz0
      skip
      have HGF : Hid (fin3 (out ++ s2.data.toList) c = G) := by
        rw [Hid, ← HE.out]
        exact (piecesF_end (by rw [HZ.out, dl]; omega)).symm
      have HWR := Lib.hid (HP.out.write s2 (by omega))
      go_wp2_with (first
        | (go_at_call 28; refine HIB.out.mono ?_; rintro e w5 ⟨rfl, h5⟩; obtain rfl := h5.symm; simp only [])
        | (go_at_call 29; refine HWR.out.mono ?_; rintro e w6 ⟨rfl, h6⟩; have HP6 := Lib.hid h6; clear h6; simp only []))
      have HLE := Lib.hid HP6.out.bd.len
      have HST := Lib.hid HP6.out.str
      by_cases hlo : 16384 < (out ++ s2.data.toList).length
      · have hld : decide ((16384 : Int) < (((out ++ s2.data.toList).length : Nat) : Int)) = true := decide_eq_true (by omega)
        obtain ⟨ol, hol9⟩ : ∃ ol, (out ++ s2.data.toList).length = ol := ⟨_, rfl⟩
        rw [hol9] at hld HLE
        have HEND : Hid (EP B eb w lv av l au op G (.returned (.tuple #[.string ⟨#[]⟩, .int .i64 3])) _) := EP.mk (t := ⟨#[]⟩) (by rw [← HGF.out]; unfold fin3; rw [if_pos hlo]) HP6.out.ex HP6.out.kp
        clear hol9
        go_wp2_with (go_at_call 31; refine HLE.out.mono ?_; rintro e w8 ⟨rfl, h8⟩; obtain rfl := h8.symm; simp only [])
        try simp +zetaDelta only [Exit.noGoto_ret]
        go_ret2
        exact HEND.out
      · have hld : decide ((16384 : Int) < (((out ++ s2.data.toList).length : Nat) : Int)) = false := decide_eq_false (by omega)
        obtain ⟨ol, hol9⟩ : ∃ ol, (out ++ s2.data.toList).length = ol := ⟨_, rfl⟩
        rw [hol9] at hld HLE
        have HEF : Hid (∀ w', Ex B eb w' lv av l au c op → Kp B eb w w' → EP B eb w lv av l au op G (.returned (.tuple #[.string ⟨(out ++ s2.data.toList).toArray⟩, .int .i64 0])) w') := fun w' h1 h2 => EP.mk (t := ⟨(out ++ s2.data.toList).toArray⟩) (by rw [← HGF.out]; unfold fin3; rw [if_neg hlo]) h1 h2
        obtain ⟨Y, hY⟩ : ∃ Y : ByteArray, (⟨(out ++ s2.data.toList).toArray⟩ : ByteArray) = Y := ⟨_, rfl⟩
        rw [hY] at HST HEF
        clear hol9 hY
        go_wp2_with (first
          | (go_at_call 31; refine HLE.out.mono ?_; rintro e w8 ⟨rfl, h8⟩; obtain rfl := h8.symm; simp only [])
          | (go_at_call 34; refine HST.out.mono ?_; rintro e w9 ⟨rfl, h9a, h9b⟩; have HEND := Lib.hid (HEF.out _ h9a h9b); clear h9a h9b; simp only []))
        try simp +zetaDelta only [Exit.noGoto_ret]
        go_ret2
        exact HEND.out
    have hzd : decide (z < 0) = false := decide_eq_false hz0
    by_cases hzl : z = (s2.size : Int) - 1
    · have hze : (z == (s2.size : Int) - 1) = true := by rw [hzl]; simp
      have HZL := Lib.hid hzl
      obtain ⟨sz, hsz⟩ : ∃ sz, (s2.size : Int) - 1 = sz := ⟨_, rfl⟩
      clear hzl
      rw [hsz] at hze hbm
      have hzl := HZL.out
      clear hsz
      have HGF : Hid (fin3 (out ++ s2.data.toList) c = G) := by
        rw [Hid, ← HE.out]
        exact (piecesF_end (by rw [HZ.out, dl]; omega)).symm
      have HWR := Lib.hid (HP.out.write s2 (by omega))
      go_wp2_with (first
        | (go_at_call 28; refine HIB.out.mono ?_; rintro e w5 ⟨rfl, h5⟩; obtain rfl := h5.symm; simp only [])
        | (go_at_call 29; refine HWR.out.mono ?_; rintro e w6 ⟨rfl, h6⟩; have HP6 := Lib.hid h6; clear h6; simp only []))
      have HLE := Lib.hid HP6.out.bd.len
      have HST := Lib.hid HP6.out.str
      by_cases hlo : 16384 < (out ++ s2.data.toList).length
      · have hld : decide ((16384 : Int) < (((out ++ s2.data.toList).length : Nat) : Int)) = true := decide_eq_true (by omega)
        obtain ⟨ol, hol9⟩ : ∃ ol, (out ++ s2.data.toList).length = ol := ⟨_, rfl⟩
        rw [hol9] at hld HLE
        have HEND : Hid (EP B eb w lv av l au op G (.returned (.tuple #[.string ⟨#[]⟩, .int .i64 3])) _) := EP.mk (t := ⟨#[]⟩) (by rw [← HGF.out]; unfold fin3; rw [if_pos hlo]) HP6.out.ex HP6.out.kp
        clear hol9
        go_wp2_with (go_at_call 31; refine HLE.out.mono ?_; rintro e w8 ⟨rfl, h8⟩; obtain rfl := h8.symm; simp only [])
        try simp +zetaDelta only [Exit.noGoto_ret]
        go_ret2
        exact HEND.out
      · have hld : decide ((16384 : Int) < (((out ++ s2.data.toList).length : Nat) : Int)) = false := decide_eq_false (by omega)
        obtain ⟨ol, hol9⟩ : ∃ ol, (out ++ s2.data.toList).length = ol := ⟨_, rfl⟩
        rw [hol9] at hld HLE
        have HEF : Hid (∀ w', Ex B eb w' lv av l au c op → Kp B eb w w' → EP B eb w lv av l au op G (.returned (.tuple #[.string ⟨(out ++ s2.data.toList).toArray⟩, .int .i64 0])) w') := fun w' h1 h2 => EP.mk (t := ⟨(out ++ s2.data.toList).toArray⟩) (by rw [← HGF.out]; unfold fin3; rw [if_neg hlo]) h1 h2
        obtain ⟨Y, hY⟩ : ∃ Y : ByteArray, (⟨(out ++ s2.data.toList).toArray⟩ : ByteArray) = Y := ⟨_, rfl⟩
        rw [hY] at HST HEF
        clear hol9 hY
        go_wp2_with (first
          | (go_at_call 31; refine HLE.out.mono ?_; rintro e w8 ⟨rfl, h8⟩; obtain rfl := h8.symm; simp only [])
          | (go_at_call 34; refine HST.out.mono ?_; rintro e w9 ⟨rfl, h9a, h9b⟩; have HEND := Lib.hid (HEF.out _ h9a h9b); clear h9a h9b; simp only []))
        try simp +zetaDelta only [Exit.noGoto_ret]
        go_ret2
        exact HEND.out
    have hze : (z == (s2.size : Int) - 1) = false := by rw [beq_eq_false_iff_ne]; exact hzl
    obtain ⟨a, ha⟩ : ∃ a : Nat, z = (a : Int) := ⟨z.toNat, by omega⟩
    subst ha
    have ha1 : a + 1 < s2.size := by omega
    have ha0 : (0 : Int) ≤ (a : Int) := by omega
    have haI : (a : Int) ≤ (s2.size : Int) := by omega
    obtain ⟨hUd, hUs⟩ := take_ext (s := s2) (a := a) (by omega)
    obtain ⟨hVd, hVs⟩ := drop_ext (s := s2) (a := a) (by omega)
    obtain ⟨U, hU⟩ : ∃ U, s2.extract 0 a = U := ⟨_, rfl⟩
    obtain ⟨V, hV⟩ : ∃ V, s2.extract a s2.size = V := ⟨_, rfl⟩
    rw [hU] at hUd hUs
    rw [hV] at hVd hVs
    have hVs' : V.size + a = s2.size := by omega
    have HUD := Lib.hid hUd
    have HVD := Lib.hid hVd
    have HWU := Lib.hid (HP.out.write U (by omega))
    rw [hUd] at HWU
    have hV1 : 1 < V.size := by omega
    have hV1I : (1 : Int) < (V.size : Int) := by omega
    have hV0 := Lib.data_getElem? V 1 hV1
    obtain ⟨c1, hc1⟩ : ∃ c1, V[1]'hV1 = c1 := ⟨_, rfl⟩
    rw [hc1] at hV0
    rw [hVd] at hV0
    have HV0 := Lib.hid hV0
    have h36 := byte_eq c1 36
    rw [show ((36 : UInt8).toNat : Int) = 36 from rfl] at h36
    have hol2 : (out ++ s2.data.toList.take a).length = out.length + a := by rw [List.length_append, List.length_take, dl]; omega
    have hal : a + 1 < s2.data.toList.length := by rw [dl]; exact ha1
    have HAL := Lib.hid hal
    clear hUd hVd hV0 hz0 hzl hal hVs
    by_cases hc36 : c1 = 36
    · have g36 : ((c1.toNat : Int) == 36) = true := by rw [h36, hc36]; rfl
      have hV2I : (2 : Int) ≤ (V.size : Int) := by omega
      obtain ⟨hXd, hXs⟩ := drop_ext (s := V) (a := 2) (by omega)
      obtain ⟨X, hX⟩ : ∃ X, V.extract 2 V.size = X := ⟨_, rfl⟩
      rw [hX] at hXd hXs
      have HEN : Hid (piecesF rf f X.data.toList (out ++ s2.data.toList.take a ++ [36]) c = G) := by
        rw [Hid, ← HE.out, piecesF_two HZ.out HAL.out (by rw [HV0.out, hc36]), hXd, HVD.out]
      clear hXd h36 hc36
      go_wp2_with (first
        | (go_at_call 28; refine HIB.out.mono ?_; rintro e w5 ⟨rfl, h5⟩; obtain rfl := h5.symm; simp only [])
        | (go_at_call 29; refine HWU.out.mono ?_; rintro e w6 ⟨rfl, h6⟩; have HP6 := Lib.hid h6; clear h6; simp only []))
      have HBY := Lib.hid (HP6.out.byte (by omega))
      go_wp2_with (go_at_call 30; refine HBY.out.mono ?_; rintro e w7 ⟨rfl, h7⟩; have HP7 := Lib.hid h7; clear h7; simp only [])
      go_roundw
      case measure => simp [szOf]; omega
      case rel => exact ⟨f, X, _, c, rfl, by omega, by omega, by rw [List.length_append, hol2]; simp; omega, hcc, HP7.out, HEN.out⟩
    have g36 : ((c1.toNat : Int) == 36) = false := by rw [h36]; simpa using hc36
    have H36 : Hid ((s2.data.toList.drop a)[1]? ≠ some 36) := by rw [Hid, HV0.out]; simpa using hc36
    clear h36 hc36
    go_wp2_with (first
      | (go_at_call 28; refine HIB.out.mono ?_; rintro e w5 ⟨rfl, h5⟩; obtain rfl := h5.symm; simp only [])
      | (go_at_call 29; refine HWU.out.mono ?_; rintro e w6 ⟨rfl, h6⟩; have HP6 := Lib.hid h6; clear h6; simp only []))
    have HL6 := Lib.hid HP6.out.bd.len
    rw [hol2] at HL6
    by_cases hlong : 16384 < out.length + a
    · have hlgd : decide ((16384 : Int) < ((out.length + a : Nat) : Int)) = true := decide_eq_true (by omega)
      obtain ⟨oa, hoa⟩ : ∃ oa, out.length + a = oa := ⟨_, rfl⟩
      rw [hoa] at hlgd HL6
      have HEND : Hid (EP B eb w lv av l au op G (.returned (.tuple #[.string ⟨#[]⟩, .int .i64 3])) w6) := EP.mk (t := ⟨#[]⟩) (by rw [← HE.out]; exact piecesF_long HZ.out HAL.out H36.out (by rw [hol2]; exact hlong)) HP6.out.ex HP6.out.kp
      clear hoa hol2
      go_wp2_with (go_at_call 31; refine HL6.out.mono ?_; rintro e w8 ⟨rfl, h8⟩; obtain rfl := h8.symm; simp only [])
      try simp +zetaDelta only [Exit.noGoto_ret]
      go_ret2
      exact HEND.out
    have hlgd : decide ((16384 : Int) < ((out.length + a : Nat) : Int)) = false := decide_eq_false (by omega)
    have HNL : Hid (¬ 16384 < (out ++ s2.data.toList.take a).length) := by rw [Hid, hol2]; exact hlong
    have HRE := Lib.hid (fun w => Reference_any V w (by omega) (by omega))
    obtain ⟨n, hn⟩ : ∃ n, refN V.data.toList = n := ⟨_, rfl⟩
    rw [hn] at HRE
    have hrb := ref_bounds V.data.toList (by rw [dl]; omega)
    rw [hn, dl] at hrb
    have HN : Hid (refN (s2.data.toList.drop a) = n) := by rw [Hid, ← HVD.out]; exact hn
    obtain ⟨oa, hoa⟩ : ∃ oa, out.length + a = oa := ⟨_, rfl⟩
    have HOA := Lib.hid hoa
    rw [hoa] at hlgd HL6 hlong
    clear hn hol2 hoa
    by_cases hn0 : n = 0
    · subst hn0
      have HEND : Hid (EP B eb w lv av l au op G (.returned (.tuple #[.string ⟨#[]⟩, .int .i64 2])) w6) := EP.mk (t := ⟨#[]⟩) (by rw [← HE.out]; exact piecesF_open HZ.out HAL.out H36.out HNL.out HN.out) HP6.out.ex HP6.out.kp
      go_wp2_with (first
        | (go_at_call 31; refine HL6.out.mono ?_; rintro e w8 ⟨rfl, h8⟩; obtain rfl := h8.symm; simp only [])
        | (go_at_call 32; refine (HRE.out _).mono ?_; rintro e w8 ⟨rfl, h8⟩; obtain rfl := h8.symm; simp only []))
      try simp +zetaDelta only [Exit.noGoto_ret]
      go_ret2
      exact HEND.out
    have hn2 := hrb.2 hn0
    have hnle := hrb.1
    have hnd : ((n : Int) == 0) = false := by rw [beq_eq_false_iff_ne]; omega
    have hnI1 : (1 : Int) ≤ (n : Int) := by omega
    have hnI2 : (n : Int) ≤ (V.size : Int) := by omega
    have hn0I : (0 : Int) ≤ (n : Int) := by omega
    obtain ⟨hEd, hEs⟩ := ext_dt (t := V) (a := 1) (b := n) (by omega) hnle
    obtain ⟨E, hEE⟩ : ∃ E, V.extract 1 n = E := ⟨_, rfl⟩
    rw [hEE] at hEd hEs
    obtain ⟨hXd, hXs⟩ := drop_ext (s := V) (a := n) hnle
    obtain ⟨X, hX⟩ : ∃ X, V.extract n V.size = X := ⟨_, rfl⟩
    rw [hX] at hXd hXs
    rw [HVD.out] at hEd hXd
    obtain ⟨⟨⟨v9, x9⟩, n9⟩, h9⟩ : ∃ r, rf E.data.toList c = r := ⟨_, rfl⟩
    have hl9 := HLN.out E.data.toList c
    have ho9 := HOK.out E.data.toList c hcc
    rw [h9] at hl9 ho9
    dsimp only at hl9
    have H9 : Hid (rf (((s2.data.toList.drop a).take n).drop 1) c = ((v9, x9), n9)) := by rw [Hid, ← hEd]; exact h9
    have HO9 := Lib.hid ho9
    have HRR := Lib.hid (HRF.out w6 c E HP6.out.ex hcc (by omega) (by omega))
    rw [h9] at HRR
    have HXD := Lib.hid hXd
    have HN0 := Lib.hid hn0
    clear hEd hXd h9 ho9 hrb hn0
    go_wp2_with (first
      | (go_at_call 31; refine HL6.out.mono ?_; rintro e w8 ⟨rfl, h8⟩; obtain rfl := h8.symm; simp only [])
      | (go_at_call 32; refine (HRE.out _).mono ?_; rintro e w8 ⟨rfl, h8⟩; obtain rfl := h8.symm; simp only [])
      | (go_at_call 33; refine HRR.out.mono ?_))
    rintro e w9 ⟨t, rfl, ht, hE9, hK9⟩
    dsimp only at ht hE9
    have HP9 := Lib.hid (HP6.out.ref hE9 hK9)
    have HT := Lib.hid ht
    have hts : t.size ≤ 400000 := by rw [← dl, ht]; exact hl9
    clear ht hE9 hK9
    dsimp only
    by_cases hx : x9 = 0
    case neg =>
      have hxd : (x9 != 0) = true := by simpa using hx
      have HEND : Hid (EP B eb w lv av l au op G (.returned (.tuple #[.string ⟨#[]⟩, .int .i64 x9])) w9) := EP.mk (t := ⟨#[]⟩) (by rw [← HE.out]; exact piecesF_bad HZ.out HAL.out H36.out HNL.out HN.out HN0.out H9.out hx) HP9.out.ex HP9.out.kp
      clear hx
      go_wp2_with fail
      try simp +zetaDelta only [Exit.noGoto_ret]
      go_ret2
      exact HEND.out
    case pos =>
    have hx' := hx
    subst hx
    have hn9 : n9 ≤ 10000 := HO9.out.2 rfl
    have hoa := HOA.out
    have hoal : (out ++ s2.data.toList.take a).length = out.length + a := by
      have := HUD.out
      rw [← this, List.length_append, dl, hUs]
    have HWT := Lib.hid (HP9.out.write t (by rw [hoal]; omega))
    rw [HT.out] at HWT
    have HEN : Hid (piecesF rf f X.data.toList (out ++ s2.data.toList.take a ++ v9) n9 = G) := by
      rw [Hid, ← HE.out, piecesF_on HZ.out HAL.out H36.out HNL.out HN.out HN0.out H9.out rfl, HXD.out]
    clear hx'
    go_wp2_with (go_at_call 29; refine HWT.out.mono ?_; rintro e w10 ⟨rfl, h10⟩; have HP10 := Lib.hid h10; clear h10; simp only [])
    go_roundw
    case measure => simp [szOf]; omega
    case rel => exact ⟨f, X, _, n9, rfl, by omega, by omega, by rw [List.length_append, hoal]; omega, hn9, HP10.out, HEN.out⟩
/-- Every depth. -/
theorem expand_all (B eb : Nat) (lv av : Value) (l au : Prs) (hau : ∀ p ∈ au, p.2.size ≤ 300000) : ∀ d, EH B eb lv av l au d
  | 0 => fun w cnt ne op s hE hc hne hop => by
    obtain rfl : ne = 40 := by omega
    exact expand_walk B eb lv av l au (fun _ c => (([], 3), c + 1)) 40 (by omega) op (fun w cnt s hE hc _ _ => refer_deep B eb lv av l au w cnt op s hE hc)
      (fun s c hc => ⟨by show c + 1 ≤ 10001; omega, fun h => by cases h⟩) (fun s c => Nat.zero_le _) w cnt s hE hc
  | d + 1 => fun w cnt ne op s hE hc hne hop =>
    expand_walk B eb lv av l au (referF (bsl l) (bsl au) (expandF (bsl l) (bsl au) d) (dat op)) ne (by omega) op
      (fun w cnt s hE hc h1 h2 => refer_any B eb lv av l au hau d (ne + 1) (by omega) (expand_all B eb lv av l au hau d) w cnt op s hE hc (by omega) h1 h2)
      (fun s c hc => refer_ok (fun op s c hc => expand_ok _ _ d op s c hc) _ s c hc) (fun s c => refer_len hau) w cnt s hE hc
end Go.Proofs.YthbemfpoanmjcaaDoor
