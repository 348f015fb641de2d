import Derived.Test.YthbemfpoanmjcaaDoorBE
namespace Go.Proofs.YthbemfpoanmjcaaDoor
open Go.RowKit
set_option linter.unusedVariables false

/-! The reference's reader: what it has, and what its calls leave. -/
abbrev Oe (eb : Nat) (w w' : World) : Prop := Only (fun i => i = eb) w w'
structure ExR (eb : Nat) (w : World) (lv av : Value) (l au : Prs) (cnt : Nat) : Prop where
  blk : w.heap[eb]? = some (.cells #[lv, av, .int .i64 cnt] 52 (0, 0))
  pl : PV eb w lv l
  pa : PV eb w av au
section
variable {eb : Nat} {w w' : World} {lv av : Value} {l au : Prs} {cnt : Nat}
theorem ExR.lt (h : ExR eb w lv av l au cnt) : eb < w.heap.size := (Array.getElem?_eq_some_iff.1 h.blk).1
theorem ExR.cells (h : ExR eb w lv av l au cnt) : w.cell? ⟨eb, 0, none⟩ = some lv ∧ w.cell? ⟨eb, 1, none⟩ = some av ∧ w.cell? ⟨eb, 2, none⟩ = some (.int .i64 cnt) ∧ w.frozen? ⟨eb, 2, none⟩ = false :=
  ⟨by rw [Lib.cell_of_heap h.blk]; rfl, by rw [Lib.cell_of_heap h.blk]; rfl, by rw [Lib.cell_of_heap h.blk]; rfl, Lib.frozen_of_heap h.blk 2⟩
theorem PV.only {pv : Value} {l : Prs} (h : PV eb w pv l) (k : Oe eb w w') : PV eb w' pv l := by
  refine ⟨h.len, h.sz, ?_⟩
  rcases h.at' with h1 | ⟨b, off, cap, h1, h2, h3, h4⟩
  · exact .inl h1
  · refine .inr ⟨b, off, cap, h1, Nat.lt_of_lt_of_le h2 k.size, h3, fun j hj => ?_⟩
    have e : ∀ o, w'.cell? ⟨b, o, none⟩ = w.cell? ⟨b, o, none⟩ := fun o => by
      simp only [World.cell?]; rw [k.block b h2 (by omega)]
    rw [e, e]; exact h4 j hj
theorem ExR.below (h : ExR eb w lv av l au cnt) (hb : Below w.heap.size w w') : ExR eb w' lv av l au cnt :=
  ⟨(hb.block eb h.lt).trans h.blk, h.pl.only (Only.of_below hb), h.pa.only (Only.of_below hb)⟩
theorem Oe.put (w : World) (eb k : Nat) (v : Value) : Oe eb w (w.setCell ⟨eb, k, none⟩ v) :=
  ⟨rfl, rfl, rfl, by simp, fun i hi hn => Below.heap_setCell _ _ _ _ hn⟩
theorem Oe.trans {a b c : World} (h : Oe eb a b) (k : Oe eb b c) : Oe eb a c := Only.trans h k (fun _ h => h) (fun _ _ h => h)
theorem ExR.count (h : ExR eb w lv av l au cnt) (c : Nat) : ExR eb (w.setCell ⟨eb, 2, none⟩ (.int .i64 c)) lv av l au c :=
  ⟨put_at h.blk 2 _, h.pl.only (Oe.put _ _ _ _), h.pa.only (Oe.put _ _ _ _)⟩
theorem ExR.count1 (h : ExR eb w lv av l au cnt) : ExR eb (w.setCell ⟨eb, 2, none⟩ (.int .i64 ((cnt : Int) + 1))) lv av l au (cnt + 1) := h.count (cnt + 1)
theorem Txt.only {v : Value} {x : List ByteArray} (h : Txt w v x) (hE : ExR eb w lv av l au cnt) (k : Oe eb w w') : Txt w' v x := by
  obtain ⟨a, c, h1, h2⟩ := h.form
  refine ⟨a, c, h1, fun i hi => ?_⟩
  obtain ⟨b, off, e1, e2, e3⟩ := h2 i hi
  have hne : b ≠ eb := by
    rintro rfl
    obtain ⟨o1, c1, f1⟩ := hE.pl.form
    obtain ⟨o2, c2, f2⟩ := hE.pa.form
    rw [Lib.cell_of_heap hE.blk, f1, f2] at e3
    match off + i, e3 with
    | 0, e3 => cases e3
    | 1, e3 => cases e3
    | 2, e3 => cases e3
    | n + 3, e3 => simp at e3
  refine ⟨b, off, e1, Nat.lt_of_lt_of_le e2 k.size, ?_⟩
  have e : w'.cell? ⟨b, off + i, none⟩ = w.cell? ⟨b, off + i, none⟩ := by
    simp only [World.cell?]; rw [k.block b e2 hne]
  rw [e]; exact e3
end
/-- What a call of the reference's reader comes to. -/
def XP (eb : Nat) (w : World) (lv av : Value) (l au : Prs) (P : Bs → Nat → Prop) (e : Ending) (w' : World) : Prop :=
  ∃ (t : ByteArray) (er : Int) (cnt : Nat), e = .returned (.tuple #[.string t, .int .i64 er]) ∧ ExR eb w' lv av l au cnt ∧ Oe eb w w' ∧ (er = 0 → cnt ≤ 10000 ∧ t.size ≤ 3000000000 ∧ P t.data.toList cnt)
theorem XP.bad {eb : Nat} {w w' : World} {lv av : Value} {l au : Prs} {P : Bs → Nat → Prop} {cnt : Nat} {t : ByteArray} {er : Int} (hE : ExR eb w' lv av l au cnt) (hO : Oe eb w w') (h : er ≠ 0) : XP eb w lv av l au P (.returned (.tuple #[.string t, .int .i64 er])) w' :=
  ⟨t, er, cnt, rfl, hE, hO, fun h0 => absurd h0 h⟩
theorem XP.good {eb : Nat} {w w' : World} {lv av : Value} {l au : Prs} {P : Bs → Nat → Prop} {cnt : Nat} {t : ByteArray} (hE : ExR eb w' lv av l au cnt) (hO : Oe eb w w') (hc : cnt ≤ 10000) (ht : t.size ≤ 3000000000) (hP : P t.data.toList cnt) : XP eb w lv av l au P (.returned (.tuple #[.string t, .int .i64 0])) w' :=
  ⟨t, 0, cnt, rfl, hE, hO, fun _ => ⟨hc, ht, hP⟩⟩
theorem XP.mono {eb : Nat} {w w1 w' : World} {lv av : Value} {l au : Prs} {P Q : Bs → Nat → Prop} {e : Ending} (h : XP eb w1 lv av l au P e w') (hO : Oe eb w w1) (hPQ : ∀ t c, P t c → Q t c) : XP eb w lv av l au Q e w' := by
  obtain ⟨t, er, cnt, h1, h2, h3, h4⟩ := h
  exact ⟨t, er, cnt, h1, h2, hO.trans h3, fun h0 => ⟨(h4 h0).1, (h4 h0).2.1, hPQ _ _ (h4 h0).2.2⟩⟩
abbrev dd (op : List ByteArray) : List Bs := op.map (·.data.toList)
theorem mem_dd {op : List ByteArray} {nm : ByteArray} : nm.data.toList ∈ dd op ↔ nm ∈ op :=
  ⟨fun h => by obtain ⟨x, hx, e⟩ := List.mem_map.1 h; rw [← ba_ext e]; exact hx, fun h => List.mem_map.2 ⟨nm, h, rfl⟩⟩
/-- An expansion's promise, at depth ne + 1. -/
def NextX (eb : Nat) (lv av : Value) (l au : Prs) (EX : List Bs → Bs → Nat → R) (ne : Nat) : Prop :=
  ∀ (w : World) (cnt : Nat) (wv : Value) (op : List ByteArray) (s : ByteArray), ExR eb w lv av l au cnt → cnt ≤ 10000 → Txt w wv op → op.length ≤ ne + 1 →
    Calls Tryd.prog 24 #[.pointer (some ⟨eb, 0, none⟩), .string s, wv, .int .i64 ((ne : Int) + 1)] w (XP eb w lv av l au (fun t c => t.length ≤ 16384 ∧ EX (dd op) s.data.toList cnt = ((t, 0), c)))
set_option maxRecDepth 100000 in
set_option maxHeartbeats 8000000 in
theorem value_r (eb : Nat) (lv av : Value) (l au : Prs) (EX : List Bs → Bs → Nat → R) (ne : Nat) (hne : ne < 40) (HX : NextX eb lv av l au EX ne) (hau : ∀ p ∈ au, p.2.size ≤ 20000)
    (w : World) (cnt : Nat) (wv : Value) (op : List ByteArray) (nm : ByteArray) (hE : ExR eb w lv av l au cnt) (hc : cnt ≤ 10000) (hT : Txt w wv op) (hop : op.length ≤ ne) :
    Calls Tryd.prog 37 #[.pointer (some ⟨eb, 0, none⟩), .string nm, wv, .int .i64 ne] w (XP eb w lv av l au (fun t c => t.length ≤ 20000 ∧ valueF (bsl l) (bsl au) EX (dd op) nm.data.toList cnt = ((t, 0), c))) := by
  obtain ⟨c0, c1, c2, f2⟩ := hE.cells
  have HE := Lib.hid hE
  have HG1 := Lib.hid (get_any eb w av au nm hE.pa)
  have HG2 := Lib.hid (get_any eb w lv l nm hE.pl)
  have HT := Lib.hid hT
  have HXX := Lib.hid HX
  have HAU := Lib.hid hau
  obtain ⟨oa, ca, hav⟩ := hE.pa.form
  obtain ⟨ol, cl, hlv⟩ := hE.pl.form
  have HAV := Lib.hid hav
  have HLV := Lib.hid hlv
  obtain ⟨a, cw, rfl, hcw⟩ := hT.form
  have HCW := Lib.hid hcw
  have hb1 : IntKind.i64.wrap ((ne : Int) + 1) = (ne : Int) + 1 := IntWalk.i64_in _ (by omega)
  clear hE HX hau hT hav hlv hcw
  go_enter Tryd.func37, Tryd.ntmps37
  go_wp2_with (go_at_call 47; refine HG1.out.mono ?_)
  rintro e w1 ⟨v, ok, rfl, hw1, hr1⟩
  obtain rfl := hw1.symm
  cases ok with
  | true =>
    have HEND : Hid (XP eb w lv av l au (fun t c => t.length ≤ 20000 ∧ valueF (bsl l) (bsl au) EX (dd op) nm.data.toList cnt = ((t, 0), c)) (.returned (.tuple #[.string v, .int .i64 0])) w) := by
      rcases hr1 with ⟨h, _⟩ | ⟨_, hL, p, hp, rfl⟩
      · cases h
      · have hs := HAU.out p hp
        refine XP.good HE.out (Only.refl _ _) hc (by omega) ⟨by rw [dl]; exact hs, ?_⟩
        unfold valueF; rw [hL]
    clear hr1
    simp only []
    go_wp2_with fail
    go_ret2
    exact HEND.out
  | false =>
  have HL1 : Hid (lastV (bsl au) nm.data.toList = none) := by
    rcases hr1 with ⟨_, h⟩ | ⟨h, _⟩
    · exact h
    · cases h
  clear hr1
  simp only []
  go_wp2_with (go_at_call 47; refine HG2.out.mono ?_)
  rintro e w1 ⟨v, ok, rfl, hw1, hr1⟩
  obtain rfl := hw1.symm
  cases ok with
  | false =>
    have HEND : Hid (XP eb w lv av l au (fun t c => t.length ≤ 20000 ∧ valueF (bsl l) (bsl au) EX (dd op) nm.data.toList cnt = ((t, 0), c)) (.returned (.tuple #[.string ⟨#[]⟩, .int .i64 0])) w) := by
      rcases hr1 with ⟨_, hL⟩ | ⟨h, _⟩
      · refine XP.good HE.out (Only.refl _ _) hc (by decide) ⟨by decide, ?_⟩
        unfold valueF; rw [HL1.out, hL]
      · cases h
    clear hr1
    simp only []
    go_wp2_with fail
    go_ret2
    exact HEND.out
  | true =>
  have HL2 : Hid (lastV (bsl l) nm.data.toList = some v.data.toList) := by
    rcases hr1 with ⟨h, _⟩ | ⟨_, h, _⟩
    · cases h
    · exact h
  clear hr1
  simp only []
  go_wp2_with fail
  go_loopw [12] (fun i wx => ∃ k : Nat, k ≤ op.length ∧ i = .int .i64 k ∧ wx = w ∧ Hid (∀ j (h : j < op.length), j < k → op[j] ≠ nm)) (fun i _ => op.length - (intOf i).toNat)
  case atStart => exact ⟨0, Nat.zero_le _, rfl, rfl, fun j h hj => by omega⟩
  case round =>
    obtain ⟨k, hk, rfl, rfl, HA⟩ := hrel
    by_cases hlt : k < op.length
    · have hld : decide ((k : Int) < (op.length : Int)) = true := decide_eq_true (by omega)
      have b2 : IntKind.i64.wrap ((k : Int) + 1) = (k : Int) + 1 := IntWalk.i64_in _ (by omega)
      obtain ⟨g, off, rfl, hg, hcell⟩ := HCW.out k hlt
      obtain ⟨X, hX⟩ : ∃ X, op[k] = X := ⟨_, rfl⟩
      rw [hX] at hcell
      have hse := str_eq X nm
      have ad := addn g off k
      have hltI : (k : Int) < (op.length : Int) := by omega
      have hk0 : (0 : Int) ≤ (k : Int) := by omega
      by_cases he : X = nm
      · have g1 : (X.toList == nm.toList) = true := by rw [hse, he]; simp
        have HEND : Hid (XP eb wr lv av l au (fun t c => t.length ≤ 20000 ∧ valueF (bsl l) (bsl au) EX (dd op) nm.data.toList cnt = ((t, 0), c)) (.returned (.tuple #[.string ⟨#[]⟩, .int .i64 18])) wr) := XP.bad HE.out (Only.refl _ _) (by decide)
        clear hse he hX
        go_wp2_with fail
        go_ret2
        exact HEND.out
      · have g1 : (X.toList == nm.toList) = false := by rw [hse]; simpa using fun e => he (ba_ext e)
        have HN : Hid (∀ j (h : j < op.length), j < k + 1 → op[j] ≠ nm) := fun j h hj => by
          by_cases hjk : j < k
          · exact HA.out j h hjk
          · obtain rfl : j = k := by omega
            rw [hX]; exact he
        clear hse he hX
        go_wp2_with fail
        go_roundw
        case measure => simp [intOf]; omega
        case rel => exact ⟨k + 1, hlt, by go_num, by simp, HN.out⟩
    · have HKK : Hid (k = op.length) := (show k = op.length by omega)
      have hld : decide ((k : Int) < (op.length : Int)) = false := decide_eq_false (by omega)
      have HNO : Hid (nm ∉ op) := fun hm => by
        obtain ⟨j, hj, e⟩ := List.mem_iff_getElem.1 hm
        exact HA.out j hj (by have := HKK.out; omega) e
      obtain ⟨v6, w6, r6, h6⟩ := app_nil HT.out (by omega)
      obtain ⟨v7, w7, r7, h7⟩ := h6.push (by omega) nm
      have hE7 := HE.out.below h7.old
      have hx := HXX.out w7 cnt v7 (op ++ [nm]) v hE7 hc h7.txt (by rw [List.length_append, List.length_singleton]; omega)
      have HC : Hid (Calls Tryd.prog 24 #[.pointer (some ⟨eb, 0, none⟩), .string v, v7, .int .i64 ((ne : Int) + 1)] w7 (XP eb wr lv av l au (fun t c => t.length ≤ 20000 ∧ valueF (bsl l) (bsl au) EX (dd op) nm.data.toList cnt = ((t, 0), c)))) :=
        hx.mono fun e w' h => h.mono (Only.of_below h7.old) (fun t c ⟨q1, q2⟩ => ⟨by omega, by
          unfold valueF
          rw [HL1.out, HL2.out]
          dsimp only
          rw [if_neg (fun hm => HNO.out (mem_dd.1 hm)), ← q2]
          simp [dd]⟩)
      clear hx hE7 h7 h6
      go_wp2_with (first
        | (at_builtin; refine wpList_run_append _ rfl _ _ 38 38 rfl _ _ rfl rfl r6 ?_)
        | (at_builtin; refine wpList_run_append _ rfl _ _ 38 38 rfl _ _ rfl rfl r7 ?_)
        | (go_at_call 24; refine HC.out.mono ?_))
      rintro e w8 ⟨t, er, cnt8, rfl, q1, q2, q3⟩
      have HEND : Hid (XP eb wr lv av l au (fun t c => t.length ≤ 20000 ∧ valueF (bsl l) (bsl au) EX (dd op) nm.data.toList cnt = ((t, 0), c)) (.returned (.tuple #[.string t, .int .i64 er])) w8) := ⟨t, er, cnt8, rfl, q1, q2, q3⟩
      clear q1 q2 q3
      simp only []
      go_wp2_with fail
      go_ret2
      exact HEND.out
end Go.Proofs.YthbemfpoanmjcaaDoor
