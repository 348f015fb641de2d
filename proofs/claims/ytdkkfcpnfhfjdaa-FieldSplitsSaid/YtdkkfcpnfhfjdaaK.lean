import Derived.Test.YtdkkfcpnfhfjdaaJ
import Derived.Deep.RegionHeld3
import Derived.Shelf.RegionOpenPlain
namespace Go.Proofs.Ytdkkfcpnfhfjdaa
open Go.RowKit
set_option linter.unusedVariables false

theorem i64_and3 (n : Int) : bits .and .i64 n 3 = n % 4 := by
  have h3 : (BitVec.ofInt 64 3).toNat = 2 ^ 2 - 1 := by decide
  have key : (BitVec.ofInt 64 n &&& BitVec.ofInt 64 3).toNat = (n % ((2 ^ 64 : Nat) : Int)).toNat % 2 ^ 2 := by
    rw [BitVec.toNat_and, BitVec.toNat_ofInt, h3, Nat.and_two_pow_sub_one_eq_mod]
  show IntKind.i64.wrap ((BitVec.ofInt 64 n &&& BitVec.ofInt 64 3).toNat : Nat) = n % 4
  rw [key, IntKind.wrap_i64]
  omega
/-- What parts the words. -/
def blB : Nat → ByteArray
  | 0 => ⟨#[32]⟩
  | 1 => ⟨#[9]⟩
  | 2 => ⟨#[10]⟩
  | _ => ⟨#[32, 9, 32]⟩
theorem blB_ok (j : Nat) : (blB j).data.toList ≠ [] ∧ (∀ c ∈ (blB j).data.toList, isBl c = true) ∧ (blB j).size ≤ 3 := by
  unfold blB
  split <;> exact ⟨by decide, by decide, by decide⟩
/-- The words, each behind its blanks. -/
def wordsB (bl : Bs) (l : List ByteArray) : Bs := l.flatMap fun x => bl ++ x.data.toList
theorem wordsB_take {bl : Bs} {l : List ByteArray} {k : Nat} (h : k < l.length) : wordsB bl (l.take (k + 1)) = wordsB bl (l.take k) ++ (bl ++ l[k].data.toList) := by
  unfold wordsB
  rw [List.take_add_one, List.getElem?_eq_getElem h, List.flatMap_append]; simp
/-- A word that may stand. -/
def okW (x : ByteArray) : Prop := (x.data.toList ≠ [] ∧ ∀ c ∈ x.data.toList, isBl c = false) ∧ x.size ≤ 2000
/-- What Split makes of the words, and of a quoted text. -/
theorem words_fields (l : List ByteArray) (j : Nat) (hok : ∀ x ∈ l, okW x) (wd : ByteArray) (h : wd.data.toList = wordsB (blB j).data.toList l) : splitL [(1, wd.data.toList)] = l.map fun x => [((1 : Int), x.data.toList)] := by
  obtain ⟨h1, h2, _⟩ := blB_ok j
  have := splitL_words (l.map fun x => x.data.toList) _ h1 h2 (by
    intro x hx
    obtain ⟨y, hy, rfl⟩ := List.mem_map.1 hx
    exact (hok y hy).1)
  rw [h]
  unfold wordsB
  rw [List.flatMap_map] at this
  rw [this]; simp
theorem fields_one {FS : List (List Pt)} {want : List ByteArray} {kd : Int} (h : p3s FS = want.map fun x => [(kd, x.data.toList)]) : FS.length = want.length ∧ ∀ i (h1 : i < FS.length) (h2 : i < want.length), textL (p2s FS[i]) = want[i].data.toList := by
  have hl : FS.length = want.length := by rw [← p3s_len, h]; simp
  refine ⟨hl, fun i h1 h2 => ?_⟩
  have : (p3s FS)[i]'(by rw [p3s_len]; exact h1) = [(kd, want[i].data.toList)] := by simp [h]
  have e : (p3s FS)[i]'(by rw [p3s_len]; exact h1) = p2s FS[i] := by simp [p3s]
  rw [← e, this]; simp [textL]
theorem blank_of {c : UInt8} (h : isBl c = false) : ((c.toNat : Int) == 32) = false ∧ ((c.toNat : Int) == 9) = false ∧ ((c.toNat : Int) == 10) = false := by
  have hne : ∀ (d : UInt8), [(32 : UInt8), 9, 10].contains d = true → ((c.toNat : Int) == (d.toNat : Int)) = false := by
    intro d hd
    rw [beq_eq_false_iff_ne]
    intro e
    have : c = d := UInt8.toNat_inj.1 (by omega)
    subst this
    unfold isBl at h
    rw [h] at hd; cases hd
  exact ⟨hne 32 (by decide), hne 9 (by decide), hne 10 (by decide)⟩
theorem of_blank {c : UInt8} (h : isBl c = true) : c = 32 ∨ c = 9 ∨ c = 10 := by
  unfold isBl at h
  simpa using h
/-- What stands behind Split: the fields, each with its text. -/
theorem got_text {w5 : World} {B : Nat} {v : Value} {vals : List Value} {FS : List (List Pt)} {want : List ByteArray} {kd : Int} (hF : Flds w5 B v vals FS) (h : p3s FS = want.map fun x => [(kd, x.data.toList)]) (hn : ∀ F ∈ FS, F.length ≤ 90000) (hz : ∀ x ∈ want, x.size ≤ 2000) :
    ∃ a c, v = .slice a want.length c ∧ ∀ i (hi : i < want.length), ∃ b u, a = some ⟨b, 0, none⟩ ∧ (∀ w', Below w5.heap.size w5 w' → w'.cell? ⟨b, i, none⟩ = some u) ∧
      ∀ w', Below w5.heap.size w5 w' → Calls Try.prog 11 #[u] w' fun e w2 => e = .returned (.string want[i]) ∧ Below w'.heap.size w' w2 := by
  obtain ⟨h1, h2⟩ := fields_one h
  obtain ⟨a, c, h3, h4⟩ := hF.form
  rw [h1] at h3
  refine ⟨a, c, h3, fun i hi => ?_⟩
  obtain ⟨b, h5, h6⟩ := h4 i (by omega)
  refine ⟨b, _, h5, fun w' hB => (hB.cell (p := ⟨b, i, none⟩) (World.block_lt_of_cell? w5 _ h6)).trans h6, fun w' hB => ?_⟩
  have ht := h2 i (by omega) hi
  have hS := ((hF.rows i (by omega)).below hB).sl
  have hz2 := hz _ (List.getElem_mem hi)
  have := Text_any _ FS[i] w' (by have := hn _ (List.getElem_mem (show i < FS.length by omega)); omega) (by rw [ht, show want[i].data.toList.length = want[i].size from Array.length_toList]; omega) hS
  rw [ht] at this
  exact this
set_option maxRecDepth 100000 in
set_option maxHeartbeats 8000000 in
theorem words_walk (v : Value) (l : List ByteArray) (m : Int) (q : Bool) (w : World) (hT : Txt w v l) (hl : l.length ≤ maxLen) (hx : ∀ x ∈ l, x.size ≤ maxLen) :
    Calls Try.prog 5 #[v, .int .i64 m, .bool q] w fun e w' => e = .returned (.bool true) ∧ Below w.heap.size w w' := by
  obtain ⟨a0, c0, hv, _⟩ := hT.form
  subst hv
  have HT := Lib.hid hT
  have HXL := Lib.hid hx
  unfold maxLen at hl hx
  have hlm : (l.length : Int) ≤ 9223372036854775807 := by omega
  obtain ⟨j, hj, hj4⟩ : ∃ j : Nat, m % 4 = j ∧ j < 4 := ⟨(m % 4).toNat, by omega, by omega⟩
  have hand : bits .and .i64 m 3 = (j : Int) := by rw [i64_and3, hj]
  clear hT hx
  by_cases h30 : l.length ≤ 30
  · have h30I : (l.length : Int) ≤ 30 := by omega
    have h30d : decide ((30 : Int) < (l.length : Int)) = false := decide_eq_false (by omega)
    go_enter Try.func5, Try.ntmps5
    go_wp2_with (go_at_call 6; refine (alive_any _).mono ?_; rintro e w1 ⟨rfl, hb1⟩; have HB1 := Lib.hid hb1; clear hb1; simp only [])
    go_wp2_with fail
    go_loopw [8, 9, 10] (fun x y i wx => ∃ (k : Nat) (wd : ByteArray) (wv : Value), k ≤ l.length ∧ x = .string wd ∧ wv = y ∧ i = .int .i64 k ∧ wd.size ≤ k * 63 ∧ Hid (wd.data.toList = wordsB (blB j).data.toList (l.take k)) ∧ Hid (Wn w wx wv (l.take k)) ∧ Hid (∀ x ∈ l.take k, okW x)) (fun _ _ i _ => l.length - (intOf i).toNat)
    case atStart => exact ⟨0, _, _, by omega, rfl, rfl, rfl, by decide, rfl, (Wn.nil w).below HB1.out, fun x hx => by cases hx⟩
    case round =>
      obtain ⟨k, wd, wv, hk, rfl, rfl, rfl, hwz, HWD, HWN, HOK⟩ := hrel
      by_cases hlt : k < l.length
      · have hltI : (k : Int) < (l.length : Int) := by omega
        have hltd : decide ((k : Int) < (l.length : Int)) = true := decide_eq_true hltI
        have hk0 : (0 : Int) ≤ (k : Int) := by omega
        obtain ⟨a', c', e1, e2⟩ := (HT.out.below HWN.out.old).form
        obtain ⟨b, off, e3, hb, hc⟩ := e2 k hlt
        injection e1 with e4 _ e6
        subst e4
        subst e6
        subst e3
        have hxz := HXL.out l[k] (List.getElem_mem hlt)
        have HTK := Lib.hid (wordsB_take (bl := (blB j).data.toList) hlt)
        have HOKK : Hid (okW l[k] → ∀ x ∈ l.take (k + 1), okW x) := fun h x hx => by
          rw [List.take_add_one, List.getElem?_eq_getElem hlt] at hx
          rcases List.mem_append.1 hx with hx | hx
          · exact HOK.out x hx
          · simp at hx; subst hx; exact h
        have HPU : Hid (l.take (k + 1) = l.take k ++ [l[k]]) := by
          rw [Hid, List.take_add_one, List.getElem?_eq_getElem hlt]; rfl
        obtain ⟨x, hxe⟩ : ∃ x, l[k] = x := ⟨_, rfl⟩
        rw [hxe] at hc hxz HTK HOKK HPU
        have ad := addn b off k
        unfold maxLen at hxz
        have hxzI : (x.size : Int) ≤ 9223372036854775807 := by omega
        clear e2 hxe
        by_cases hx0 : x.data.toList = []
        · have hx1 : x.toList.isEmpty = true := by rw [Lib.toList_data, hx0]; rfl
          have HE : Hid (Below w.heap.size w wr) := HWN.out.old
          go_wp2_with fail
          go_ret
          exact ⟨rfl, HE.out⟩
        · have hx1 : x.toList.isEmpty = false := by
            rw [Lib.toList_data]
            cases h : x.data.toList with
            | nil => exact absurd h hx0
            | cons a t => rfl
          by_cases hx60 : x.size ≤ 60
          · have hx60d : decide ((60 : Int) < (x.size : Int)) = false := decide_eq_false (by omega)
            go_wp2_with fail
            go_loopw [11] (fun i wx => ∃ p : Nat, p ≤ x.size ∧ i = .int .i64 p ∧ wx = wr ∧ Hid (∀ c ∈ x.data.toList.take p, isBl c = false)) (fun i _ => x.size - (intOf i).toNat)
            case atStart => exact ⟨0, by omega, rfl, rfl, fun c hc => by cases hc⟩
            case round =>
              obtain ⟨p, hp, rfl, rfl, HBL⟩ := hrel
              by_cases hpl : p < x.size
              · have hplI : (p : Int) < (x.size : Int) := by omega
                have hpld : decide ((p : Int) < (x.size : Int)) = true := decide_eq_true hplI
                have hp0 : (0 : Int) ≤ (p : Int) := by omega
                obtain ⟨c, hc⟩ : ∃ c, x[p]'hpl = c := ⟨_, rfl⟩
                have hcl : x.data.toList[p]? = some c := by
                  rw [← hc, List.getElem?_eq_getElem (by rw [show x.data.toList.length = x.size from Array.length_toList]; exact hpl)]; rfl
                have HBS : Hid (isBl c = false → ∀ d ∈ x.data.toList.take (p + 1), isBl d = false) := fun h d hd => by
                  rw [List.take_add_one, hcl] at hd
                  rcases List.mem_append.1 hd with hd | hd
                  · exact HBL.out d hd
                  · simp at hd; subst hd; exact h
                clear hcl
                cases hib : isBl c with
                | true =>
                  have HE : Hid (Below w.heap.size w wr) := HWN.out.old
                  rcases of_blank hib with h | h | h
                  · have h1 : ((c.toNat : Int) == 32) = true := by rw [h]; rfl
                    clear h hib
                    go_wp2_with fail
                    go_ret
                    exact ⟨rfl, HE.out⟩
                  · have h1 : ((c.toNat : Int) == 32) = false := by rw [h]; rfl
                    have h2 : ((c.toNat : Int) == 9) = true := by rw [h]; rfl
                    clear h hib
                    go_wp2_with fail
                    go_ret
                    exact ⟨rfl, HE.out⟩
                  · have h1 : ((c.toNat : Int) == 32) = false := by rw [h]; rfl
                    have h2 : ((c.toNat : Int) == 9) = false := by rw [h]; rfl
                    have h3 : ((c.toNat : Int) == 10) = true := by rw [h]; rfl
                    clear h hib
                    go_wp2_with fail
                    go_ret
                    exact ⟨rfl, HE.out⟩
                | false =>
                  obtain ⟨h1, h2, h3⟩ := blank_of hib
                  have HBS2 := Lib.hid (HBS.out hib)
                  clear hib
                  go_wp2_with fail
                  go_roundw
                  case measure => simp [intOf]; omega
                  case rel => exact ⟨p + 1, by omega, by go_num, by simp, HBS2.out⟩
              · obtain rfl : p = x.size := by omega
                have hpld : decide ((x.size : Int) < (x.size : Int)) = false := decide_eq_false (by omega)
                have HOW := Lib.hid (HOKK.out ⟨⟨hx0, fun c hc => HBL.out c (by rw [List.take_of_length_le (by rw [show x.data.toList.length = x.size from Array.length_toList]; exact Nat.le_refl _)]; exact hc)⟩, by omega⟩)
                have HX : Hid (∀ w', Below wr.heap.size wr w' → w'.cell? ⟨b, off + k, none⟩ = some (.string x)) := fun w' hB => (hB.cell (p := ⟨b, off + k, none⟩) hb).trans hc
                have hj4' : j = 0 ∨ j = 1 ∨ j = 2 ∨ j = 3 := by omega
                go_wp2_with fail
                have hmx : Try.prog.follows .mixedOrders = true := by kernel_rfl
                have hk30 : k ≤ 30 := by omega
                rcases hj4' with rfl | rfl | rfl | rfl
                · have hs1 : ¬ (9223372036854775807 < wd.size + 1) := by omega
                  have hs2 : ¬ (9223372036854775807 < wd.size + 1 + x.size) := by omega
                  have hsz : (wd ++ blB 0 ++ x).size ≤ (k + 1) * 63 := by rw [ByteArray.size_append, ByteArray.size_append, show (blB 0).size = 1 from rfl]; omega
                  have HWD2 : Hid ((wd ++ blB 0 ++ x).data.toList = wordsB (blB 0).data.toList (l.take (k + 1))) := by
                    rw [Hid, HTK.out, ← HWD.out]; simp
                  go_region_law_o (fail)
                  all_goals
                    first
                      | generalize hW : (World.drew (World.alloc wr _)) = W5
                      | generalize hW : (World.alloc (World.drew wr) _) = W5
                    have hB5 : Below wr.heap.size wr W5 := by
                      rw [← hW]
                      first
                        | exact ((Below.refl _ _).alloc (Nat.le_refl _) _).drew
                        | exact ((Below.refl _ _).drew).alloc (Nat.le_refl _) _
                    obtain ⟨v6, w6, hrun, hwn6⟩ := (HWN.out.below hB5).push (by rw [List.length_take]; omega) x
                    have HWN6 : Hid (Wn w w6 v6 (l.take (k + 1))) := by rw [Hid, HPU.out]; exact hwn6
                    have hc5 := HX.out _ hB5
                    clear hwn6 hB5 hW
                    go_wp2_with (at_builtin; refine wpList_run_append _ rfl _ _ 32 32 rfl _ _ rfl rfl hrun ?_)
                    go_roundw
                    case measure => simp [intOf]; omega
                    case rel => exact ⟨k + 1, _, _, by omega, rfl, rfl, by go_num, hsz, HWD2.out, HWN6.out, HOW.out⟩
                · have hs1 : ¬ (9223372036854775807 < wd.size + 1) := by omega
                  have hs2 : ¬ (9223372036854775807 < wd.size + 1 + x.size) := by omega
                  have hsz : (wd ++ blB 1 ++ x).size ≤ (k + 1) * 63 := by rw [ByteArray.size_append, ByteArray.size_append, show (blB 1).size = 1 from rfl]; omega
                  have HWD2 : Hid ((wd ++ blB 1 ++ x).data.toList = wordsB (blB 1).data.toList (l.take (k + 1))) := by
                    rw [Hid, HTK.out, ← HWD.out]; simp
                  go_region_law_o (fail)
                  all_goals
                    first
                      | generalize hW : (World.drew (World.alloc wr _)) = W5
                      | generalize hW : (World.alloc (World.drew wr) _) = W5
                    have hB5 : Below wr.heap.size wr W5 := by
                      rw [← hW]
                      first
                        | exact ((Below.refl _ _).alloc (Nat.le_refl _) _).drew
                        | exact ((Below.refl _ _).drew).alloc (Nat.le_refl _) _
                    obtain ⟨v6, w6, hrun, hwn6⟩ := (HWN.out.below hB5).push (by rw [List.length_take]; omega) x
                    have HWN6 : Hid (Wn w w6 v6 (l.take (k + 1))) := by rw [Hid, HPU.out]; exact hwn6
                    have hc5 := HX.out _ hB5
                    clear hwn6 hB5 hW
                    go_wp2_with (at_builtin; refine wpList_run_append _ rfl _ _ 32 32 rfl _ _ rfl rfl hrun ?_)
                    go_roundw
                    case measure => simp [intOf]; omega
                    case rel => exact ⟨k + 1, _, _, by omega, rfl, rfl, by go_num, hsz, HWD2.out, HWN6.out, HOW.out⟩
                · have hs1 : ¬ (9223372036854775807 < wd.size + 1) := by omega
                  have hs2 : ¬ (9223372036854775807 < wd.size + 1 + x.size) := by omega
                  have hsz : (wd ++ blB 2 ++ x).size ≤ (k + 1) * 63 := by rw [ByteArray.size_append, ByteArray.size_append, show (blB 2).size = 1 from rfl]; omega
                  have HWD2 : Hid ((wd ++ blB 2 ++ x).data.toList = wordsB (blB 2).data.toList (l.take (k + 1))) := by
                    rw [Hid, HTK.out, ← HWD.out]; simp
                  go_region_law_o (fail)
                  all_goals
                    first
                      | generalize hW : (World.drew (World.alloc wr _)) = W5
                      | generalize hW : (World.alloc (World.drew wr) _) = W5
                    have hB5 : Below wr.heap.size wr W5 := by
                      rw [← hW]
                      first
                        | exact ((Below.refl _ _).alloc (Nat.le_refl _) _).drew
                        | exact ((Below.refl _ _).drew).alloc (Nat.le_refl _) _
                    obtain ⟨v6, w6, hrun, hwn6⟩ := (HWN.out.below hB5).push (by rw [List.length_take]; omega) x
                    have HWN6 : Hid (Wn w w6 v6 (l.take (k + 1))) := by rw [Hid, HPU.out]; exact hwn6
                    have hc5 := HX.out _ hB5
                    clear hwn6 hB5 hW
                    go_wp2_with (at_builtin; refine wpList_run_append _ rfl _ _ 32 32 rfl _ _ rfl rfl hrun ?_)
                    go_roundw
                    case measure => simp [intOf]; omega
                    case rel => exact ⟨k + 1, _, _, by omega, rfl, rfl, by go_num, hsz, HWD2.out, HWN6.out, HOW.out⟩
                · have hs1 : ¬ (9223372036854775807 < wd.size + 3) := by omega
                  have hs2 : ¬ (9223372036854775807 < wd.size + 3 + x.size) := by omega
                  have hsz : (wd ++ blB 3 ++ x).size ≤ (k + 1) * 63 := by rw [ByteArray.size_append, ByteArray.size_append, show (blB 3).size = 3 from rfl]; omega
                  have HWD2 : Hid ((wd ++ blB 3 ++ x).data.toList = wordsB (blB 3).data.toList (l.take (k + 1))) := by
                    rw [Hid, HTK.out, ← HWD.out]; simp
                  go_region_law_o (fail)
                  all_goals
                    first
                      | generalize hW : (World.drew (World.alloc wr _)) = W5
                      | generalize hW : (World.alloc (World.drew wr) _) = W5
                    have hB5 : Below wr.heap.size wr W5 := by
                      rw [← hW]
                      first
                        | exact ((Below.refl _ _).alloc (Nat.le_refl _) _).drew
                        | exact ((Below.refl _ _).drew).alloc (Nat.le_refl _) _
                    obtain ⟨v6, w6, hrun, hwn6⟩ := (HWN.out.below hB5).push (by rw [List.length_take]; omega) x
                    have HWN6 : Hid (Wn w w6 v6 (l.take (k + 1))) := by rw [Hid, HPU.out]; exact hwn6
                    have hc5 := HX.out _ hB5
                    clear hwn6 hB5 hW
                    go_wp2_with (at_builtin; refine wpList_run_append _ rfl _ _ 32 32 rfl _ _ rfl rfl hrun ?_)
                    go_roundw
                    case measure => simp [intOf]; omega
                    case rel => exact ⟨k + 1, _, _, by omega, rfl, rfl, by go_num, hsz, HWD2.out, HWN6.out, HOW.out⟩
          · have hx60d : decide ((60 : Int) < (x.size : Int)) = true := decide_eq_true (by omega)
            have HE : Hid (Below w.heap.size w wr) := HWN.out.old
            go_wp2_with fail
            go_ret
            exact ⟨rfl, HE.out⟩
      · obtain rfl : k = l.length := by omega
        rw [List.take_length] at HWD HWN HOK
        have hltd : decide ((l.length : Int) < (l.length : Int)) = false := decide_eq_false (by omega)
        have hwz2 : wd.size ≤ 2000 := by omega
        cases q
        · skip
          have HO := Lib.hid (one_part wr 1 wd (by omega) (by decide))
          have HBW : Hid (Below w.heap.size w (wr.alloc (.cells #[.int .i64 1, .string wd, .string ⟨#[]⟩, .string ⟨#[]⟩, .slice none 0 0, .bool false] 31))) := HWN.out.old.trans (((Below.refl _ _).alloc (Nat.le_refl _) _).mono HWN.out.old.size)
          have HTW : Hid (Txt (wr.alloc (.cells #[.int .i64 1, .string wd, .string ⟨#[]⟩, .string ⟨#[]⟩, .slice none 0 0, .bool false] 31)) wv l) := HWN.out.txt.below ((Below.refl _ _).alloc (Nat.le_refl _) _)
          obtain ⟨aw, cw, e8, _⟩ := HTW.out.form
          subst e8
          go_wp2_with (go_at_call 9; refine HO.out.mono ?_)
          rintro e w5 ⟨v, vals, FS, rfl, hF, hp, _, hn, hb⟩
          obtain ⟨ag, cg, rfl, hG⟩ := got_text (want := l) (kd := 1) hF (hp.trans (words_fields l j HOK.out wd HWD.out)) hn (fun x hx => (HOK.out x hx).2)
          have HG := Lib.hid hG
          have HB5 := Lib.hid (HBW.out.trans (hb.mono HBW.out.size))
          have HT5 := Lib.hid (HTW.out.below hb)
          clear hF hp hn hb hG
          simp only []
          go_wp2_with fail
          go_loopw [14] (fun i wx => ∃ k : Nat, k ≤ l.length ∧ i = .int .i64 k ∧ Hid (Below w5.heap.size w5 wx)) (fun i _ => l.length - (intOf i).toNat)
          case atStart => exact ⟨0, by omega, rfl, Below.refl _ _⟩
          case round =>
            obtain ⟨k, hk, rfl, HB⟩ := hrel
            by_cases hlt : k < l.length
            · have hltI : (k : Int) < (l.length : Int) := by omega
              have hltd : decide ((k : Int) < (l.length : Int)) = true := decide_eq_true hltI
              have hk0 : (0 : Int) ≤ (k : Int) := by omega
              obtain ⟨bg, u, e1, e2, e3⟩ := HG.out k hlt
              subst e1
              obtain ⟨a', c', f1, f2⟩ := HT5.out.form
              obtain ⟨b, off, f3, f4, f5⟩ := f2 k hlt
              injection f1 with f6 _ f7
              subst f6
              subst f7
              subst f3
              have HC1 := Lib.hid e2
              have HC2 := Lib.hid e3
              have HC3 : Hid (∀ w', Below w5.heap.size w5 w' → w'.cell? ⟨b, off + k, none⟩ = some (.string l[k])) := fun w' hB => (hB.cell (p := ⟨b, off + k, none⟩) f4).trans f5
              obtain ⟨x, hx⟩ : ∃ x, l[k] = x := ⟨_, rfl⟩
              rw [hx] at HC2 HC3
              have ad := addn b off k
              have ad2 := addn bg 0 k
              rw [Nat.zero_add] at ad2
              have hself : (x.toList == x.toList) = true := by simp
              clear e2 e3 f2 f4 f5 hx
              go_wp2_with fail
              go_region_held3 (fun w' => w'.cell? ⟨bg, k, none⟩ = some u ∧ w'.cell? ⟨b, off + k, none⟩ = some (.string x)) (first | exact ⟨HC1.out _ (HB.out.trans (((Below.refl _ _).drew.trans hbz).mono HB.out.size)), HC3.out _ (HB.out.trans (((Below.refl _ _).drew.trans hbz).mono HB.out.size))⟩ | exact ⟨HC1.out _ HB.out.drew, HC3.out _ HB.out.drew⟩) (first
                | (go_at_call 11; refine (HC2.out _ HB.out.drew).mono ?_; rintro e wz ⟨rfl, hbz⟩))
              all_goals
                have HBZ := Lib.hid (HB.out.trans (((Below.refl _ _).drew.trans hbz).mono HB.out.size))
                clear hbz
                go_wp2_with fail
                go_roundw
                case measure => simp [intOf]; omega
                case rel => exact ⟨k + 1, by omega, by go_num, HBZ.out⟩
            · obtain rfl : k = l.length := by omega
              have hltd : decide ((l.length : Int) < (l.length : Int)) = false := decide_eq_false (by omega)
              go_wp2_with fail
              go_ret
              exact ⟨rfl, HB5.out.trans (HB.out.mono HB5.out.size)⟩
        · have hone := one_part (wr.alloc (.cells #[.string wd] 9)) 2 wd (by omega) (by decide)
          rw [show (wr.alloc (.cells #[.string wd] 9)).heap.size = wr.heap.size + 1 by simp] at hone
          obtain ⟨K, hK⟩ : ∃ K, wr.heap.size = K := ⟨_, rfl⟩
          have HK := Lib.hid hK
          clear hK
          have HO := Lib.hid (hone)
          have HBW : Hid (Below w.heap.size w ((wr.alloc (.cells #[.string wd] 9)).alloc (.cells #[.int .i64 2, .string wd, .string ⟨#[]⟩, .string ⟨#[]⟩, .slice none 0 0, .bool false] 31))) := HWN.out.old.trans ((((Below.refl _ _).alloc (Nat.le_refl _) _).alloc (by simp) _).mono HWN.out.old.size)
          have HTW : Hid (Txt ((wr.alloc (.cells #[.string wd] 9)).alloc (.cells #[.int .i64 2, .string wd, .string ⟨#[]⟩, .string ⟨#[]⟩, .slice none 0 0, .bool false] 31)) (.slice (some ⟨wr.heap.size, 0, none⟩) 1 1) [wd]) := (one_txt wr wd).below ((Below.refl _ _).alloc (Nat.le_refl _) _)
          go_wp2_with (go_at_call 9; refine HO.out.mono ?_)
          rintro e w5 ⟨v, vals, FS, rfl, hF, hp, _, hn, hb⟩
          obtain ⟨ag, cg, rfl, hG⟩ := got_text (want := [wd]) (kd := 2) hF (hp.trans (splitL_quote 2 (by decide) _)) hn (fun x hx => by rw [List.mem_singleton] at hx; subst hx; omega)
          have HG := Lib.hid hG
          have HB5 := Lib.hid (HBW.out.trans (hb.mono HBW.out.size))
          have HT5 := Lib.hid (HTW.out.below hb)
          clear hF hp hn hb hG
          simp only [List.length_singleton] at HG ⊢
          go_wp2_with fail
          rw [HK.out]
          rw [HK.out] at HT5
          go_loopw [14] (fun i wx => ∃ k : Nat, k ≤ 1 ∧ i = .int .i64 k ∧ Hid (Below w5.heap.size w5 wx)) (fun i _ => 1 - (intOf i).toNat)
          case atStart => exact ⟨0, by omega, rfl, Below.refl _ _⟩
          case round =>
            obtain ⟨k, hk, rfl, HB⟩ := hrel
            by_cases hlt : k < 1
            · obtain rfl : k = 0 := by omega
              obtain ⟨bg, u, e1, e2, e3⟩ := HG.out 0 hlt
              subst e1
              obtain ⟨a', c', f1, f2⟩ := HT5.out.form
              obtain ⟨b, off, f3, f4, f5⟩ := f2 0 (by simp)
              injection f1 with f6 f11 f7
              clear f11
              subst f6
              subst f7
              injection f3 with f8
              injection f8 with f9 f10 _
              subst f9
              subst f10
              simp only [Nat.zero_add] at f5
              have HC1 := Lib.hid e2
              have HC2 : Hid (∀ w', Below w5.heap.size w5 w' → Calls Try.prog 11 #[u] w' fun e w2 => e = .returned (.string wd) ∧ Below w'.heap.size w' w2) := e3
              have HC3 : Hid (∀ w', Below w5.heap.size w5 w' → w'.cell? ⟨K, 0, none⟩ = some (.string wd)) := fun w' hB => (hB.cell (p := ⟨K, 0, none⟩) f4).trans f5
              have hself : (wd.toList == wd.toList) = true := by simp
              clear e2 e3 f2 f4 f5 hk hlt
              go_wp2_with fail
              go_region_held3 (fun w' => w'.cell? ⟨bg, 0, none⟩ = some u ∧ w'.cell? ⟨K, 0, none⟩ = some (.string wd)) (first | exact ⟨HC1.out _ (HB.out.trans (((Below.refl _ _).drew.trans hbz).mono HB.out.size)), HC3.out _ (HB.out.trans (((Below.refl _ _).drew.trans hbz).mono HB.out.size))⟩ | exact ⟨HC1.out _ HB.out.drew, HC3.out _ HB.out.drew⟩) (first
                | (go_at_call 11; refine (HC2.out _ HB.out.drew).mono ?_; rintro e wz ⟨rfl, hbz⟩))
              all_goals
                have HBZ := Lib.hid (HB.out.trans (((Below.refl _ _).drew.trans hbz).mono HB.out.size))
                clear hbz
                go_wp2_with fail
                go_roundw
                case measure => simp [intOf]
                case rel => exact ⟨1, by omega, rfl, HBZ.out⟩
            · obtain rfl : k = 1 := by omega
              go_wp2_with fail
              go_ret
              exact ⟨rfl, HB5.out.trans (HB.out.mono HB5.out.size)⟩
  · have h30d : decide ((30 : Int) < (l.length : Int)) = true := decide_eq_true (by omega)
    go_enter Try.func5, Try.ntmps5
    go_wp2_with (go_at_call 6; refine (alive_any _).mono ?_; rintro e w1 ⟨rfl, hb1⟩; have HB1 := Lib.hid hb1; clear hb1; simp only [])
    go_wp2_with fail
    go_ret
    exact ⟨rfl, HB1.out⟩
end Go.Proofs.Ytdkkfcpnfhfjdaa
