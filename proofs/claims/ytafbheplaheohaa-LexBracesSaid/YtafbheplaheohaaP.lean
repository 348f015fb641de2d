import Derived.Test.YtafbheplaheohaaO
import Derived.Test.YtafbheplaheohaaME
namespace Go.Proofs.Ytafbheplaheohaa
open Go.RowKit
set_option linter.unusedVariables false

def zeroV : Value := .agg #[.int .i64 0, .string ⟨#[]⟩, .string ⟨#[]⟩, .string ⟨#[]⟩, .slice none 0 0, .bool false]
/-- What a call answers that reads one part. -/
def PartP (w : World) (rb : Nat) (S : ByteArray) (r : Res (Prt × Bz)) (e : Ending) (w' : World) : Prop := match r with
  | .error x => e = .returned (.tuple #[zeroV, .int .i64 x]) ∧ x ≠ 0 ∧ Only (fun k => k = rb) w w' ∧ ∃ a', Rd w' rb S a' ∧ a' ≤ 20000
  | .ok (x, t) => Only (fun k => k = rb) w w' ∧ ∃ (pt : Pt) (a' : Nat), e = .returned (.tuple #[.agg pt.cs.toArray, .int .i64 0]) ∧ pt.is x ∧ Wd w' (fun k => w.heap.size ≤ k) pt.wv x.word ∧ Rd w' rb S a' ∧ a' ≤ S.size ∧ S.data.toList.drop a' = t
def calcF (s : Bz) : Res (Prt × Bz) := match calcN 0 s with
  | none => .error 2
  | some i => .ok (.mk 4 (s.take i) [] [] [] false, s.drop (i + 2))
theorem map_add (x : Option Nat) (k : Nat) : (x.map (· + 1)).map (· + k) = x.map (· + (k + 1)) := by
  cases x with
  | none => rfl
  | some a => simp; omega
theorem box_facts {w : World} {a : Nat} {v0 v1 v2 v3 v4 v5 : Value} {ty : TypeId} (hb : w.heap[a]? = some (.cells [v0, v1, v2, v3, v4, v5].toArray ty (0, 0))) :
    w.cell? ⟨a, 0, none⟩ = some v0 ∧ w.cell? ⟨a, 1, none⟩ = some v1 ∧ w.cell? ⟨a, 2, none⟩ = some v2 ∧ w.cell? ⟨a, 3, none⟩ = some v3 ∧ w.cell? ⟨a, 4, none⟩ = some v4 ∧ w.cell? ⟨a, 5, none⟩ = some v5 ∧
    w.frozen? ⟨a, 0, none⟩ = false ∧ w.frozen? ⟨a, 1, none⟩ = false ∧ w.frozen? ⟨a, 2, none⟩ = false ∧ w.frozen? ⟨a, 3, none⟩ = false ∧ w.frozen? ⟨a, 4, none⟩ = false ∧ w.frozen? ⟨a, 5, none⟩ = false :=
  ⟨cell_of hb 0, cell_of hb 1, cell_of hb 2, cell_of hb 3, cell_of hb 4, cell_of hb 5, free_of hb 0, free_of hb 1, free_of hb 2, free_of hb 3, free_of hb 4, free_of hb 5⟩
def zeroL : List Value := [.int .i64 0, .string ⟨#[]⟩, .string ⟨#[]⟩, .string ⟨#[]⟩, .slice none 0 0, .bool false]
theorem put6_only {w w1 : World} {rb nb : Nat} (h : Only (fun k => k = rb) w w1) (hn : w.heap.size ≤ nb) (pt : Pt) : Only (fun k => k = rb) w (put6 w1 nb 0 pt) :=
  (((((h.set (.inr hn) _ _).set (.inr hn) _ _).set (.inr hn) _ _).set (.inr hn) _ _).set (.inr hn) _ _).set (.inr hn) _ _
theorem Rd.put6 {w : World} {rb nb a : Nat} {S : ByteArray} (h : Rd w rb S a) (hne : rb ≠ nb) (pt : Pt) : Rd (put6 w nb 0 pt) rb S a := (put6_other hne _ _).trans h
def pt0 : Pt := ⟨0, ⟨#[]⟩, ⟨#[]⟩, ⟨#[]⟩, .slice none 0 0, false⟩
set_option maxRecDepth 100000 in
set_option maxHeartbeats 8000000 in
theorem calc_any {w : World} {rb a : Nat} {S : ByteArray} (hr : Rd w rb S a) (ha : a ≤ S.size) (hs : S.size ≤ 20000) :
    Calls Try.prog 60 #[.pointer (some ⟨rb, 0, none⟩)] w (PartP w rb S (calcF (S.data.toList.drop a))) := by
  obtain ⟨Q, hQ⟩ : ∃ Q, PartP w rb S (calcF (S.data.toList.drop a)) = Q := ⟨_, rfl⟩
  rw [hQ]
  have HQ := Lib.hid hQ
  have hx := ext_end (t := S) (a := a) ha
  obtain ⟨X, hX⟩ : ∃ X, S.extract a S.size = X := ⟨_, rfl⟩
  rw [hX] at hx
  have HRD := Lib.hid hr
  have HREST := Lib.hid (fun w1 (hb : Below w.heap.size w w1) => rest_any rb S a w1 (hr.under hb) ha hs)
  rw [hX] at HREST
  have hXs : X.size ≤ 20000 := by omega
  have hXa : a + X.size ≤ S.size := by omega
  have HXD : Hid (X.data.toList = S.data.toList.drop a) := hx.1
  have hrl := blk_lt hr
  have HHP := Lib.hid (fun s p w => Try.strings_HasPrefix s p w)
  clear hQ hx hr hX
  go_enter Try.func60, Try.ntmps60
  go_wp2_with fail
  refine wp_scope_straight ?_
  go_wp2_with (go_at_call 21; refine (HREST.out _ ((Below.refl _ _).alloc (Nat.le_refl _) _)).mono ?_; rintro e w1 ⟨rfl, h1⟩; have hbox := (h1.block w.heap.size (by simp)).trans (heap_alloc_new w _); have H1 : Hid (Below w.heap.size w w1) := ((Below.refl _ w).alloc (Nat.le_refl _) _).trans (h1.mono (by simp)); have HBOX := Lib.hid hbox; clear h1 hbox; simp only [])
  refine wp_label ?_
  go_wp2_with fail
  have hrd1 := HRD.out.under H1.out
  have q1 : w1.cell? ⟨rb, 1, none⟩ = some (.int .i64 a) := cell_of hrd1 1
  have f1 := free_of hrd1 1
  obtain ⟨nb, hnb⟩ : ∃ nb, w.heap.size = nb := ⟨_, rfl⟩
  have hne : rb ≠ nb := by omega
  have hne' : nb ≠ rb := fun e => hne e.symm
  rw [hnb] at HBOX ⊢
  obtain ⟨b0, b1, b2, b3, b4, b5, u0, u1, u2, u3, u4, u5⟩ := box_facts HBOX.out
  have HRD1 := Lib.hid hrd1
  have HNB := Lib.hid hnb
  have HCF : Hid ((∀ x, calcN 0 X.data.toList = none → x = calcF (S.data.toList.drop a) → x = .error 2) ∧ ∀ i, calcN 0 X.data.toList = some i → calcF (S.data.toList.drop a) = .ok (.mk 4 (X.data.toList.take i) [] [] [] false, X.data.toList.drop (i + 2))) := by
    refine ⟨fun x h1 h2 => ?_, fun i h1 => ?_⟩
    · rw [h2, ← HXD.out, calcF, h1]
    · rw [← HXD.out, calcF, h1]
  have HOUT : Hid (∀ (w2 w3 : World) e, calcN 0 X.data.toList = none → Only (fun k => k = rb) w w3 → Rd w3 rb S a → e = .returned (.tuple #[zeroV, .int .i64 2]) → Q e w3) := by
    intro w2 w3 e h1 h2 h3 h4
    rw [← HQ.out, HCF.out.1 _ h1 rfl, h4]
    exact ⟨rfl, by decide, h2, a, h3, by omega⟩
  clear hrd1 hnb
  go_loopw [5, 11] (fun op ct wx => ∃ (k o : Nat), op = .int .i64 o ∧ ct = .int .i64 k ∧ k ≤ X.size ∧ o ≤ k ∧ wx = w1 ∧ Hid (calcN 0 X.data.toList = (calcN o (X.data.toList.drop k)).map (· + k))) (fun _ ct _ => X.size - (intOf ct).toNat)
  case atStart => exact ⟨0, 0, rfl, rfl, Nat.zero_le _, Nat.le_refl _, rfl, by rw [Hid, List.drop_zero]; cases calcN 0 X.data.toList <;> rfl⟩
  case round =>
    obtain ⟨k, o, rfl, rfl, hk, ho, rfl, HK⟩ := hrel
    have hk0 : (0 : Int) ≤ (k : Int) := by omega
    by_cases hlt : k < X.size
    · have hltI : (k : Int) < (X.size : Int) := by omega
      have hltd : decide ((k : Int) < (X.size : Int)) = true := decide_eq_true hltI
      have hat := data_get X k hlt
      obtain ⟨c, hc⟩ : ∃ c, X[k]'hlt = c := ⟨_, rfl⟩
      rw [hc] at hat
      have hdr := at_drop hat
      have HDR := Lib.hid hdr
      have hb64 : IntKind.i64.wrap ((k : Int) + 1) = (k : Int) + 1 := IntWalk.i64_in _ (by omega)
      have h40 := byte_eq c 40
      rw [show ((40 : UInt8).toNat : Int) = 40 from rfl] at h40
      have h41 := byte_eq c 41
      rw [show ((41 : UInt8).toNat : Int) = 41 from rfl] at h41
      have HK2 : Hid (calcN 0 X.data.toList = (calcN o (c :: X.data.toList.drop (k + 1))).map (· + k)) := by rw [Hid, HK.out, hdr]
      clear hat hdr
      by_cases e40 : c = 40
      · have hz : ((c.toNat : Int) == 40) = true := by rw [h40, e40]; rfl
        have HN : Hid (calcN 0 X.data.toList = (calcN (o + 1) (X.data.toList.drop (k + 1))).map (· + (k + 1))) := by rw [Hid, HK2.out, calcN_cons, if_pos e40, map_add]
        have ho1 : IntKind.i64.wrap ((o : Int) + 1) = (o : Int) + 1 := IntWalk.i64_in _ (by omega)
        clear h40 h41 e40
        go_wp2_with fail
        go_roundw
        case measure => simp [intOf]; omega
        case rel => exact ⟨k + 1, o + 1, by go_num, by go_num, by omega, by omega, trivial, HN.out⟩
      · have hz : ((c.toNat : Int) == 40) = false := by rw [h40]; simpa using e40
        by_cases e41 : c = 41
        · have hz1 : ((c.toNat : Int) == 41) = true := by rw [h41, e41]; rfl
          cases o with
          | succ o =>
            have HN : Hid (calcN 0 X.data.toList = (calcN o (X.data.toList.drop (k + 1))).map (· + (k + 1))) := by rw [Hid, HK2.out, calcN_cons, if_neg e40, if_pos e41]; exact map_add _ _
            have ho1 : IntKind.i64.wrap (((o + 1 : Nat) : Int) - 1) = (o : Int) := by rw [show ((o + 1 : Nat) : Int) - 1 = (o : Int) by omega]; exact IntWalk.i64_in _ (by omega)
            have ho2 : decide ((0 : Int) ≤ (o : Int)) = true := decide_eq_true (by omega)
            clear h40 h41 e40 e41
            go_wp2_with fail
            go_roundw
            case measure => simp [intOf]; omega
            case rel => exact ⟨k + 1, o, by go_num, by go_num, by omega, by omega, trivial, HN.out⟩
          | zero =>
            have hY := ext_end (t := X) (a := k) (by omega)
            obtain ⟨Y, hYY⟩ : ∃ Y, X.extract k X.size = Y := ⟨_, rfl⟩
            rw [hYY] at hY
            have HP := Lib.hid (fun w => HHP.out Y ⟨#[41, 41]⟩ w)
            obtain ⟨z, hzz⟩ : ∃ z, Lib.hasPrefix Y.data.toList [41, 41] = z := ⟨_, rfl⟩
            have HP2 : Hid (∀ w, Calls Try.prog 31 #[.string Y, .string ⟨#[41, 41]⟩] w fun e w' => e = .returned (.bool z) ∧ w' = w) := by rw [Hid, ← hzz]; exact HP.out
            have HZ : Hid (z = decide ((X.data.toList.drop (k + 1)).head? = some 41)) := by
              rw [Hid, ← hzz, hY.1, HDR.out, e41]
              cases X.data.toList.drop (k + 1) with
              | nil => rfl
              | cons d r =>
                simp only [Lib.hasPrefix, List.isPrefixOf, List.head?_cons, Option.some.injEq]
                by_cases h : d = 41
                · subst h; rfl
                · have h' : (41 : UInt8) ≠ d := fun e => h e.symm
                  simp [h, h']
            have hkI : (k : Int) ≤ (X.size : Int) := by omega
            have hwn : IntKind.i64.wrap ((0 : Int) - 1) = -1 := IntWalk.i64_in _ (by omega)
            cases z with
            | false =>
              have HN : Hid (calcN 0 X.data.toList = none) := by
                rw [Hid, HK2.out, calcN_cons, if_neg e40, if_pos e41]
                simp only
                rw [if_neg (by simpa using HZ.out.symm)]; rfl
              clear h40 h41 e40 e41 hzz HP
              go_wp2_with (go_at_call 31; refine (HP2.out _).mono ?_; rintro e w5 ⟨rfl, h5⟩; obtain rfl := h5.symm; simp only [])
              try simp +zetaDelta only [Exit.noGoto_ret]
              refine bodyPost_ret (v := .tuple #[zeroV, .int .i64 2]) ?_ rfl ?_
              · simp [results, Try.results60, go_sem, b0, b1, b2, b3, b4, b5]
                rfl
              · exact HOUT.out wr (put6 wr nb 0 pt0) _ HN.out (put6_only (Only.of_below H1.out) (by rw [HNB.out]; exact Nat.le_refl _) pt0) (HRD1.out.put6 hne pt0) rfl
            | true =>
              have HN : Hid (calcN 0 X.data.toList = some k) := by
                rw [Hid, HK2.out, calcN_cons, if_neg e40, if_pos e41]
                simp only
                rw [if_pos (by simpa using HZ.out.symm)]; simp
              clear h40 h41 e40 e41 hzz HP
              have hk2 : k + 2 ≤ X.size := by
                have h1 : (X.data.toList.drop (k + 1)).head? = some 41 := by simpa using HZ.out.symm
                by_cases h2 : k + 2 ≤ X.size
                · exact h2
                · rw [List.drop_of_length_le (by rw [dl]; omega)] at h1; cases h1
              have hw1 : IntKind.i64.wrap ((k : Int) + 2) = (k : Int) + 2 := IntWalk.i64_in _ (by omega)
              have hw2 : IntKind.i64.wrap ((a : Int) + ((k : Int) + 2)) = (a : Int) + ((k : Int) + 2) := IntWalk.i64_in _ (by omega)
              go_wp2_with (go_at_call 31; refine (HP2.out _).mono ?_; rintro e w5 ⟨rfl, h5⟩; obtain rfl := h5.symm; simp only [])
              try simp +zetaDelta only [Exit.noGoto_ret]
              have hcast : (a : Int) + ((k : Int) + 2) = ((a + (k + 2) : Nat) : Int) := by omega
              have hE := ext_dt (t := X) (a := 0) (b := k) (Nat.zero_le _) (by omega)
              rw [List.drop_zero] at hE
              refine bodyPost_ret (v := .tuple #[.agg #[.int .i64 4, .string (X.extract 0 k), .string ⟨#[]⟩, .string ⟨#[]⟩, .slice none 0 0, .bool false], .int .i64 0]) ?_ rfl ?_
              · simp [results, Try.results60, go_sem, b0, b1, b2, b3, b4, b5]
              · rw [← HQ.out, HCF.out.2 k HN.out, hcast]
                refine ⟨put6_only ((Only.of_below (S := fun k => k = rb) H1.out).set (g := rb) (.inl rfl) 1 _) (by rw [HNB.out]; exact Nat.le_refl _) ⟨4, X.extract 0 k, ⟨#[]⟩, ⟨#[]⟩, .slice none 0 0, false⟩, ⟨4, X.extract 0 k, ⟨#[]⟩, ⟨#[]⟩, .slice none 0 0, false⟩, a + (k + 2), rfl, ⟨rfl, hE.1, rfl, rfl, rfl⟩, .nil 0, (HRD1.out.set (a + (k + 2))).put6 hne ⟨4, X.extract 0 k, ⟨#[]⟩, ⟨#[]⟩, .slice none 0 0, false⟩, by omega, ?_⟩
                rw [HXD.out, List.drop_drop]
        · have hz1 : ((c.toNat : Int) == 41) = false := by rw [h41]; simpa using e41
          have HN : Hid (calcN 0 X.data.toList = (calcN o (X.data.toList.drop (k + 1))).map (· + (k + 1))) := by rw [Hid, HK2.out, calcN_cons, if_neg e40, if_neg e41, map_add]
          clear h40 h41 e40 e41
          go_wp2_with fail
          go_roundw
          case measure => simp [intOf]; omega
          case rel => exact ⟨k + 1, o, by go_num, rfl, by omega, by omega, trivial, HN.out⟩
    · have hltd : decide ((k : Int) < (X.size : Int)) = false := decide_eq_false (by omega)
      have HN : Hid (calcN 0 X.data.toList = none) := by
        rw [Hid, HK.out, List.drop_of_length_le (by rw [dl]; omega)]; rfl
      go_wp2_with fail
      try simp +zetaDelta only [Exit.noGoto_ret]
      refine bodyPost_ret (v := .tuple #[zeroV, .int .i64 2]) ?_ rfl ?_
      · simp [results, Try.results60, go_sem, b0, b1, b2, b3, b4, b5]
        rfl
      · exact HOUT.out wr (put6 wr nb 0 pt0) _ HN.out (put6_only (Only.of_below H1.out) (by rw [HNB.out]; exact Nat.le_refl _) pt0) (HRD1.out.put6 hne pt0) rfl
end Go.Proofs.Ytafbheplaheohaa
