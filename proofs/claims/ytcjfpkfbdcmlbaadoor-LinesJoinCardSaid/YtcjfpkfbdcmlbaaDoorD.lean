import Derived.Test.YtcjfpkfbdcmlbaaDoorC
namespace Go.Proofs.YtcjfpkfbdcmlbaaDoor
open Go.RowKit
set_option linter.unusedVariables false

theorem drop_one {t : ByteArray} {k : Nat} (h : k < t.size) : t.data.toList.drop k = (t[k]'h) :: t.data.toList.drop (k + 1) := by
  rw [List.drop_eq_getElem_cons (by rw [dl]; exact h)]; rfl
theorem byte_eq (c d : UInt8) : ((c.toNat : Int) == (d.toNat : Int)) = (c == d) := by
  rw [Bool.eq_iff_iff]
  simp only [beq_iff_eq]
  constructor
  · intro h; exact UInt8.toNat_inj.1 (by omega)
  · intro h; rw [h]
theorem ext_dt {t : ByteArray} {a b : Nat} (h : a ≤ b) (hb : b ≤ t.size) : (t.extract a b).data.toList = (t.data.toList.take b).drop a ∧ (t.extract a b).size = b - a := by
  refine ⟨?_, by simp; omega⟩
  simp [ByteArray.data_extract, List.drop_take]
theorem one_byte {t : ByteArray} {k : Nat} (h : k < t.size) : (t.extract k (k + 1)).data.toList = [t[k]'h] ∧ (t.extract k (k + 1)).size = 1 := by
  have e : (t.extract k (k + 1)).size = 1 := by simp; omega
  refine ⟨?_, e⟩
  apply List.ext_getElem
  · simp; omega
  · intro i h1 h2
    simp at h2
    subst h2
    simp [ByteArray.data_extract]
    rfl
theorem cmt_pair (t : Bs) : cmt (92 :: 35 :: t) = 35 :: cmt t := by rw [cmt, if_pos ⟨rfl, rfl⟩]; rfl
theorem cmt_cut (t : Bs) : cmt (35 :: t) = [] := by rw [cmt, if_neg (fun e => absurd e.1 (by decide)), if_pos rfl]
theorem cmt_other {c : UInt8} {t : Bs} (h : ¬ (c = 92 ∧ t.head? = some 35)) (h2 : c ≠ 35) : cmt (c :: t) = c :: cmt t := by rw [cmt, if_neg h, if_neg h2]
set_option maxRecDepth 100000 in
set_option maxHeartbeats 4000000 in
theorem comment_any (s : ByteArray) (w : World) (hs : s.size ≤ 1000000000) : Calls Tryd.prog 29 #[.string s] w fun e w' => e = .returned (.string ⟨(cmt s.data.toList).toArray⟩) ∧ w' = w := by
  obtain ⟨G, hG⟩ : ∃ G, cmt s.data.toList = G := ⟨_, rfl⟩
  rw [hG]
  have HG := Lib.hid hG
  have hsI : (s.size : Int) ≤ 1000000000 := by omega
  clear hG
  go_enter Tryd.func29, Tryd.ntmps29
  go_wp2_with fail
  go_loopw [3, 4] (fun x i wx => ∃ (k : Nat) (a : ByteArray), k ≤ s.size ∧ x = .string a ∧ i = .int .i64 k ∧ wx = w ∧ a.size ≤ k ∧ Hid (a.data.toList ++ cmt (s.data.toList.drop k) = G)) (fun _ i _ => s.size - (intOf i).toNat)
  case atStart => exact ⟨0, _, by omega, rfl, rfl, rfl, by decide, HG.out⟩
  case round =>
    obtain ⟨k, a, hk, rfl, rfl, rfl, hak, HA⟩ := hrel
    by_cases hlt : k < s.size
    · have hltd : decide ((k : Int) < (s.size : Int)) = true := decide_eq_true (by omega)
      have hltI : (k : Int) < (s.size : Int) := by omega
      have hk0 : (0 : Int) ≤ (k : Int) := by omega
      have hb64 : IntKind.i64.wrap ((k : Int) + 1) = (k : Int) + 1 := IntWalk.i64_in _ (by omega)
      have hd := drop_one hlt
      obtain ⟨c, hc⟩ : ∃ c, s[k]'hlt = c := ⟨_, rfl⟩
      rw [hc] at hd
      have HD := Lib.hid hd
      have h92 := byte_eq c 92
      have h35 := byte_eq c 35
      have e92 : ((92 : UInt8).toNat : Int) = 92 := rfl
      have e35 : ((35 : UInt8).toNat : Int) = 35 := rfl
      rw [e92] at h92
      rw [e35] at h35
      clear e92 e35 hd
      have hk1 : (k : Int) + 1 ≤ (s.size : Int) := by omega
      have hk10 : (0 : Int) ≤ (k : Int) + 1 := by omega
      have hkk : (k : Int) ≤ (k : Int) + 1 := by omega
      obtain ⟨hE1, hE2⟩ := one_byte hlt
      rw [hc] at hE1
      obtain ⟨E, hE⟩ : ∃ E, s.extract k (k + 1) = E := ⟨_, rfl⟩
      rw [hE] at hE1 hE2
      have hs1 : ¬ (9223372036854775807 < a.size + 1) := by omega
      -- the two ways of a plain byte
      have HP : Hid (cmt (c :: s.data.toList.drop (k + 1)) = c :: cmt (s.data.toList.drop (k + 1)) → (a ++ E).data.toList ++ cmt (s.data.toList.drop (k + 1)) = G) := fun h => by
        have := HA.out
        rw [HD.out, h] at this
        rw [← this]; simp [hE1]
      have hsz : (a ++ E).size ≤ k + 1 := by rw [ByteArray.size_append, hE2]; omega
      clear hE1
      by_cases hc92 : c = 92
      · have g1 : ((c.toNat : Int) == 92) = true := by rw [h92, hc92]; rfl
        have g2 : ((c.toNat : Int) == 35) = false := by rw [h35, hc92]; rfl
        by_cases hl1 : k + 1 < s.size
        · have hl1d : decide ((k : Int) + 1 < (s.size : Int)) = true := decide_eq_true (by omega)
          have hl1I : (k : Int) + 1 < (s.size : Int) := by omega
          have hd1 := drop_one hl1
          obtain ⟨d, hdd⟩ : ∃ d, s[k + 1]'hl1 = d := ⟨_, rfl⟩
          rw [hdd] at hd1
          have f35 := byte_eq d 35
          rw [show ((35 : UInt8).toNat : Int) = 35 from rfl] at f35
          by_cases hd35 : d = 35
          · have g3 : ((d.toNat : Int) == 35) = true := by rw [f35, hd35]; rfl
            have HN : Hid ((a ++ ⟨#[35]⟩).data.toList ++ cmt (s.data.toList.drop (k + 1 + 1)) = G) := by
              have := HA.out
              rw [HD.out, hd1, hc92, hd35, cmt_pair] at this
              rw [Hid, ← this]; simp
            have hsz2 : (a ++ (⟨#[35]⟩ : ByteArray)).size ≤ k + 1 + 1 := by rw [ByteArray.size_append]; show a.size + 1 ≤ _; omega
            have hb65 : IntKind.i64.wrap ((k : Int) + 1 + 1) = (k : Int) + 1 + 1 := IntWalk.i64_in _ (by omega)
            clear h92 h35 f35 hd1 hc92 hd35 HP hsz hE hE2
            go_wp2_with fail
            go_roundw
            case measure => simp [intOf]; omega
            case rel => exact ⟨k + 1 + 1, _, by omega, rfl, by go_num, by simp, hsz2, HN.out⟩
          · have g3 : ((d.toNat : Int) == 35) = false := by rw [f35]; simpa using hd35
            have HN := Lib.hid (HP.out (cmt_other (fun e => by rw [hd1] at e; simp at e; exact hd35 e.2) (by rw [hc92]; decide)))
            clear h92 h35 f35 hd1 hc92 hd35 HP
            go_wp2_with fail
            go_roundw
            case measure => simp [intOf]; omega
            case rel => exact ⟨k + 1, _, by omega, rfl, by go_num, by simp, hsz, HN.out⟩
        · have hl1d : decide ((k : Int) + 1 < (s.size : Int)) = false := decide_eq_false (by omega)
          have hnil : s.data.toList.drop (k + 1) = [] := List.drop_eq_nil_of_le (by rw [dl]; omega)
          have HN := Lib.hid (HP.out (cmt_other (fun e => by rw [hnil] at e; simp at e) (by rw [hc92]; decide)))
          clear h92 h35 hc92 HP hnil
          go_wp2_with fail
          go_roundw
          case measure => simp [intOf]; omega
          case rel => exact ⟨k + 1, _, by omega, rfl, by go_num, by simp, hsz, HN.out⟩
      · have g1 : ((c.toNat : Int) == 92) = false := by rw [h92]; simpa using hc92
        by_cases hc35 : c = 35
        · have g2 : ((c.toNat : Int) == 35) = true := by rw [h35, hc35]; rfl
          have HE : Hid (Ending.returned (.string a) = .returned (.string ⟨G.toArray⟩)) := by
            have := HA.out
            rw [HD.out, hc35, cmt_cut, List.append_nil] at this
            rw [Hid, ← this, mk_data]
          clear h92 h35 hc92 hc35 HP hE hE2
          go_wp2_with fail
          go_ret
          exact ⟨HE.out, rfl⟩
        · have g2 : ((c.toNat : Int) == 35) = false := by rw [h35]; simpa using hc35
          have HN := Lib.hid (HP.out (cmt_other (fun e => hc92 e.1) hc35))
          clear h92 h35 hc92 hc35 HP
          go_wp2_with fail
          go_roundw
          case measure => simp [intOf]; omega
          case rel => exact ⟨k + 1, _, by omega, rfl, by go_num, by simp, hsz, HN.out⟩
    · obtain rfl : k = s.size := by omega
      have hltd : decide ((s.size : Int) < (s.size : Int)) = false := decide_eq_false (by omega)
      have HE : Hid (Ending.returned (.string a) = .returned (.string ⟨G.toArray⟩)) := by
        have := HA.out
        rw [List.drop_eq_nil_of_le (by rw [dl]; exact Nat.le_refl _), show cmt [] = [] by rw [cmt], List.append_nil] at this
        rw [Hid, ← this, mk_data]
      go_wp2_with fail
      go_ret
      exact ⟨HE.out, rfl⟩
set_option maxRecDepth 100000 in
set_option maxHeartbeats 4000000 in
theorem At_any (s : ByteArray) (c : UInt8) (w : World) (hs : s.size ≤ maxLen) : Calls Tryd.prog 24 #[.string s, .int .u8 c.toNat] w fun e w' => e = .returned (.int .i64 (Lib.indexByte s.data.toList c)) ∧ w' = w := by
  obtain ⟨G, hG⟩ : ∃ G, Lib.indexByte s.data.toList c = G := ⟨_, rfl⟩
  rw [hG]
  have HG := Lib.hid hG
  unfold maxLen at hs
  have hsI : (s.size : Int) ≤ 9223372036854775807 := by omega
  clear hG
  go_enter Tryd.func24, Tryd.ntmps24
  go_wp2_with fail
  go_loopw [5] (fun i wx => ∃ k : Nat, k ≤ s.size ∧ i = .int .i64 k ∧ wx = w ∧ Hid (∀ x ∈ s.data.toList.take k, x ≠ c)) (fun i _ => s.size - (intOf i).toNat)
  case atStart => exact ⟨0, by omega, rfl, rfl, fun x hx => by cases hx⟩
  case round =>
    obtain ⟨k, hk, rfl, rfl, HA⟩ := hrel
    by_cases hlt : k < s.size
    · have hltd : decide ((k : Int) < (s.size : Int)) = true := decide_eq_true (by omega)
      have hltI : (k : Int) < (s.size : Int) := by omega
      have hk0 : (0 : Int) ≤ (k : Int) := by omega
      have hd := drop_one hlt
      have htk : s.data.toList.take (k + 1) = s.data.toList.take k ++ [s[k]'hlt] := by
        rw [List.take_add_one, Lib.data_getElem? s k hlt]; rfl
      obtain ⟨d, hdd⟩ : ∃ d, s[k]'hlt = d := ⟨_, rfl⟩
      rw [hdd] at hd htk
      have hb := byte_eq d c
      by_cases hdc : d = c
      · have g1 : ((d.toNat : Int) == (c.toNat : Int)) = true := by rw [hb, hdc]; simp
        have HE : Hid ((k : Int) = G) := by
          have h2 := index_hit (c := c) (s.data.toList.take k) (s.data.toList.drop (k + 1)) HA.out
          have h3 : s.data.toList.take k ++ c :: s.data.toList.drop (k + 1) = s.data.toList := by rw [← hdc, ← hd, List.take_append_drop]
          rw [h3, List.length_take, dl] at h2
          rw [Hid, ← HG.out, h2]; omega
        clear hd htk hb hdc
        go_wp2_with fail
        go_ret
        exact ⟨congrArg (fun b => Ending.returned (.int .i64 b)) HE.out, rfl⟩
      · have g1 : ((d.toNat : Int) == (c.toNat : Int)) = false := by rw [hb]; simpa using hdc
        have HN : Hid (∀ x ∈ s.data.toList.take (k + 1), x ≠ c) := fun x hx => by
          rw [htk] at hx
          rcases List.mem_append.1 hx with hx | hx
          · exact HA.out x hx
          · simp at hx; rw [hx]; exact hdc
        clear hd htk hb hdc
        go_wp2_with fail
        go_roundw
        case measure => simp [intOf]; omega
        case rel => exact ⟨k + 1, by omega, by go_num, by simp, HN.out⟩
    · obtain rfl : k = s.size := by omega
      have hltd : decide ((s.size : Int) < (s.size : Int)) = false := decide_eq_false (by omega)
      have HE : Hid ((-1 : Int) = G) := by
        have := HA.out
        rw [List.take_of_length_le (by rw [dl]; exact Nat.le_refl _)] at this
        rw [Hid, ← HG.out, index_miss _ this]
      go_wp2_with fail
      go_ret
      exact ⟨congrArg (fun b => Ending.returned (.int .i64 b)) HE.out, rfl⟩
/-- The lines of a text, whole as it is cut. -/
structure CutR (w0 w : World) (v : Value) (s : ByteArray) (n : Nat) (L : List ByteArray) (f0 k : Nat) : Prop where
  wn : Wn w0 w v L
  len : L.length ≤ k
  le : f0 ≤ k ∧ k ≤ s.size
  no : ∀ c ∈ (s.data.toList.take k).drop f0, c ≠ 10
  eq : L.map (·.data.toList) ++ seg (s.data.toList.drop f0) = seg s.data.toList
theorem take_one {t : ByteArray} {k fr : Nat} (h : k < t.size) (hf : fr ≤ k) : (t.data.toList.take (k + 1)).drop fr = (t.data.toList.take k).drop fr ++ [t[k]'h] := by
  rw [List.take_add_one, Lib.data_getElem? t k h, List.drop_append_of_le_length (by rw [List.length_take, dl]; omega)]; rfl
theorem mid_split {t : ByteArray} {k f0 : Nat} (hf : f0 ≤ k) (hk : k ≤ t.size) : t.data.toList.drop f0 = (t.data.toList.take k).drop f0 ++ t.data.toList.drop k := by
  conv => lhs; rw [← List.take_append_drop k t.data.toList]
  rw [List.drop_append_of_le_length (by rw [List.length_take, dl]; omega)]
set_option maxRecDepth 100000 in
set_option maxHeartbeats 4000000 in
theorem cut_any (s : ByteArray) (w : World) (hs : s.size ≤ 80000) : Calls Tryd.prog 25 #[.string s] w fun e w' => ∃ v L, e = .returned v ∧ Wn w w' v L ∧ L.map (·.data.toList) = phys s.data.toList ∧ L.length ≤ s.size + 1 := by
  have hsI : (s.size : Int) ≤ 80000 := by omega
  go_enter Tryd.func25, Tryd.ntmps25
  go_wp2_with fail
  go_loopw [3, 4, 5] (fun x f i wx => ∃ (k f0 : Nat) (v : Value) (L : List ByteArray), v = x ∧ f = .int .i64 f0 ∧ i = .int .i64 k ∧ Hid (CutR w wx v s 0 L f0 k)) (fun _ _ i _ => s.size - (intOf i).toNat)
  case atStart => exact ⟨0, 0, _, [], rfl, rfl, rfl, ⟨Wn.nil _, Nat.le_refl _, ⟨Nat.le_refl _, Nat.zero_le _⟩, (fun c hc => by simp at hc), rfl⟩⟩
  case round =>
    obtain ⟨k, f0, v, L, rfl, rfl, rfl, HC⟩ := hrel
    obtain ⟨hwn, hlen, ⟨hfk, hk⟩, hno, heq⟩ := HC.out
    by_cases hlt : k < s.size
    · have hltd : decide ((k : Int) < (s.size : Int)) = true := decide_eq_true (by omega)
      have hltI : (k : Int) < (s.size : Int) := by omega
      have hk0 : (0 : Int) ≤ (k : Int) := by omega
      have hf0 : (0 : Int) ≤ (f0 : Int) := by omega
      have hfkI : (f0 : Int) ≤ (k : Int) := by omega
      have hkI : (k : Int) ≤ (s.size : Int) := by omega
      have hd := drop_one hlt
      have ht1 := take_one hlt hfk
      obtain ⟨c, hc⟩ : ∃ c, s[k]'hlt = c := ⟨_, rfl⟩
      rw [hc] at hd ht1
      have hb := byte_eq c 10
      rw [show ((10 : UInt8).toNat : Int) = 10 from rfl] at hb
      by_cases h10 : c = 10
      · have g1 : ((c.toNat : Int) == 10) = true := by rw [hb, h10]; rfl
        obtain ⟨hE1, hE2⟩ := ext_dt hfk hk
        obtain ⟨E, hE⟩ : ∃ E, s.extract f0 k = E := ⟨_, rfl⟩
        rw [hE] at hE1
        obtain ⟨v6, w6, r6, h6⟩ := hwn.push (by omega) E
        have HN : Hid (CutR w w6 v6 s 0 (L ++ [E]) (k + 1) (k + 1)) := by
          refine ⟨h6, by rw [List.length_append, List.length_singleton]; omega, ⟨Nat.le_refl _, by omega⟩, fun c hc => ?_, ?_⟩
          · rw [List.drop_eq_nil_of_le (by rw [List.length_take]; omega)] at hc; cases hc
          · rw [← heq, mid_split hfk hk, hd, h10, seg_app _ _ hno]; simp [hE1]
        clear hwn hlen hno heq hd ht1 hb h10 hE1 hE2 h6 HC
        go_wp2_with (at_builtin; refine wpList_run_append _ rfl _ _ 32 32 rfl _ _ rfl rfl r6 ?_)
        go_roundw
        case measure => simp [intOf]; omega
        case rel => exact ⟨k + 1, k + 1, _, _, rfl, by go_num, by go_num, HN.out⟩
      · have g1 : ((c.toNat : Int) == 10) = false := by rw [hb]; simpa using h10
        have HN : Hid (CutR w wr v s 0 L f0 (k + 1)) := by
          refine ⟨hwn, by omega, ⟨by omega, by omega⟩, fun x hx => ?_, heq⟩
          rw [ht1] at hx
          rcases List.mem_append.1 hx with hx | hx
          · exact hno x hx
          · simp at hx; rw [hx]; exact h10
        clear hwn hlen hno heq hd ht1 hb h10 HC
        go_wp2_with fail
        go_roundw
        case measure => simp [intOf]; omega
        case rel => exact ⟨k + 1, f0, _, _, rfl, rfl, by go_num, HN.out⟩
    · obtain rfl : k = s.size := by omega
      have hltd : decide ((s.size : Int) < (s.size : Int)) = false := decide_eq_false (by omega)
      have htd : (s.data.toList.take s.size).drop f0 = s.data.toList.drop f0 := by rw [List.take_of_length_le (by rw [dl]; exact Nat.le_refl _)]
      rw [htd] at hno
      rw [seg_one _ hno] at heq
      by_cases hf : f0 < s.size
      · have hfd : decide ((f0 : Int) < (s.size : Int)) = true := decide_eq_true (by omega)
        have hf0 : (0 : Int) ≤ (f0 : Int) := by omega
        have hfkI : (f0 : Int) ≤ (s.size : Int) := by omega
        obtain ⟨E, hE⟩ : ∃ E, s.extract f0 s.size = E := ⟨_, rfl⟩
        have hE1 : E.data.toList = s.data.toList.drop f0 := by rw [← hE]; exact Lib.extract_to_end s f0
        obtain ⟨v6, w6, r6, h6⟩ := hwn.push (by omega) E
        have HE : Hid (∃ v L, Ending.returned v6 = .returned v ∧ Wn w w6 v L ∧ L.map (·.data.toList) = phys s.data.toList ∧ L.length ≤ s.size + 1) := by
          refine ⟨v6, L ++ [E], rfl, h6, ?_, by rw [List.length_append, List.length_singleton]; omega⟩
          unfold phys
          rw [← heq, dropE_snoc, if_neg ?_]
          · simp [hE1]
          · intro e
            have := congrArg List.length e
            rw [List.length_drop, dl] at this
            simp at this; omega
        clear hwn hlen hno heq htd hE1 h6 HC
        go_wp2_with (at_builtin; refine wpList_run_append _ rfl _ _ 32 32 rfl _ _ rfl rfl r6 ?_)
        go_ret
        exact HE.out
      · have hfd : decide ((f0 : Int) < (s.size : Int)) = false := decide_eq_false (by omega)
        have HE : Hid (∃ v' L, Ending.returned v = .returned v' ∧ Wn w wr v' L ∧ L.map (·.data.toList) = phys s.data.toList ∧ L.length ≤ s.size + 1) := by
          refine ⟨v, L, rfl, hwn, ?_, by omega⟩
          unfold phys
          rw [← heq, List.drop_eq_nil_of_le (by rw [dl]; omega), dropE_snoc, if_pos rfl]
        clear hwn hlen hno heq htd HC
        go_wp2_with fail
        go_ret
        exact HE.out
end Go.Proofs.YtcjfpkfbdcmlbaaDoor
