import Derived.Test.YtcmjpkfinbakkaaGreatDoorGG
import Derived.Laws.IdiomStrings
import Derived.Deep.AppendLies
import Derived.Test.YtcmjpkfinbakkaaGreatDoorRows
import Derived.WalkKit
import Derived.Lib.Hide
import Derived.Lib.Strings
import Derived.Sort.EncStr
import Derived.Maps.OwnSet
import Derived.Maps.Views
import Derived.OwnWalk
import Derived.Laws.AppendOwn
import Derived.Laws.OwnMore
import Derived.StringKeys
import Derived.WalkSpells
import Derived.WalkLawsBesides
namespace Go.Proofs.YtcmjpkfinbakkaaGreatDoor.Gb
open Go.RowKit

def allLit (P : List It) : Bool := P.all fun it => it.1 == 0
def chars (P : List It) : List UInt8 := P.map fun it => it.2.1

theorem own53_kept {w w' : World} {B b n : Nat} {v : Value} {l : List Value} (h : w.ownsRow B 133 6 v n l) (hk : Lib.OthersKept 5 (some b) w w') (hb : ∀ g, v.ownBlock = some g → g ≠ b) : w'.ownsRow B 133 6 v n l := by
  refine ⟨h.1, ?_⟩
  rcases h.2 with h1 | ⟨g, cap, cur, h1, h2, hg, h3⟩
  · exact .inl h1
  · refine .inr ⟨g, cap, cur, h1, h2, hk g _ hg (fun e => ?_) (fun c fz e => ?_), h3⟩
    · injection e with e
      exact hb g (by rw [h1]; rfl) e
    · injection e with _ e2 _
      exact absurd e2 (by decide)

theorem pcs_len (x : Pc) : x.cs.length = 6 := rfl
theorem flat_at : ∀ (xs : List Pc) (i q : Nat) (hi : i < xs.length), q < 6 → (flat xs)[i * 6 + q]? = xs[i].cs[q]?
  | [], i, q, hi, _ => absurd hi (by simp)
  | x :: xs, 0, q, hi, hq => by
    show (x.cs ++ flat xs)[0 * 6 + q]? = x.cs[q]?
    rw [List.getElem?_append_left (by rw [pcs_len]; omega), Nat.zero_mul, Nat.zero_add]
  | x :: xs, i + 1, q, hi, hq => by
    show (x.cs ++ flat xs)[(i + 1) * 6 + q]? = _
    rw [List.getElem?_append_right (by rw [pcs_len]; omega), pcs_len, show (i + 1) * 6 + q - 6 = i * 6 + q by omega]
    exact flat_at xs i q (by simpa using hi) hq
theorem add6 (g i : Nat) : (⟨g, 0, none⟩ : Addr).add (i * 6) = ⟨g, i * 6, none⟩ := by unfold Addr.add; by_cases h : i * 6 = 0 <;> simp [h]

/-- What stands at the head of a round. -/
structure PlRel (w wr : World) (v : Value) (ps : List Pc) (k : Nat) : Prop where
  bd : Lib.IsBuilder 121 5 w.heap.size w.heap.size (Lib.byteCells ((chars (ps.map sem)).take k)) wr
  row : wr.ownsRow (w.heap.size + 1) 133 6 v ps.length (flat ps)
  lt : ∀ p ∈ ps, ∀ q, p.v q < 18446744073709551616
  lit : ∀ j (h : j < ps.length), j < k → ps[j].kind = 0
  old : Below w.heap.size w wr

set_option maxRecDepth 100000 in
set_option maxHeartbeats 4000000 in
theorem Plain_any (p : ByteArray) (w : World) (hp : p.size ≤ 100000) (P : List It) (HP : Hid (pcs p (p.size + 1) 0 true = P)) :
    Calls Tryz.prog 40 #[.string p] w fun e w' => e = .returned (.tuple #[.string (if allLit P then ⟨(chars P).toArray⟩ else ⟨#[]⟩), .bool (allLit P)]) ∧ Below w.heap.size w w' := by
  obtain ⟨fl, hfl⟩ : ∃ fl, allLit P = fl := ⟨_, rfl⟩
  obtain ⟨rs, hrs⟩ : ∃ rs : ByteArray, (if allLit P then ⟨(chars P).toArray⟩ else ⟨#[]⟩) = rs := ⟨_, rfl⟩
  rw [hrs, hfl]
  have HFL := Lib.hid hfl
  have HRS : Hid ((if fl then ⟨(chars P).toArray⟩ else ⟨#[]⟩) = rs) := by unfold Hid; rw [← hfl]; exact hrs
  clear hfl hrs
  go_enter Tryz.func40, Tryz.ntmps40
  go_wp2_with fail
  have HN := Lib.hid (bd_new w w.heap.size (Nat.le_refl _))
  have HB := Lib.hid ((Below.refl w.heap.size w).alloc (Nat.le_refl _) (.cells #[.pointer none, .slice none 0 0] 121))
  refine (pieces_core p _ hp P HP).mono ?_
  rintro e w1 ⟨v, ps, rfl, hown, hlt, hsem, hlen, hB⟩
  have hz : (w.alloc (.cells #[.pointer none, .slice none 0 0] 121)).heap.size = w.heap.size + 1 := by simp
  have hS := sl_of_row hown hlt
  rw [hz] at hown
  have HR : Hid (PlRel w w1 v ps 0) := ⟨by simpa [Lib.byteCells] using bd_below HN.out hB, hown, hlt, fun j _ h => absurd h (Nat.not_lt_zero _), HB.out.trans (hB.mono (by simp))⟩
  obtain ⟨a, cap, rfl, hcap, hcm, _⟩ := hS
  have HSEM := Lib.hid hsem
  clear hown hlt hsem hB hz HN HB
  go_wp2_with fail
  go_loopw [10] (fun i wr => ∃ k : Nat, i = .int .i64 k ∧ k ≤ ps.length ∧ Hid (PlRel w wr (.slice a ps.length cap) ps k)) (fun i _ => ps.length - (intOf i).toNat)
  case atStart => exact ⟨0, rfl, by omega, HR.out⟩
  case round =>
    obtain ⟨k, rfl, hk, HK⟩ := hrel
    by_cases hlt : k < ps.length
    · have hltI : (k : Int) < (ps.length : Int) := by omega
      obtain ⟨g, cap', ea, hgb, hgw⟩ := HK.out.row.form (by omega)
      injection ea with e1 _ e3
      subst e1
      subst e3
      have hcell : ∀ q v, q < 6 → ps[k].cs[q]? = some v → wr.cell? ⟨g, k * 6 + q, none⟩ = some v := fun q v hq hv => by
        rw [World.ownsRow.cellAt HK.out.row (k * 6 + q) (by omega), flat_at ps k q hlt hq, hv]
      have l0 := hcell 0 _ (by omega) rfl
      have l1 := hcell 1 _ (by omega) rfl
      have l2 := hcell 2 _ (by omega) rfl
      have l3 := hcell 3 _ (by omega) rfl
      have l4 := hcell 4 _ (by omega) rfl
      have l5 := hcell 5 _ (by omega) rfl
      rw [Nat.add_zero] at l0
      have hadd := add6 g k
      have HPK : Hid (P[k]? = some (sem ps[k])) := by unfold Hid; rw [← HSEM.out]; simp [hlt]
      have hzw := HK.out.old.size
      clear hcell
      generalize ps[k] = x at *
      have HAL := Lib.hid ((Below.refl wr.heap.size wr).alloc (Nat.le_refl _) (.cells #[.int .i64 x.kind, .int .u8 x.ch.toNat, .int .u64 (x.v 0), .int .u64 (x.v 1), .int .u64 (x.v 2), .int .u64 (x.v 3)] 133))
      by_cases hx0 : x.kind = 0
      · have hb : ((x.kind : Int) != 0) = false := by simp [hx0]
        have HX0 := Lib.hid hx0
        clear hx0
        go_wp2_with fail
        refine (bd_writeByte w.heap.size w.heap.size _ x.ch.toNat _ (bd_below HK.out.bd HAL.out) (by rw [bc_len, List.length_take]; omega) (by simp; omega)).mono ?_
        rintro e w2 ⟨rfl, hb2, hB2, hO2⟩
        have HX : Hid (PlRel w w2 (.slice (some ⟨g, 0, none⟩) ps.length cap) ps (k + 1)) := by
          refine ⟨?_, own53_kept (HK.out.row.kept (gb_below HAL.out) (own_em _)) hO2 (fun j hj => by simp [Value.ownBlock] at hj; omega), HK.out.lt, fun j hj hjk => ?_, (HK.out.old.trans (HAL.out.mono hzw)).trans hB2⟩
          · rw [bc_snoc] at hb2
            have : (chars (ps.map sem)).take (k + 1) = (chars (ps.map sem)).take k ++ [x.ch] := by
              have hc : (chars (ps.map sem))[k]? = some x.ch := by
                have := HPK.out
                rw [← HSEM.out] at this
                unfold chars
                rw [List.getElem?_map, this]; rfl
              rw [List.take_add_one, hc]; rfl
            rw [this]; exact hb2
          · by_cases h : j < k
            · exact HK.out.lit j hj h
            · obtain rfl : j = k := by omega
              have := HPK.out
              rw [← HSEM.out, List.getElem?_map, List.getElem?_eq_getElem hj] at this
              simp only [Option.map_some, Option.some.injEq] at this
              have h2 : (sem ps[j]).1 = (sem x).1 := by rw [this]
              exact h2.trans HX0.out
        clear hb2 hB2 hO2
        go_wp2_with fail
        exact ⟨⟨k + 1, by go_num, by omega, HX.out⟩, by simp [intOf]; omega⟩
      · have hb : ((x.kind : Int) != 0) = true := by rw [bne_iff_ne]; omega
        have HA : Hid (fl = false) := by
          unfold Hid
          rw [← HFL.out]
          unfold allLit
          rw [List.all_eq_false]
          refine ⟨sem x, List.mem_of_getElem? HPK.out, ?_⟩
          show ¬ (x.kind == 0) = true
          simpa using hx0
        have HE : Hid (rs = ⟨#[]⟩) := by unfold Hid; rw [← HRS.out, HA.out]; rfl
        clear hx0
        go_wp2_with fail
        go_ret2
        refine ⟨by rw [HA.out, HE.out]; rfl, HK.out.old.trans (HAL.out.mono hzw)⟩
    · have hge : ¬ (k : Int) < (ps.length : Int) := by omega
      have HA : Hid (fl = true) := by
        unfold Hid
        rw [← HFL.out, ← HSEM.out]
        unfold allLit
        rw [List.all_eq_true]
        intro it hit
        obtain ⟨x, hx, rfl⟩ := List.mem_map.1 hit
        obtain ⟨j, hj, rfl⟩ := List.mem_iff_getElem.1 hx
        show (ps[j].kind == 0) = true
        rw [HK.out.lit j hj (by omega)]; rfl
      have HE : Hid (rs = ⟨(chars P).toArray⟩) := by unfold Hid; rw [← HRS.out, HA.out]; rfl
      have hbd := HK.out.bd
      rw [List.take_of_length_le (by unfold chars; simp; omega), HSEM.out] at hbd
      have HBD := Lib.hid hbd
      clear hbd
      go_wp2_with fail
      refine (Tryz.Builder_String_any w.heap.size w.heap.size (chars P) _ HBD.out HK.out.old.size).mono ?_
      rintro e w2 ⟨rfl, hB2⟩
      have HX := Lib.hid (HK.out.old.trans hB2)
      clear hB2
      go_wp2_with fail
      go_ret2
      exact ⟨by rw [HA.out, HE.out]; rfl, HX.out⟩
end Go.Proofs.YtcmjpkfinbakkaaGreatDoor.Gb

namespace Go.Proofs.YtcmjpkfinbakkaaGreatDoor.Gb
open Go.RowKit

theorem data_app (a b : ByteArray) : (a ++ b).data.toList = a.data.toList ++ b.data.toList := by simp
section
variable (a b : ByteArray)
theorem gb_right (i : Nat) : gb (a ++ b) (a.size + i) = gb b i := by
  unfold gb; rw [data_app]
  have h : (a.data.toList ++ b.data.toList)[a.size + i]? = b.data.toList[i]? := by
    have hl : a.data.toList.length = a.size := by simp
    rw [List.getElem?_append_right (by omega), hl, Nat.add_sub_cancel_left]
  rw [List.getD_eq_getElem?_getD, List.getD_eq_getElem?_getD, h]
theorem gb_left (i : Nat) (h : i < a.size) : gb (a ++ b) i = gb a i := by
  unfold gb; rw [data_app]
  have h' : i < a.data.toList.length := by simpa using h
  simp only [List.getD_eq_getElem?_getD]
  rw [List.getElem?_append_left h']
theorem size_app : (a ++ b).size = a.size + b.size := ByteArray.size_append
theorem rb_right (i : Nat) : rb (a ++ b) (a.size + i) = rb b i := by
  unfold rb
  rw [gb_right, size_app, Nat.add_assoc, gb_right]
  simp only [Nat.add_lt_add_iff_left]
theorem rbn_right (i : Nat) : rbn (a ++ b) (a.size + i) = a.size + rbn b i := by
  unfold rbn
  rw [gb_right, size_app, Nat.add_assoc]
  simp only [Nat.add_lt_add_iff_left]
  split <;> omega
theorem nbOf_right (i : Nat) : nbOf (a ++ b) (a.size + i) = nbOf b i := by
  unfold nbOf
  rw [gb_right, size_app]
  simp only [Nat.add_lt_add_iff_left]
theorem iOf_right (nb : Bool) (n i : Nat) : iOf nb (n + i) = n + iOf nb i := by unfold iOf; split <;> omega

theorem rs_right : ∀ (n k : Nat) (fb : Bool) (f : Nat → Bool), rs (a ++ b) n (a.size + k) fb f = ((rs b n k fb f).1, if (rs b n k fb f).2 = 0 then 0 else a.size + (rs b n k fb f).2) := by
  intro n
  induction n with
  | zero => intro k fb f; rfl
  | succ n ih =>
    intro k fb f
    rw [rs, rs]
    simp only [gb_right, size_app, Nat.add_lt_add_iff_left, rbn_right, Nat.add_assoc, rb_right]
    by_cases hk : k < b.size
    · rw [if_pos hk, if_pos hk]
      by_cases h93 : gb b k = 93 ∧ fb = false
      · rw [if_pos h93, if_pos h93]; simp
      · rw [if_neg h93, if_neg h93]
        by_cases hs : rbn b k + 1 < b.size ∧ gb b (rbn b k) = 45 ∧ gb b (rbn b k + 1) ≠ 93
        · rw [if_pos hs, if_pos hs, ih]
        · rw [if_neg hs, if_neg hs, ih]
    · rw [if_neg hk, if_neg hk]; rfl

theorem rdSet_right (i : Nat) : rdSet (a ++ b) (a.size + i) = ((rdSet b i).1, if (rdSet b i).2 = 0 then 0 else a.size + (rdSet b i).2) := by
  unfold rdSet
  simp only [nbOf_right, iOf_right, size_app]
  rw [show a.size + b.size + 1 - (a.size + iOf (nbOf b i) i) = b.size + 1 - iOf (nbOf b i) i from by omega, rs_right]

theorem pcs_right : ∀ (n i : Nat) (cl : Bool), pcs (a ++ b) n (a.size + i) cl = pcs b n i cl := by
  intro n
  induction n with
  | zero => intro i cl; rfl
  | succ n ih =>
    intro i cl
    rw [pcs, pcs]
    simp only [gb_right, size_app, Nat.add_lt_add_iff_left, rbn_right, Nat.add_assoc, rb_right, rdSet_right, ih]
    by_cases h0 : (rdSet b (i + 1)).2 = 0
    · simp [h0]
    · simp only [h0, if_false, ih]
      rw [if_pos (show a.size + (rdSet b (i + 1)).2 ≠ 0 from by omega), if_pos h0]

end
def Q (l : List UInt8) : ByteArray := ⟨(qt l).toArray⟩
theorem Q_cons (c : UInt8) (l : List UInt8) : Q (c :: l) = (⟨(if spc c then [92, c] else [c]).toArray⟩ : ByteArray) ++ Q l := by
  unfold Q
  apply ByteArray.ext
  rw [ByteArray.data_append]
  simp [qt]
theorem pcs_Q : ∀ (l : List UInt8), pcs (Q l) ((Q l).size + 1) 0 true = l.map itLit
  | [] => by
    rw [pcs, if_neg (by simp [Q, qt, ByteArray.size])]; rfl
  | c :: l => by
    have ih := pcs_Q l
    rw [Q_cons]
    cases hc : spc c
    · have hA : (⟨(if false = true then [92, c] else [c]).toArray⟩ : ByteArray).size = 1 := by simp [ByteArray.size]
      have g0 : gb ((⟨(if false = true then [92, c] else [c]).toArray⟩ : ByteArray) ++ Q l) 0 = c := by rw [gb_left _ _ 0 (by rw [hA]; omega)]; rfl
      have hne : c ≠ 42 ∧ c ≠ 63 ∧ c ≠ 91 ∧ c ≠ 92 := by
        unfold spc at hc
        simp only [Bool.or_eq_false_iff, beq_eq_false_iff_ne] at hc
        exact ⟨hc.1.1.1, hc.1.1.2, hc.1.2, hc.2⟩
      have r0 : rb ((⟨(if false = true then [92, c] else [c]).toArray⟩ : ByteArray) ++ Q l) 0 = c := by unfold rb; rw [g0, if_neg (fun h => hne.2.2.2 h.1)]
      have n0 : rbn ((⟨(if false = true then [92, c] else [c]).toArray⟩ : ByteArray) ++ Q l) 0 = 1 := by unfold rbn; rw [g0, if_neg (fun h => hne.2.2.2 h.1)]
      rw [pcs, if_pos (by rw [size_app, hA]; omega), g0, if_neg hne.1, if_neg hne.2.1, if_neg (fun h => hne.2.2.1 h.1), r0, n0, List.map_cons]
      congr 1
      have := pcs_right (⟨(if false = true then [92, c] else [c]).toArray⟩ : ByteArray) (Q l) (((⟨(if false = true then [92, c] else [c]).toArray⟩ : ByteArray) ++ Q l).size) 0 true
      rw [hA, Nat.add_zero] at this
      rw [this, ← ih]
      exact pcs_fuel _ _ _ _ _ (by rw [size_app, hA]; omega) (by omega)
    · have hA : (⟨(if true = true then [92, c] else [c]).toArray⟩ : ByteArray).size = 2 := by simp [ByteArray.size]
      have g0 : gb ((⟨(if true = true then [92, c] else [c]).toArray⟩ : ByteArray) ++ Q l) 0 = 92 := by rw [gb_left _ _ 0 (by rw [hA]; omega)]; rfl
      have g1 : gb ((⟨(if true = true then [92, c] else [c]).toArray⟩ : ByteArray) ++ Q l) (0 + 1) = c := by rw [gb_left _ _ (0 + 1) (by rw [hA]; omega)]; rfl
      have hz : 0 + 1 < ((⟨(if true = true then [92, c] else [c]).toArray⟩ : ByteArray) ++ Q l).size := by rw [size_app, hA]; omega
      have r0 : rb ((⟨(if true = true then [92, c] else [c]).toArray⟩ : ByteArray) ++ Q l) 0 = c := by unfold rb; rw [g0, if_pos ⟨rfl, hz⟩, g1]
      have n0 : rbn ((⟨(if true = true then [92, c] else [c]).toArray⟩ : ByteArray) ++ Q l) 0 = 2 := by unfold rbn; rw [g0, if_pos ⟨rfl, hz⟩]
      rw [pcs, if_pos (by rw [size_app, hA]; omega), g0, if_neg (by decide), if_neg (by decide), if_neg (fun h => absurd h.1 (by decide)), r0, n0, List.map_cons]
      congr 1
      have := pcs_right (⟨(if true = true then [92, c] else [c]).toArray⟩ : ByteArray) (Q l) (((⟨(if true = true then [92, c] else [c]).toArray⟩ : ByteArray) ++ Q l).size) 0 true
      rw [hA, Nat.add_zero] at this
      rw [this, ← ih]
      exact pcs_fuel _ _ _ _ _ (by rw [size_app, hA]; omega) (by omega)
theorem chars_lits (l : List UInt8) : chars (l.map itLit) = l ∧ allLit (l.map itLit) = true := by
  constructor
  · unfold chars; rw [List.map_map]; exact List.map_id' l
  · unfold allLit; rw [List.all_eq_true]; intro it hit; obtain ⟨c, _, rfl⟩ := List.mem_map.1 hit; rfl
end Go.Proofs.YtcmjpkfinbakkaaGreatDoor.Gb

namespace Go.Proofs.YtcmjpkfinbakkaaGreatDoor.Vf
set_option maxRecDepth 100000
open Go.RowKit Go.Maps Go.ChangeMaps
set_option linter.unusedVariables false

abbrev Bz := List UInt8
abbrev Pth := List Bz
/-- A node: a file with its bytes, or a directory; and its time. -/
structure Nd where
  file : Bool
  data : Bz
  time : Int
abbrev Tr := Pth → Option Nd
/-- How an element reads: where it points to. -/
def ptrR : Value → Option (DataW Unit × List MemPlace)
  | .pointer none => some (.nil, [])
  | .pointer (some ⟨b, 0, none⟩) => some (.lit (.int .i64 b), [])
  | _ => none
def ptrV : Option Nat → Value
  | none => .pointer none
  | some b => .pointer (some ⟨b, 0, none⟩)
def ptrD : Option Nat → DataW Unit
  | none => .nil
  | some b => .lit (.int .i64 b)
theorem ptrR_V (o : Option Nat) : ptrR (ptrV o) = some (ptrD o, []) := by cases o <;> rfl
theorem ptrR_inv {v : Value} {o : Option Nat} {ps : List MemPlace} (h : ptrR v = some (ptrD o, ps)) : v = ptrV o := by
  unfold ptrR at h
  split at h
  · cases o with
    | none => rfl
    | some b => simp [ptrD] at h
  · rename_i b
    cases o with
    | none => simp [ptrD] at h
    | some c =>
      simp [ptrD] at h
      have hb : b = c := by have := h.1; omega
      rw [hb]; rfl
  · cases h
theorem keyedS : Keyed Tryz.prog 9 := string_keyed Tryz.underlying9
/-- A directory's map: which block its names lead to. -/
structure Kids (w : World) (N : Nat) (m : Option Nat) (g : Bz → Option Nat) : Prop where
  no : m = none → ∀ k, g k = none
  yes : ∀ b, m = some b → ∃ nn D, nn ≤ N ∧ w.ownsMap Tryz.prog 9 ptrR b nn D ∧ ∀ k : Bz, D.atKey (.string k) .nil = ptrD (g k) ∧ Maps.has D (.string k) = (g k).isSome
theorem zero50 (w : World) : (zeroValue 72).run Tryz.prog w = .ok (.pointer none) w := by kernel_rfl
theorem Kids.look {w : World} {N : Nat} {m : Option Nat} {g : Bz → Option Nat} (h : Kids w N m g) (s : ByteArray) (hs : s.size ≤ maxLen) : (Instr.lookup 67 (.map m) (.string s) false).run Tryz.prog w = .ok (ptrV (g s.data.toList)) w := by
  have hk := Go.WideMaps.keyOf_string_mk Tryz.underlying9 hs
  cases m with
  | none =>
    rw [h.no rfl]
    have := Maps.look_nil (w := w) false keyedS Tryz.underlying67 (zero50 w) hk
    simpa [ptrV] using this
  | some b =>
    obtain ⟨nn, D, _, hown, hg⟩ := h.yes b rfl
    obtain ⟨v, ps, hrun, hv⟩ := hown.lookup keyedS Tryz.underlying67 (zero50 w) (zd := .nil) (zp := []) rfl hk
    rw [(hg _).1] at hv
    rw [hrun, ptrR_inv hv]
theorem Kids.only {w w' : World} {N : Nat} {m : Option Nat} {g : Bz → Option Nat} (h : Kids w N m g) (hb : ∀ b, m = some b → b < w.heap.size → w'.heap[b]? = w.heap[b]?) : Kids w' N m g := by
  refine ⟨h.no, fun b hm => ?_⟩
  obtain ⟨nn, D, h1, hown, hg⟩ := h.yes b hm
  have hlt := hown.lt
  obtain ⟨es, clock, h2, F, hs, hD⟩ := hown
  exact ⟨nn, D, h1, ⟨es, clock, (hb b hm hlt).trans h2, F, hs, hD⟩, hg⟩
theorem Kids.lt {w : World} {N : Nat} {m : Option Nat} {g : Bz → Option Nat} (h : Kids w N m g) {b : Nat} (hm : m = some b) : b < w.heap.size := by
  obtain ⟨nn, D, h1, hown, hg⟩ := h.yes b hm
  exact hown.lt
theorem Kids.mono {w : World} {N N' : Nat} {m : Option Nat} {g : Bz → Option Nat} (h : Kids w N m g) (hN : N ≤ N') : Kids w N' m g := by
  refine ⟨h.no, fun b hm => ?_⟩
  obtain ⟨nn, D, h1, r⟩ := h.yes b hm
  exact ⟨nn, D, by omega, r⟩
theorem Kids.congr {w : World} {N : Nat} {m : Option Nat} {g g' : Bz → Option Nat} (h : Kids w N m g) (hg : ∀ k, g' k = g k) : Kids w N m g' := by
  have : g' = g := funext hg
  rw [this]; exact h
theorem keyLit (k : Bz) : WideAt.IsKeyLit (.string k) := trivial
theorem Kids.of_put {w : World} {N nn b : Nat} {D : DataW Unit} {g g' : Bz → Option Nat} {k : Bz} {a : Nat} (h : w.ownsMap Tryz.prog 9 ptrR b nn (D.put (.string k) (.lit (.int .i64 a)))) (hn : nn ≤ N) (hD : IsMap D)
    (hg : ∀ x : Bz, D.atKey (.string x) .nil = ptrD (g x) ∧ Maps.has D (.string x) = (g x).isSome) (hg' : ∀ x, g' x = if x = k then some a else g x) : Kids w N (some b) g' := by
  refine ⟨fun e => by (cases e), fun b' e => ?_⟩
  cases e
  refine ⟨nn, _, hn, h, fun x => ?_⟩
  rw [hg']
  by_cases hx : x = k
  · subst hx
    rw [if_pos rfl]
    exact ⟨atKey_put_same hD (keyLit _) _ _, Maps.has_put_same hD (keyLit _) _⟩
  · rw [if_neg hx]
    have hne : (Lit.string x) ≠ .string k := fun e => hx (by injection e)
    exact ⟨(atKey_put_other hne _ _).trans (hg x).1, (Maps.has_put_other hne _).trans (hg x).2⟩
theorem Kids.of_del {w : World} {N nn b : Nat} {D : DataW Unit} {g g' : Bz → Option Nat} {k : Bz} (h : w.ownsMap Tryz.prog 9 ptrR b nn (D.del (.string k))) (hn : nn ≤ N)
    (hg : ∀ x : Bz, D.atKey (.string x) .nil = ptrD (g x) ∧ Maps.has D (.string x) = (g x).isSome) (hg' : ∀ x, g' x = if x = k then none else g x) : Kids w N (some b) g' := by
  refine ⟨fun e => by (cases e), fun b' e => ?_⟩
  cases e
  refine ⟨nn, _, hn, h, fun x => ?_⟩
  rw [hg']
  by_cases hx : x = k
  · subst hx
    rw [if_pos rfl]
    exact ⟨atKey_del_same _, Maps.has_del_same⟩
  · rw [if_neg hx]
    have hne : (Lit.string x) ≠ .string k := fun e => hx (by injection e)
    exact ⟨(atKey_del_other hne _).trans (hg x).1, (Maps.has_del_other hne).trans (hg x).2⟩
theorem kids_made (w : World) (N : Nat) (g : Bz → Option Nat) (hg : ∀ k, g k = none) : (w.alloc (.map #[] 0)).ownsMap Tryz.prog 9 ptrR w.heap.size 0 (.map []) ∧ ∀ x : Bz, (DataW.map (H := Unit) []).atKey (.string x) .nil = ptrD (g x) ∧ Maps.has (DataW.map (H := Unit) []) (.string x) = (g x).isSome :=
  ⟨World.ownsMap_made w _ _ _, fun x => by rw [hg x]; exact ⟨rfl, rfl⟩⟩
end Go.Proofs.YtcmjpkfinbakkaaGreatDoor.Vf

namespace Go.Proofs.YtcmjpkfinbakkaaGreatDoor.Vf
set_option maxRecDepth 100000
open Go.RowKit Go.Maps Go.ChangeMaps
set_option linter.unusedVariables false

/-- Of what was there nothing but the blocks of S has turned. -/
structure Only (S : Nat → Prop) (w w' : World) : Prop where
  os : w'.os = w.os
  tape : w'.tape = w.tape
  output : w'.output = w.output
  size : w.heap.size ≤ w'.heap.size
  block : ∀ k, k < w.heap.size → ¬ S k → w'.heap[k]? = w.heap[k]?
theorem Only.refl (S : Nat → Prop) (w : World) : Only S w w := ⟨rfl, rfl, rfl, Nat.le_refl _, fun _ _ _ => rfl⟩
theorem Only.trans {S S' T : Nat → Prop} {a b c : World} (h : Only S a b) (k : Only S' b c) (hS : ∀ i, S i → T i) (hS' : ∀ i, i < a.heap.size → S' i → T i) : Only T a c :=
  ⟨k.os.trans h.os, k.tape.trans h.tape, k.output.trans h.output, Nat.le_trans h.size k.size, fun i hi hn =>
    (k.block i (Nat.lt_of_lt_of_le hi h.size) (fun e => hn (hS' i hi e))).trans (h.block i hi (fun e => hn (hS i e)))⟩
theorem Only.mono {S T : Nat → Prop} {a b : World} (h : Only S a b) (hS : ∀ i, S i → T i) : Only T a b := ⟨h.os, h.tape, h.output, h.size, fun i hi hn => h.block i hi (fun e => hn (hS i e))⟩
theorem Only.of_below {S : Nat → Prop} {a b : World} (h : Below a.heap.size a b) : Only S a b := ⟨h.os, h.tape, h.output, h.size, fun i hi _ => h.block i hi⟩
theorem Only.of_grown {S : Nat → Prop} {a b : World} {row : Option Nat} (h : a.grownBy b row) (hr : ∀ k, row = some k → S k) : Only S a b :=
  ⟨h.os, h.tape, h.output, h.size, fun i hi hn => h.block i hi (fun e => hn (hr i e.symm))⟩
theorem Only.below {S : Nat → Prop} {a b : World} {B : Nat} (h : Only S a b) (hS : ∀ k, S k → B ≤ k) (hB : B ≤ a.heap.size) : Below B a b :=
  ⟨h.os, h.tape, h.output, h.size, fun i hi => h.block i (by omega) (fun e => by have := hS i e; omega)⟩
theorem Only.set {S : Nat → Prop} {a w : World} (h : Only S a w) {g : Nat} (hg : S g ∨ a.heap.size ≤ g) (i : Nat) (u : Value) : Only S a (w.setCell ⟨g, i, none⟩ u) :=
  ⟨h.os, h.tape, h.output, by simpa using h.size, fun k hk hn => (Below.heap_setCell _ _ _ _ (by intro e; have e : k = g := e; subst e; rcases hg with e | e; exact hn e; omega)).trans (h.block k hk hn)⟩

theorem row_only {w w' : World} {B n : Nat} {v : Value} {xs : List Value} (h : w.ownsRow B 5 1 v n xs) (hb : ∀ g, v.ownBlock = some g → g < w.heap.size → w'.heap[g]? = w.heap[g]?) : w'.ownsRow B 5 1 v n xs := by
  refine ⟨h.1, ?_⟩
  rcases h.2 with hn | ⟨g, cap, cur, rfl, h1, h2, r⟩
  · exact .inl hn
  · exact .inr ⟨g, cap, cur, rfl, h1, (hb g rfl (Array.getElem?_eq_some_iff.1 h2).1).trans h2, r⟩
theorem row_lt {w : World} {B n : Nat} {v : Value} {xs : List Value} (h : w.ownsRow B 5 1 v n xs) {g : Nat} (hg : v.ownBlock = some g) : g < w.heap.size := by
  rcases h.2 with ⟨rfl, _⟩ | ⟨g', cap, cur, rfl, h1, h2, r⟩
  · cases hg
  · cases hg
    exact (Array.getElem?_eq_some_iff.1 h2).1

def u8s (l : Bz) : List Value := l.map fun c => .int .u8 c.toNat
theorem u8s_len (l : Bz) : (u8s l).length = l.length := List.length_map ..
def ndC (n : Nd) (v : Value) (m : Option Nat) : List Value := [.bool n.file, v, .int .i64 n.time, .map m]
def tlOf (tl : List Value) : Pth → List Value
  | [] => tl
  | _ => []
def tyOf (ty : TypeId) : Pth → TypeId
  | [] => ty
  | _ => 69
def kidsOf (T : Tr) (A : Pth → Nat) (p : Pth) (k : Bz) : Option Nat := if (T (p ++ [k])).isSome then some (A (p ++ [k])) else none
/-- A tree of nodes lies at block f. -/
structure TreeAt (w : World) (B N f : Nat) (ty : TypeId) (tl : List Value) (T : Tr) (A : Pth → Nat) (M : Pth → Option Nat) (V : Pth → Value) : Prop where
  a0 : A [] = f
  root : ∃ n, T [] = some n
  up : ∀ p k, (T (p ++ [k])).isSome → ∃ n, T p = some n ∧ n.file = false
  blk : ∀ p n, T p = some n → w.heap[A p]? = some (.cells (ndC n (V p) (M p) ++ tlOf tl p).toArray (tyOf ty p) (0, 0))
  data : ∀ p n, T p = some n → w.ownsRow B 5 1 (V p) n.data.length (u8s n.data)
  kids : ∀ p n, T p = some n → Kids w N (M p) (kidsOf T A p)
  base : ∀ p n, T p = some n → B ≤ A p ∧ ∀ b, M p = some b → B ≤ b
  injA : ∀ p q, (T p).isSome → (T q).isSome → A p = A q → p = q
  injM : ∀ p q b, (T p).isSome → (T q).isSome → M p = some b → M q = some b → p = q
  injV : ∀ p q b, (T p).isSome → (T q).isSome → (V p).ownBlock = some b → (V q).ownBlock = some b → p = q
/-- The blocks of a tree. -/
def foot (T : Tr) (A : Pth → Nat) (M : Pth → Option Nat) (V : Pth → Value) (k : Nat) : Prop := ∃ p n, T p = some n ∧ (A p = k ∨ M p = some k ∨ (V p).ownBlock = some k)
section
variable {w w' : World} {B N f : Nat} {ty : TypeId} {tl : List Value} {T : Tr} {A : Pth → Nat} {M : Pth → Option Nat} {V : Pth → Value}
theorem TreeAt.lt (h : TreeAt w B N f ty tl T A M V) {k : Nat} (hk : foot T A M V k) : k < w.heap.size := by
  obtain ⟨p, n, hp, e | e | e⟩ := hk
  · have := h.blk p n hp
    rw [e] at this
    exact (Array.getElem?_eq_some_iff.1 this).1
  · exact (h.kids p n hp).lt e
  · exact row_lt (h.data p n hp) e
theorem TreeAt.ge (h : TreeAt w B N f ty tl T A M V) {k : Nat} (hk : foot T A M V k) : B ≤ k := by
  obtain ⟨p, n, hp, e | e | e⟩ := hk
  · rw [← e]; exact (h.base p n hp).1
  · exact (h.base p n hp).2 k e
  · rcases (h.data p n hp).2 with ⟨e1, _⟩ | ⟨g, cap, cur, e1, h1, h2, r⟩
    · rw [e1] at e; cases e
    · rw [e1] at e; cases e; exact h1
theorem TreeAt.only {X : Nat → Prop} (h : TreeAt w B N f ty tl T A M V) (ho : Only X w w') (hd : ∀ k, X k → ¬ foot T A M V k) : TreeAt w' B N f ty tl T A M V := by
  have hb : ∀ k, foot T A M V k → w'.heap[k]? = w.heap[k]? := fun k hk => ho.block k (h.lt hk) (fun e => hd k e hk)
  exact ⟨h.a0, h.root, h.up, fun p n hp => (hb _ ⟨p, n, hp, .inl rfl⟩).trans (h.blk p n hp), fun p n hp => row_only (h.data p n hp) (fun g hg _ => hb g ⟨p, n, hp, .inr (.inr hg)⟩),
    fun p n hp => (h.kids p n hp).only (fun b hm _ => hb b ⟨p, n, hp, .inr (.inl hm)⟩), h.base, h.injA, h.injM, h.injV⟩
theorem TreeAt.mono (h : TreeAt w B N f ty tl T A M V) {N' : Nat} (hN : N ≤ N') : TreeAt w B N' f ty tl T A M V :=
  ⟨h.a0, h.root, h.up, h.blk, h.data, fun p n hp => (h.kids p n hp).mono hN, h.base, h.injA, h.injM, h.injV⟩
/-- The blocks of the three sorts differ. -/
theorem TreeAt.neAM (h : TreeAt w B N f ty tl T A M V) {p q : Pth} {b : Nat} (hp : (T p).isSome) (hq : (T q).isSome) (hm : M q = some b) : A p ≠ b := by
  obtain ⟨n, hn⟩ := Option.isSome_iff_exists.1 hp
  obtain ⟨n', hn'⟩ := Option.isSome_iff_exists.1 hq
  intro e
  obtain ⟨nn, D, _, hown, _⟩ := (h.kids q n' hn').yes b hm
  obtain ⟨es, clock, h2, _⟩ := hown
  have := h.blk p n hn
  rw [e, h2] at this
  cases this
theorem tyOf_ne (hty : ty ≠ 5) (p : Pth) : tyOf ty p ≠ 5 := by
  cases p with
  | nil => exact hty
  | cons => exact show (69 : Nat) ≠ 5 by decide
theorem TreeAt.neAV (h : TreeAt w B N f ty tl T A M V) (hty : ty ≠ 5) {p q : Pth} {b : Nat} (hp : (T p).isSome) (hq : (T q).isSome) (hm : (V q).ownBlock = some b) : A p ≠ b := by
  obtain ⟨n, hn⟩ := Option.isSome_iff_exists.1 hp
  obtain ⟨n', hn'⟩ := Option.isSome_iff_exists.1 hq
  intro e
  rcases (h.data q n' hn').2 with ⟨e1, _⟩ | ⟨g, cap, cur, e1, h1, h2, r⟩
  · rw [e1] at hm; cases hm
  · rw [e1] at hm
    cases hm
    have := h.blk p n hn
    rw [e] at this
    have h3 := h2.symm.trans this
    injection h3 with h3
    injection h3 with _ h3 _
    exact tyOf_ne hty p h3.symm
theorem TreeAt.neMV (h : TreeAt w B N f ty tl T A M V) {p q : Pth} {b c : Nat} (hp : (T p).isSome) (hq : (T q).isSome) (hc : M p = some c) (hm : (V q).ownBlock = some b) : c ≠ b := by
  obtain ⟨n, hn⟩ := Option.isSome_iff_exists.1 hp
  obtain ⟨n', hn'⟩ := Option.isSome_iff_exists.1 hq
  intro e
  obtain ⟨nn, D, _, hown, _⟩ := (h.kids p n hn).yes c hc
  obtain ⟨es, clock, hx, _⟩ := hown
  rcases (h.data q n' hn').2 with ⟨e1, _⟩ | ⟨g, cap, cur, e1, h1, h2, r⟩
  · rw [e1] at hm; cases hm
  · rw [e1] at hm
    cases hm
    rw [e, h2] at hx
    cases hx
end
end Go.Proofs.YtcmjpkfinbakkaaGreatDoor.Vf

namespace Go.Proofs.YtcmjpkfinbakkaaGreatDoor.Vf
set_option maxRecDepth 100000
open Go.RowKit Go.Maps Go.ChangeMaps
set_option linter.unusedVariables false

def setF {α : Type} (F : Pth → α) (p : Pth) (x : α) (q : Pth) : α := if q = p then x else F q
theorem setF_same {α : Type} (F : Pth → α) (p : Pth) (x : α) : setF F p x p = x := if_pos rfl
theorem setF_other {α : Type} (F : Pth → α) {p q : Pth} (x : α) (h : q ≠ p) : setF F p x q = F q := if_neg h
def graftF {α : Type} (F : Pth → α) (p : Pth) (G : Pth → α) (q : Pth) : α := if p.isPrefixOf q = true then G (q.drop p.length) else F q
theorem graftF_in {α : Type} (F : Pth → α) (p : Pth) (G : Pth → α) (r : Pth) : graftF F p G (p ++ r) = G r := by
  have h : p.isPrefixOf (p ++ r) = true := List.isPrefixOf_iff_prefix.2 ⟨r, rfl⟩
  unfold graftF; rw [if_pos h]; simp
theorem graftF_out {α : Type} (F : Pth → α) (p : Pth) (G : Pth → α) {q : Pth} (h : ¬ p <+: q) : graftF F p G q = F q := by
  unfold graftF; rw [if_neg (fun e => h (List.isPrefixOf_iff_prefix.1 e))]
theorem graft_self {α : Type} (F : Pth → α) (p : Pth) (G : Pth → α) : graftF F p G p = G [] := by have := graftF_in F p G []; simpa using this
theorem not_pre_self (d : Pth) (k : Bz) : ¬ (d ++ [k]) <+: d := fun h => by have := h.length_le; simp at this; omega
section
variable {w w' : World} {B N f : Nat} {ty : TypeId} {tl : List Value} {T : Tr} {A : Pth → Nat} {M : Pth → Option Nat} {V : Pth → Value}
theorem TreeAt.setTl (h : TreeAt w B N f ty tl T A M V) {n0 : Nd} (h0 : T [] = some n0) (tl' : List Value) (ho : Only (fun k => k = f) w w') (hb : w'.heap[f]? = some (.cells (ndC n0 (V []) (M []) ++ tl').toArray ty (0, 0))) (hty : ty ≠ 5) :
    TreeAt w' B N f ty tl' T A M V := by
  have hs : (T []).isSome := by rw [h0]; rfl
  have hof : ∀ k, foot T A M V k → k ≠ f → w'.heap[k]? = w.heap[k]? := fun k hk hne => ho.block k (h.lt hk) hne
  refine ⟨h.a0, h.root, h.up, fun p n hp => ?_, fun p n hp => ?_, fun p n hp => ?_, h.base, h.injA, h.injM, h.injV⟩
  · cases p with
    | nil =>
      rw [h0] at hp; cases hp
      rw [h.a0]; exact hb
    | cons a p =>
      have hne : A (a :: p) ≠ f := fun e => by
        have := h.injA (a :: p) [] (by rw [hp]; rfl) hs (e.trans h.a0.symm)
        cases this
      exact (hof _ ⟨_, n, hp, .inl rfl⟩ hne).trans (h.blk _ n hp)
  · refine row_only (h.data p n hp) fun g hg _ => hof g ⟨p, n, hp, .inr (.inr hg)⟩ fun e => ?_
    exact h.neAV hty hs (by rw [hp]; rfl) hg (h.a0.trans e.symm)
  · refine (h.kids p n hp).only fun b hm _ => hof b ⟨p, n, hp, .inr (.inl hm)⟩ fun e => ?_
    exact h.neAM hs (by rw [hp]; rfl) hm (h.a0.trans e.symm)
theorem TreeAt.setNode (h : TreeAt w B N f ty tl T A M V) (hty : ty ≠ 5) {p : Pth} {n n' : Nd} (hp : T p = some n) (hf : n'.file = n.file) (v' : Value) {X : Nat → Prop} (ho : Only X w w') (hX : ∀ k, X k → k = A p ∨ (V p).ownBlock = some k)
    (hb : w'.heap[A p]? = some (.cells (ndC n' v' (M p) ++ tlOf tl p).toArray (tyOf ty p) (0, 0))) (hd : w'.ownsRow B 5 1 v' n'.data.length (u8s n'.data)) (hv : ∀ b, v'.ownBlock = some b → (V p).ownBlock = some b ∨ w.heap.size ≤ b) :
    TreeAt w' B N f ty tl (setF T p (some n')) A M (setF V p v') := by
  have hs : (T p).isSome := by rw [hp]; rfl
  have hT : ∀ q, (setF T p (some n') q).isSome = (T q).isSome := fun q => by
    by_cases e : q = p
    · rw [e, setF_same, hp]; rfl
    · rw [setF_other _ _ e]
  have hof : ∀ k, foot T A M V k → k ≠ A p → (V p).ownBlock ≠ some k → w'.heap[k]? = w.heap[k]? := fun k hk h1 h2 => ho.block k (h.lt hk) fun e => by
    rcases hX k e with e | e
    · exact h1 e
    · exact h2 e
  have hin : ∀ q m, setF T p (some n') q = some m → ∃ m0, T q = some m0 ∧ m0.file = m.file := fun q m e => by
    by_cases hq : q = p
    · subst hq; rw [setF_same] at e; cases e; exact ⟨n, hp, hf.symm⟩
    · rw [setF_other _ _ hq] at e; exact ⟨m, e, rfl⟩
  have hkk : ∀ q, kidsOf (setF T p (some n')) A q = kidsOf T A q := fun q => funext fun k => by unfold kidsOf; rw [hT]
  refine ⟨h.a0, ?_, fun q k hq => ?_, fun q m hq => ?_, fun q m hq => ?_, fun q m hq => ?_, fun q m hq => ?_, fun a b ha hb' => ?_, fun a b c ha hb' => ?_, fun a b c ha hb' h1 h2 => ?_⟩
  · obtain ⟨n0, h0⟩ := h.root
    exact Option.isSome_iff_exists.1 (by rw [hT, h0]; rfl)
  · rw [hT] at hq
    obtain ⟨m, h1, h2⟩ := h.up q k hq
    by_cases e : q = p
    · subst e; rw [hp] at h1; cases h1; exact ⟨n', setF_same _ _ _, hf.trans h2⟩
    · exact ⟨m, (setF_other _ _ e).trans h1, h2⟩
  · by_cases e : q = p
    · subst e; rw [setF_same] at hq; cases hq; rw [setF_same]; exact hb
    · rw [setF_other _ _ e] at hq
      rw [setF_other _ _ e]
      refine (hof _ ⟨q, m, hq, .inl rfl⟩ (fun e2 => e (h.injA q p (by rw [hq]; rfl) hs e2)) fun e2 => ?_).trans (h.blk q m hq)
      exact h.neAV hty (by rw [hq]; rfl) hs e2 rfl
  · by_cases e : q = p
    · subst e; rw [setF_same] at hq; cases hq; rw [setF_same]; exact hd
    · rw [setF_other _ _ e] at hq
      rw [setF_other _ _ e]
      refine row_only (h.data q m hq) fun g hg _ => hof g ⟨q, m, hq, .inr (.inr hg)⟩ (fun e2 => ?_) fun e2 => ?_
      · exact h.neAV hty hs (by rw [hq]; rfl) hg e2.symm
      · exact e (h.injV q p g (by rw [hq]; rfl) hs hg e2)
  · obtain ⟨m0, hq0, _⟩ := hin q m hq
    rw [hkk]
    refine (h.kids q m0 hq0).only fun b hm _ => hof b ⟨q, m0, hq0, .inr (.inl hm)⟩ (fun e2 => ?_) fun e2 => ?_
    · exact h.neAM hs (by rw [hq0]; rfl) hm e2.symm
    · exact h.neMV (by rw [hq0]; rfl) hs hm e2 rfl
  · obtain ⟨m0, hq0, _⟩ := hin q m hq
    exact h.base q m0 hq0
  · rw [hT] at ha hb'
    exact h.injA a b ha hb'
  · rw [hT] at ha hb'
    exact h.injM a b c ha hb'
  · rw [hT] at ha hb'
    have old : ∀ q, (T q).isSome → (V q).ownBlock = some c → c < w.heap.size := fun q hq hc => by
      obtain ⟨m, hm⟩ := Option.isSome_iff_exists.1 hq
      exact row_lt (h.data q m hm) hc
    by_cases ea : a = p
    · by_cases eb : b = p
      · rw [ea, eb]
      · rw [ea, setF_same] at h1
        rw [setF_other _ _ eb] at h2
        rcases hv c h1 with e | e
        · exact ea.trans (h.injV p b c hs hb' e h2)
        · have := old b hb' h2; omega
    · rw [setF_other _ _ ea] at h1
      by_cases eb : b = p
      · rw [eb, setF_same] at h2
        rcases hv c h2 with e | e
        · exact (h.injV a p c ha hs h1 e).trans eb.symm
        · have := old a ha h1; omega
      · rw [setF_other _ _ eb] at h2
        exact h.injV a b c ha hb' h1 h2
end
end Go.Proofs.YtcmjpkfinbakkaaGreatDoor.Vf
