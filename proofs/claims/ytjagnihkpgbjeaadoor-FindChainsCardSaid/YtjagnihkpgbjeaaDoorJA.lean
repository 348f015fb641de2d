import Derived.Test.YtjagnihkpgbjeaaDoorZB
import Derived.Test.YtjagnihkpgbjeaaDoorFH
import Derived.Lib.ReplaceLaws
import Derived.Lib.CountLaws
import Derived.Lib.IndexMore
namespace Go.Proofs.YtjagnihkpgbjeaaDoor.Stem
open Go.RowKit Go.Proofs.YtjagnihkpgbjeaaDoor
set_option linter.unusedVariables false
/-! Patterns: Match and Fill. -/
/-- Does s begin with p; does it end with it? -/
def hp (s p : ByteArray) : Bool := decide (p.size ≤ s.size) && ((s.extract 0 p.size).toList == p.toList)
def ends (s x : ByteArray) : Bool := decide (x.size ≤ s.size) && ((s.extract (s.size - x.size) s.size).toList == x.toList)

set_option maxHeartbeats 1000000 in
theorem HasPrefix_lite (s p : ByteArray) (w : World) : Calls Tryd.prog 85 #[.string s, .string p] w fun e w' => e = .returned (.bool (hp s p)) ∧ w = w' := by
  by_cases h : p.size ≤ s.size
  · have HE : Hid (hp s p = ((s.extract 0 p.size).toList == p.toList)) := by unfold Hid hp; simp [h]
    go_enter Tryd.func85, Tryd.ntmps85
    go_wp2
    go_ret
    refine ⟨?_, rfl⟩
    rw [HE.out]; rfl
  · have HE : Hid (hp s p = false) := by unfold Hid hp; simp [h]
    go_enter Tryd.func85, Tryd.ntmps85
    go_wp2
    go_ret
    refine ⟨?_, rfl⟩
    rw [HE.out]; rfl
set_option maxHeartbeats 1000000 in
theorem HasPrefix_any (s p : ByteArray) (w : World) : Calls Tryd.prog 59 #[.string s, .string p] w fun e w' => e = .returned (.bool (hp s p)) ∧ w = w' := by
  go_enter Tryd.func59, Tryd.ntmps59
  go_wp2_with (go_at_call 85; refine (HasPrefix_lite _ _ _).mono ?_; rintro e w' ⟨rfl, rfl⟩)
  go_ret
  exact ⟨rfl, rfl⟩
set_option maxHeartbeats 1000000 in
theorem HasSuffix_lite (s x : ByteArray) (w : World) (hs : s.size ≤ 9223372036854775807) :
    Calls Tryd.prog 125 #[.string s, .string x] w fun e w' => e = .returned (.bool (ends s x)) ∧ w = w' := by
  have hlo : x.size ≤ s.size → ((s.size : Int) - (x.size : Int) + 9223372036854775808) % 18446744073709551616 - 9223372036854775808 = ((s.size - x.size : Nat) : Int) := fun _ => by omega
  by_cases h : x.size ≤ s.size
  · have HE : Hid (ends s x = ((s.extract (s.size - x.size) s.size).toList == x.toList)) := by unfold Hid ends; simp [h]
    go_enter Tryd.func125, Tryd.ntmps125
    go_wp2
    go_ret
    refine ⟨?_, rfl⟩
    rw [HE.out]; rfl
  · have HE : Hid (ends s x = false) := by unfold Hid ends; simp [h]
    go_enter Tryd.func125, Tryd.ntmps125
    go_wp2
    go_ret
    refine ⟨?_, rfl⟩
    rw [HE.out]; rfl
set_option maxHeartbeats 1000000 in
theorem HasSuffix_any (s x : ByteArray) (w : World) (hs : s.size ≤ 9223372036854775807) : Calls Tryd.prog 109 #[.string s, .string x] w fun e w' => e = .returned (.bool (ends s x)) ∧ w = w' := by
  go_enter Tryd.func109, Tryd.ntmps109
  go_wp2_with (go_at_call 125; refine (HasSuffix_lite _ _ _ hs).mono ?_; rintro e w' ⟨rfl, rfl⟩)
  go_ret
  exact ⟨rfl, rfl⟩
theorem index_no : ∀ {l : List UInt8}, (37 : UInt8) ∉ l → Lib.index l [37] = -1
  | [], _ => by rfl
  | c :: l, h => by
    have h1 : (37 : UInt8) ≠ c := fun e => h (by rw [e]; simp)
    have h2 : (37 : UInt8) ∉ l := fun e => h (List.mem_cons_of_mem _ e)
    unfold Lib.index
    rw [if_neg (by simp [List.isPrefixOf, h1]), index_no h2]
    rfl
theorem index_at : ∀ (a b : List UInt8), (37 : UInt8) ∉ a → Lib.index (a ++ 37 :: b) [37] = a.length
  | [], b, _ => by
    rw [List.nil_append]
    unfold Lib.index
    rw [if_pos (by simp [List.isPrefixOf])]; rfl
  | c :: a, b, h => by
    have h1 : (37 : UInt8) ≠ c := fun e => h (by rw [e]; simp)
    have h2 : (37 : UInt8) ∉ a := fun e => h (List.mem_cons_of_mem _ e)
    rw [List.cons_append]
    unfold Lib.index
    rw [if_neg (by simp [List.isPrefixOf, h1]), index_at a b h2]
    rw [if_neg (by simp), List.length_cons]; omega
theorem cut_no {l : List UInt8} (h : (37 : UInt8) ∉ l) : Lib.cut l [37] = (l, [], false) := by
  unfold Lib.cut; rw [index_no h, if_neg (by omega)]
theorem cut_at (a b : List UInt8) (h : (37 : UInt8) ∉ a) : Lib.cut (a ++ 37 :: b) [37] = (a, b, true) := by
  unfold Lib.cut
  rw [index_at a b h, if_pos (by omega)]
  simp
theorem count_no {l : List UInt8} (h : (37 : UInt8) ∉ l) : Lib.count l [37] = 0 := Lib.count_miss (index_no h)
theorem replace_no {l : List UInt8} (h : (37 : UInt8) ∉ l) (new : List UInt8) : Lib.replace l [37] new 1 = l := by
  unfold Lib.replace
  split
  · rfl
  · have : Lib.replaceNum l [37] 1 = 0 := by unfold Lib.replaceNum; rw [count_no h, if_pos (by right; decide)]
    rw [this]; rfl
theorem replace_at (a b : List UInt8) (h : (37 : UInt8) ∉ a) (new : List UInt8) : Lib.replace (a ++ 37 :: b) [37] new 1 = a ++ new ++ b := by
  unfold Lib.replace
  split
  · rename_i e
    have : new = [37] := (beq_iff_eq.1 e).symm
    rw [this]; simp
  · have hc : 1 ≤ Lib.count (a ++ 37 :: b) [37] := by
      unfold Lib.count Lib.countFrom
      rw [index_at a b h, if_neg (by simp)]
      omega
    have : Lib.replaceNum (a ++ 37 :: b) [37] 1 = 1 := by
      unfold Lib.replaceNum
      rw [if_neg (by omega)]; rfl
    rw [this, Lib.replaceK_hit [37] new 0 _ a.length (index_at a b h)]
    simp [Lib.replaceK]
/-- A byte string out of its bytes. -/
abbrev mk (l : List UInt8) : ByteArray := ⟨l.toArray⟩
theorem mk_size (l : List UInt8) : (mk l).size = l.length := by simp [ByteArray.size]
theorem mk_list (l : List UInt8) : (mk l).data.toList = l := by simp
theorem eq_mk {s : ByteArray} {l : List UInt8} (h : s.data.toList = l) : s = mk l := by
  apply ByteArray.ext
  rw [← Array.toList_inj, h]
theorem size_len (s : ByteArray) : s.data.toList.length = s.size := by simp

/-- What stands for the % in s; and whether. -/
def stemOk (F G s : ByteArray) : Bool := decide (F.size + G.size < s.size) && (hp s F && ends s G)

section
variable (p s F G : ByteArray) (a b : List UInt8)

set_option maxRecDepth 100000 in
set_option maxHeartbeats 1000000 in
theorem Match_no (w : World) (m : Int) (hm : w.cell? ⟨0, 0, none⟩ = some (.int .i64 m)) (hp1 : p.size ≤ 100000) (h : (37 : UInt8) ∉ p.data.toList) :
    Calls Tryd.prog 105 #[.string p, .string s] w fun e w' => e = .returned (.tuple #[.string ⟨#[]⟩, .bool (p.toList == s.toList)]) ∧ ∃ n, w' = w.drewN n := by
  have hc := cut_no h
  have HC : Hid (Lib.cut p.data.toList (mk [37]).data.toList = (p.data.toList, [], false)) := by unfold Hid; rw [mk_list]; exact hc
  clear h hc
  go_enter Tryd.func105, Tryd.ntmps105
  go_wp2_with fail
  refine (Tryd.strings_Cut p (mk [37]) m _ (by omega) hm).mono ?_
  rw [HC.out]
  rintro e w' ⟨rfl, n, rfl⟩
  go_wp2_with fail
  go_ret2
  exact ⟨by rfl, _, rfl⟩

set_option maxRecDepth 100000 in
set_option maxHeartbeats 1000000 in
theorem Match_at (w : World) (m : Int) (hm : w.cell? ⟨0, 0, none⟩ = some (.int .i64 m)) (hp1 : p.size ≤ 100000) (hs1 : s.size ≤ 100000) (hpl : p.data.toList = a ++ 37 :: b) (h : (37 : UInt8) ∉ a) (hF : mk a = F) (hG : mk b = G) :
    Calls Tryd.prog 105 #[.string p, .string s] w fun e w' => e = .returned (.tuple #[.string (if stemOk F G s then s.extract F.size (s.size - G.size) else ⟨#[]⟩), .bool (stemOk F G s)]) ∧ ∃ n, w' = w.drewN n := by
  have HC : Hid (Lib.cut p.data.toList (mk [37]).data.toList = (a, b, true)) := by unfold Hid; rw [mk_list, hpl]; exact cut_at a b h
  have hsz : a.length + b.length + 1 = p.size := by rw [← size_len, hpl]; simp; omega
  have hFs : F.size = a.length := by rw [← hF, mk_size]
  have hGs : G.size = b.length := by rw [← hG, mk_size]
  have hFl : F.size ≤ 100000 := by omega
  have hGl : G.size ≤ 100000 := by omega
  have HF := Lib.hid hF
  have HG := Lib.hid hG
  clear h hpl hsz hFs hGs hF hG
  obtain ⟨r, hr⟩ : ∃ r : ByteArray, (if stemOk F G s then s.extract F.size (s.size - G.size) else ⟨#[]⟩) = r := ⟨_, rfl⟩
  obtain ⟨o, ho⟩ : ∃ o, stemOk F G s = o := ⟨_, rfl⟩
  rw [hr, ho]
  rw [ho] at hr
  by_cases h1 : F.size + G.size < s.size
  · cases h2 : hp s F
    · have HO : Hid (o = false) := by unfold Hid; rw [← ho]; unfold stemOk; rw [h2]; simp
      have HR : Hid (r = ⟨#[]⟩) := by unfold Hid; rw [← hr, HO.out]; rfl
      have H2 := Lib.hid h2
      clear ho hr h2
      go_enter Tryd.func105, Tryd.ntmps105
      go_wp2_with fail
      refine (Tryd.strings_Cut p (mk [37]) m _ (by omega) hm).mono ?_
      rw [HC.out]
      rintro e w' ⟨rfl, n, rfl⟩
      rw [show (⟨(a, b, true).1.toArray⟩ : ByteArray) = F from HF.out, show (⟨(a, b, true).2.1.toArray⟩ : ByteArray) = G from HG.out]
      go_wp2_with (go_at_call 59; refine (HasPrefix_any s F _).mono ?_; rw [H2.out]; rintro e w' ⟨rfl, rfl⟩)
      go_ret2
      exact ⟨by rw [HO.out, HR.out]; rfl, _, rfl⟩
    · cases h3 : ends s G
      · have HO : Hid (o = false) := by unfold Hid; rw [← ho]; unfold stemOk; rw [h3]; simp
        have HR : Hid (r = ⟨#[]⟩) := by unfold Hid; rw [← hr, HO.out]; rfl
        have H2 := Lib.hid h2
        have H3 := Lib.hid h3
        clear ho hr h2 h3
        go_enter Tryd.func105, Tryd.ntmps105
        go_wp2_with fail
        refine (Tryd.strings_Cut p (mk [37]) m _ (by omega) hm).mono ?_
        rw [HC.out]
        rintro e w' ⟨rfl, n, rfl⟩
        rw [show (⟨(a, b, true).1.toArray⟩ : ByteArray) = F from HF.out, show (⟨(a, b, true).2.1.toArray⟩ : ByteArray) = G from HG.out]
        go_wp2_with (first
          | (go_at_call 59; refine (HasPrefix_any s F _).mono ?_; rw [H2.out]; rintro e w' ⟨rfl, rfl⟩)
          | (go_at_call 109; refine (HasSuffix_any s G _ (by omega)).mono ?_; rw [H3.out]; rintro e w' ⟨rfl, rfl⟩))
        go_ret2
        exact ⟨by rw [HO.out, HR.out]; rfl, _, rfl⟩
      · have HO : Hid (o = true) := by unfold Hid; rw [← ho]; unfold stemOk; rw [h2, h3]; simp [h1]
        have HR : Hid (r = s.extract F.size (s.size - G.size)) := by unfold Hid; rw [← hr, HO.out]; rfl
        have H2 := Lib.hid h2
        have H3 := Lib.hid h3
        obtain ⟨q, hq⟩ : ∃ q : Nat, s.size - G.size = q := ⟨_, rfl⟩
        have hw1 : IntKind.i64.wrap ((s.size : Int) - (G.size : Int)) = (q : Int) := by unfold IntKind.wrap; simp [IntKind.bits, IntKind.signed]; omega
        have hq1 : (F.size : Int) ≤ (q : Int) := by omega
        have hq2 : (q : Int) ≤ (s.size : Int) := by omega
        have hq3 : F.size ≤ q := by omega
        have hq4 : q ≤ s.size := by omega
        have HQ := Lib.hid hq
        clear ho hr h2 h3 hq
        go_enter Tryd.func105, Tryd.ntmps105
        go_wp2_with fail
        refine (Tryd.strings_Cut p (mk [37]) m _ (by omega) hm).mono ?_
        rw [HC.out]
        rintro e w' ⟨rfl, n, rfl⟩
        rw [show (⟨(a, b, true).1.toArray⟩ : ByteArray) = F from HF.out, show (⟨(a, b, true).2.1.toArray⟩ : ByteArray) = G from HG.out]
        go_wp2_with (first
          | (go_at_call 59; refine (HasPrefix_any s F _).mono ?_; rw [H2.out]; rintro e w' ⟨rfl, rfl⟩)
          | (go_at_call 109; refine (HasSuffix_any s G _ (by omega)).mono ?_; rw [H3.out]; rintro e w' ⟨rfl, rfl⟩))
        go_ret2
        exact ⟨by rw [HO.out, HR.out, HQ.out]; rfl, _, rfl⟩
  · have HO : Hid (o = false) := by unfold Hid; rw [← ho]; unfold stemOk; simp [h1]
    have HR : Hid (r = ⟨#[]⟩) := by unfold Hid; rw [← hr, HO.out]; rfl
    have h1' : (s.size : Int) ≤ (F.size : Int) + (G.size : Int) := by omega
    clear ho hr
    go_enter Tryd.func105, Tryd.ntmps105
    go_wp2_with fail
    refine (Tryd.strings_Cut p (mk [37]) m _ (by omega) hm).mono ?_
    rw [HC.out]
    rintro e w' ⟨rfl, n, rfl⟩
    rw [show (⟨(a, b, true).1.toArray⟩ : ByteArray) = F from HF.out, show (⟨(a, b, true).2.1.toArray⟩ : ByteArray) = G from HG.out]
    go_wp2_with fail
    go_ret2
    exact ⟨by rw [HO.out, HR.out]; rfl, _, rfl⟩
end
section
variable (p s : ByteArray)
set_option maxRecDepth 100000 in
set_option maxHeartbeats 1000000 in
theorem Fill_any (w : World) (m : Int) (hm : w.cell? ⟨0, 0, none⟩ = some (.int .i64 m)) (hp1 : p.size ≤ 100000) (hs1 : s.size ≤ 100000) (t : ByteArray) (ht : mk (Lib.replace p.data.toList [37] s.data.toList 1) = t) :
    Calls Tryd.prog 106 #[.string p, .string s] w fun e w' => e = .returned (.string t) ∧ Below w.heap.size w w' := by
  have HT : Hid (mk (Lib.replace p.data.toList (mk [37]).data.toList s.data.toList 1) = t) := by unfold Hid; rw [mk_list]; exact ht
  clear ht
  have hc := Lib.countB_le (mk [37]) (by rw [mk_size]; exact Nat.le_refl _) p.size p (Nat.le_refl _)
  have hlen : p.size + Lib.countB p (mk [37]) * s.size ≤ 140737488355328 := by
    have : Lib.countB p (mk [37]) * s.size ≤ 100000 * 100000 := Nat.mul_le_mul (by omega) hs1
    omega
  clear hc
  have HL := Lib.hid hlen
  clear hlen
  go_enter Tryd.func106, Tryd.ntmps106
  go_wp2_with fail
  refine (Tryd.strings_Replace p (mk [37]) s 1 m _ (by omega) hm (by rw [mk_size]; exact Nat.le_refl _) HL.out).mono ?_
  rw [show (⟨(Lib.replace p.data.toList (mk [37]).data.toList s.data.toList 1).toArray⟩ : ByteArray) = t from HT.out]
  rintro e w' ⟨rfl, hB⟩
  have HB := Lib.hid hB
  clear hB
  go_wp2_with fail
  go_ret
  exact ⟨rfl, HB.out⟩

end
end Go.Proofs.YtjagnihkpgbjeaaDoor.Stem
