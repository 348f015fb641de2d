import Derived.Test.YtpgaeldjiiaoiaaE
import Derived.Lib.Strings
namespace Go.Proofs.Ytpgaeldjiiaoiaa
open Go.RowKit

theorem PcAt.below {w w' : World} {g off : Nat} {p : Pc} (h : PcAt w g off p) (hB : Below w.heap.size w w') : PcAt w' g off p := by
  have hgl : g < w.heap.size := World.block_lt_of_cell? w _ h.c0
  exact ⟨(hB.cell hgl).trans h.c0, (hB.cell hgl).trans h.c1, fun q hq => (hB.cell hgl).trans (h.c2 q hq), h.lt⟩

theorem Sl.below {w w' : World} {v : Value} {ps : List Pc} (h : Sl w v ps) (hB : Below w.heap.size w w') : Sl w' v ps := by
  obtain ⟨a, cap, rfl, h1, h2, h3⟩ := h
  refine ⟨a, cap, rfl, h1, h2, ?_⟩
  rcases h3 with h3 | ⟨g, off, rfl, hp⟩
  · exact .inl h3
  · exact .inr ⟨g, off, rfl, fun j hj => (hp j hj).below hB⟩

theorem Sl.drewN {w : World} {v : Value} {ps : List Pc} (h : Sl w v ps) (n : Nat) : Sl (w.drewN n) v ps := by
  obtain ⟨a, cap, rfl, h1, h2, h3⟩ := h
  refine ⟨a, cap, rfl, h1, h2, ?_⟩
  rcases h3 with h3 | ⟨g, off, rfl, hp⟩
  · exact .inl h3
  · exact .inr ⟨g, off, rfl, fun j hj => (hp j hj).drewN n⟩

def findRun (s : ByteArray) (e : Nat) (r : List Pc) : Nat → Nat → Option Nat
  | 0, _ => none
  | f + 1, o => if o + r.length ≤ e then if fitsB s o r = true then some (o + r.length) else findRun s e r f (o + 1) else none

def mids (s : ByteArray) (e : Nat) : List (List Pc) → Nat → Bool
  | [], _ => true
  | r :: rs, o => match findRun s e r (e + 1 - o) o with
    | none => false
    | some o' => mids s e rs o'

def hd (rs : List (List Pc)) : List Pc := rs.getD 0 []
def tl (rs : List (List Pc)) : List Pc := rs.getD (rs.length - 1) []

/-- What match answers. -/
def gm (s : ByteArray) (ps : List Pc) : Bool :=
  if (runs ps).length = 1 then decide ((hd (runs ps)).length = s.size) && fitsB s 0 (hd (runs ps))
  else if (hd (runs ps)).length + (tl (runs ps)).length ≤ s.size then
    fitsB s 0 (hd (runs ps)) && fitsB s (s.size - (tl (runs ps)).length) (tl (runs ps)) && mids s (s.size - (tl (runs ps)).length) (((runs ps).drop 1).take ((runs ps).length - 2)) (hd (runs ps)).length
  else false

theorem runs_len : ∀ (ps : List Pc), (runs ps).length ≤ ps.length + 1
  | [] => by simp [runs]
  | p :: ps => by
    have := runs_len ps
    rw [runs]
    split
    · simp; exact this
    · split
      · simp
      · next h => rw [h] at this; simp at this ⊢; omega

theorem runs_each : ∀ (ps : List Pc), ∀ r ∈ runs ps, r.length ≤ ps.length
  | [], r, h => by simp [runs] at h; simp [h]
  | p :: ps, r, h => by
    have ih := runs_each ps
    rw [runs] at h
    split at h
    · rcases List.mem_cons.1 h with rfl | h
      · simp
      · have := ih r h; simp; omega
    · split at h
      · simp at h; subst h; simp
      · next q qs hq =>
        rw [hq] at ih
        rcases List.mem_cons.1 h with rfl | h
        · have := ih q (by simp); simp; omega
        · have := ih r (by simp [h]); simp; omega

theorem runs_getD (ps : List Pc) (i : Nat) : ((runs ps).getD i []).length ≤ ps.length := by
  by_cases h : i < (runs ps).length
  · have := runs_each ps ((runs ps)[i]) (List.getElem_mem h)
    rw [List.getD_eq_getElem?_getD, List.getElem?_eq_getElem h]; exact this
  · rw [List.getD_eq_getElem?_getD, List.getElem?_eq_none (by omega)]; simp

theorem gb_extract (s : ByteArray) (o i : Nat) : gb (s.extract o s.size) i = gb s (o + i) := by
  unfold gb
  have : (s.extract o s.size).data.toList = s.data.toList.drop o := by
    rw [Lib.extract_data, List.take_of_length_le (by simp)]
  rw [this]; simp

theorem fitsB_extract (s : ByteArray) (o : Nat) : ∀ (r : List Pc) (i : Nat), fitsB (s.extract o s.size) i r = fitsB s (o + i) r
  | [], _ => rfl
  | p :: r, i => by rw [fitsB, fitsB, gb_extract, fitsB_extract s o r (i + 1)]; rfl

theorem mids_step {s : ByteArray} {e : Nat} {r : List Pc} {rs : List (List Pc)} {o : Nat} {M : Bool} {FR : Option Nat} (h : mids s e (r :: rs) o = M) (hf : findRun s e r (e + 1 - o) o = FR) :
    (FR = none → M = false) ∧ ∀ o', FR = some o' → mids s e rs o' = M := by
  rw [mids, hf] at h
  refine ⟨fun h0 => by rw [h0] at h; exact h.symm, fun o' h0 => by rw [h0] at h; exact h⟩

theorem findRun_no {s : ByteArray} {e : Nat} {r : List Pc} {o n : Nat} {FR : Option Nat} (h : findRun s e r n o = FR) (hc : ¬ o + r.length ≤ e) : FR = none := by
  cases n with
  | zero => exact h.symm
  | succ n => rw [findRun, if_neg hc] at h; exact h.symm

theorem findRun_hit {s : ByteArray} {e : Nat} {r : List Pc} {o : Nat} {FR : Option Nat} (h : findRun s e r (e + 1 - o) o = FR) (hc : o + r.length ≤ e) (hf : fitsB s o r = true) : FR = some (o + r.length) := by
  rw [show e + 1 - o = (e - o) + 1 from by omega, findRun, if_pos hc, if_pos hf] at h; exact h.symm

theorem findRun_miss {s : ByteArray} {e : Nat} {r : List Pc} {o : Nat} {FR : Option Nat} (h : findRun s e r (e + 1 - o) o = FR) (hc : o + r.length ≤ e) (hf : fitsB s o r = false) : findRun s e r (e + 1 - (o + 1)) (o + 1) = FR := by
  rw [show e + 1 - o = (e - o) + 1 from by omega, findRun, if_pos hc, if_neg (by simp [hf])] at h
  rw [show e + 1 - (o + 1) = e - o from by omega]; exact h

theorem mid_drop {rs : List (List Pc)} {k : Nat} (hk : k + 2 < rs.length) : ((rs.drop 1).take (rs.length - 2)).drop k = rs.getD (k + 1) [] :: ((rs.drop 1).take (rs.length - 2)).drop (k + 1) := by
  have hl : k < ((rs.drop 1).take (rs.length - 2)).length := by simp; omega
  rw [List.drop_eq_getElem_cons hl]
  congr 1
  simp only [List.getElem_take, List.getElem_drop]
  rw [List.getD_eq_getElem?_getD, List.getElem?_eq_getElem (by omega)]
  simp [Nat.add_comm]

set_option maxRecDepth 100000 in
set_option maxHeartbeats 4000000 in
theorem match_core (v : Value) (ps : List Pc) (s : ByteArray) (w : World) (hs : s.size ≤ 100000) (hlen : ps.length ≤ 100000) (h : Sl w v ps) (F : Bool) (HF : Hid (F = gm s ps)) :
    Calls Try.prog 21 #[v, .string s] w fun e w' => e = .returned (.bool F) ∧ Below w.heap.size w w' := by
  have HSL := Lib.hid h
  obtain ⟨a, cap, rfl, hx⟩ := h
  clear hx
  go_enter Try.func21, Try.ntmps21
  go_wp2_with fail
  go_step3
  go_wp2_with fail
  refine (split_any _ ps _ hlen HSL.out).mono ?_
  rintro e w1 ⟨rv, vs, rfl, hown, hra, hB⟩
  obtain ⟨rs, hrs⟩ : ∃ rs, rs = runs ps := ⟨_, rfl⟩
  rw [← hrs] at hra
  have hpos : 0 < rs.length := by rw [hrs]; exact List.length_pos_iff.2 (runs_ne ps)
  obtain ⟨hvl, hsl⟩ := hra
  rcases hown.2 with ⟨rfl, h0⟩ | ⟨gr, cap, cur, rfl, hgr, hcur, hncap, hcapm, hcs, htk⟩
  · omega
  · have hcells : ∀ i, i < rs.length → w1.cell? ⟨gr, i, none⟩ = some (vs.getD i nilV) := by
      intro i hi
      have hc := World.ownsRow.cells hown (g := gr) rfl i (vs.getD i nilV) (by rw [List.getD_eq_getElem?_getD, List.getElem?_eq_getElem (by omega)]; rfl)
      simpa [Addr.add_lit] using hc
    have hc0 := hcells 0 hpos
    have hcl := hcells (rs.length - 1) (by omega)
    have hs0 := hsl 0 hpos
    have hsL := hsl (rs.length - 1) (by omega)
    have HC := Lib.hid hcells
    have HS := Lib.hid hsl
    clear hcells hsl htk hown
    obtain ⟨a0, cap0, hv0, hx0⟩ := id hs0
    obtain ⟨aL, capL, hvL, hxL⟩ := id hsL
    rw [hv0] at hc0 hs0
    rw [hvL] at hcl hsL
    have H0 := Lib.hid hs0
    have HL := Lib.hid hsL
    clear hv0 hvL hs0 hsL hcur hx0 hxL
    have hhlen : (rs.getD 0 []).length ≤ 100000 := by rw [hrs]; exact Nat.le_trans (runs_getD ps _) hlen
    have htlen : (rs.getD (rs.length - 1) []).length ≤ 100000 := by rw [hrs]; exact Nat.le_trans (runs_getD ps _) hlen
    have HLEN : Hid (∀ i, (rs.getD i []).length ≤ 100000) := by rw [hrs]; exact fun i => Nat.le_trans (runs_getD ps i) hlen
    have hrl : rs.length ≤ 100001 := by rw [hrs]; exact Nat.le_trans (runs_len ps) (by omega)
    rw [hvl]
    generalize hhd : rs.getD 0 [] = head at *
    generalize htl : rs.getD (rs.length - 1) [] = tail at *
    obtain ⟨m, hm⟩ : ∃ m, rs.length - 1 = m := ⟨_, rfl⟩
    rw [hm] at hcl htl
    have hw1 : IntKind.i64.wrap ((rs.length : Int) - 1) = (m : Int) := by rw [IntWalk.i64_in _ (by omega)]; omega
    have hml : m < rs.length := by omega
    have hmi : (m : Int) < (rs.length : Int) := by omega
    have hm0 : (0 : Int) ≤ (m : Int) := by omega
    have hp0 : (0 : Int) < (rs.length : Int) := by omega
    have hw2 : (rs.length : Int) - 1 = (m : Int) := by omega
    have HM := Lib.hid hm
    have HRS := Lib.hid hrs
    have HHD := Lib.hid hhd
    have HTL := Lib.hid htl
    have HVL := Lib.hid hvl
    clear hrs hhd htl hvl hm
    go_wp2_with fail
    go_quiet (fail)
    clear hw1
    by_cases h1 : rs.length = 1
    · have h1' : ((rs.length : Int) == 1) = true := by simp [h1]
      have HG : Hid (gm s ps = (decide (head.length = s.size) && fitsB s 0 head)) := by
        unfold Hid gm hd
        rw [← HRS.out, if_pos h1, HHD.out]
      clear h1
      by_cases hl : head.length = s.size
      · have hl' : ((head.length : Int) == s.size) = true := by simp [hl]
        have HLL := Lib.hid hl
        have hle : head.length ≤ s.size := by omega
        clear hl
        go_wp2_with (go_at_call 33; refine (fits_any _ head s _ hs hle ((H0.out.below hB).drewN _)).mono ?_; rintro e w' ⟨rfl, n, rfl⟩)
        rw [Exit.noGoto_ret]
        go_ret
        refine ⟨?_, below_drewN hB _⟩
        rw [HF.out, HG.out, HLL.out]; simp
      · have hl' : ((head.length : Int) == s.size) = false := by rw [beq_eq_false_iff_ne]; omega
        have HLL := Lib.hid hl
        clear hl
        go_wp2_with fail
        rw [Exit.noGoto_ret]
        go_ret
        refine ⟨?_, below_drewN hB _⟩
        rw [HF.out, HG.out]; simp [HLL.out]
    · have h1' : ((rs.length : Int) == 1) = false := by rw [beq_eq_false_iff_ne]; omega
      have HG : Hid (gm s ps = if head.length + tail.length ≤ s.size then
          fitsB s 0 head && fitsB s (s.size - tail.length) tail && mids s (s.size - tail.length) ((rs.drop 1).take (rs.length - 2)) head.length else false) := by
        unfold Hid gm hd tl
        rw [← HRS.out, if_neg h1, HHD.out, HM.out, HTL.out]
      have h2 : 2 ≤ rs.length := by omega
      clear h1
      by_cases hfit : head.length + tail.length ≤ s.size
      · obtain ⟨e, he⟩ : ∃ e, s.size - tail.length = e := ⟨_, rfl⟩
        have heI : (s.size : Int) - (tail.length : Int) = (e : Int) := by omega
        have HE := Lib.hid he
        have HG2 := Lib.hid HG.out
        rw [if_pos hfit, he] at HG
        have hle : head.length ≤ s.size := by omega
        have hhe : head.length ≤ e := by omega
        have hes : e ≤ s.size := by omega
        have hdc : decide (e < head.length) = false := by simp; omega
        have hdi : decide ((e : Int) < (head.length : Int)) = false := by simp; omega
        clear HG2 he hfit
        cases hf1 : fitsB s 0 head
        · have HF1 := Lib.hid hf1
          go_wp2_with (go_at_call 33; refine (fits_any _ head s _ hs hle ((H0.out.below hB).drewN _)).mono ?_; rintro e w' ⟨rfl, n, rfl⟩)
          rw [Exit.noGoto_ret]
          go_ret
          refine ⟨?_, below_drewN hB _⟩
          rw [HF.out, HG.out, HF1.out]; rfl
        · have hxs : (s.extract e s.size).size = s.size - e := by simp
          have HXS := Lib.hid hxs
          clear hxs
          have HHT : Hid (tail.length = s.size - e) := by unfold Hid; rw [← HE.out]; omega
          have hfx := fitsB_extract s e tail 0
          rw [Nat.add_zero] at hfx
          cases hf2 : fitsB s e tail
          · rw [hf2] at hfx
            have HF2 := Lib.hid hf2
            have HF1 := Lib.hid hf1
            clear hf2
            go_wp2_with fail
            refine (fits_any _ head s _ hs hle ((H0.out.below hB).drewN _)).mono ?_
            rintro e' w' ⟨rfl, n, rfl⟩
            go_wp2_with fail
            refine (fits_any _ tail (s.extract e s.size) _ (by rw [HXS.out]; omega) (by rw [HXS.out, HHT.out]; omega) ((HL.out.below hB).drewN _)).mono ?_
            rintro e' w' ⟨rfl, n', rfl⟩
            go_wp2_with fail
            rw [Exit.noGoto_ret]
            go_ret
            refine ⟨?_, below_drewN hB _⟩
            rw [HF.out, HG.out, HF1.out, HF2.out]; rfl
          · rw [hf2] at hfx
            have HF2 := Lib.hid hf2
            have HF1 := Lib.hid hf1
            clear hf2
            go_wp2_with fail
            refine (fits_any _ head s _ hs hle ((H0.out.below hB).drewN _)).mono ?_
            rintro e' w' ⟨rfl, n, rfl⟩
            go_wp2_with fail
            refine (fits_any _ tail (s.extract e s.size) _ (by rw [HXS.out]; omega) (by rw [HXS.out, HHT.out]; omega) ((HL.out.below hB).drewN _)).mono ?_
            rintro e' w' ⟨rfl, n', rfl⟩
            have hm1 : 1 ≤ m := by have := HM.out; omega
            have hcap2 : rs.length ≤ cap := by have := HVL.out; omega
            have hcap1 : ((cap : Int) == 1) = false := by rw [beq_eq_false_iff_ne]; omega
            go_wp2_with fail
            go_step3
            go_wp2_with fail
            obtain ⟨q, hq⟩ : ∃ q, m - 1 = q := ⟨_, rfl⟩
            rw [hq]
            have HQ : Hid (rs.length = q + 2) := by unfold Hid; have := HM.out; omega
            have hqle : q ≤ 100000 := by have := HQ.out; omega
            obtain ⟨M, hM⟩ : ∃ M, mids s e ((rs.drop 1).take (rs.length - 2)) head.length = M := ⟨_, rfl⟩
            have HFM : Hid (F = M) := by unfold Hid; rw [HF.out, HG.out, HF1.out, HF2.out, hM]; rfl
            have HMM := Lib.hid hM
            clear hM hq hf1 hfx HF HG HRS
            go_loopg [9, 67] q (fun g s9 s67 wx => ∃ (k o nn : Nat), k + g = q ∧ s67 = .int .i64 k ∧ s9 = .int .i64 o ∧ o ≤ e ∧ wx = w1.drewN nn ∧ Hid (mids s e (((rs.drop 1).take (rs.length - 2)).drop k) o = M))
            case atStart => exact ⟨0, head.length, _, by omega, rfl, rfl, hhe, rfl, HMM.out⟩
            case round =>
              obtain ⟨k, o, nn, hkg, rfl, rfl, hoe, rfl, HK⟩ := hrel
              cases gk with
              | zero =>
                have hkz : ¬ ((k : Int) < (q : Int)) := by omega
                have HMT : Hid (M = true) := by
                  have := HK.out
                  rw [List.drop_eq_nil_of_le (by have := HQ.out; simp; omega)] at this
                  exact this.symm
                go_wp2_with fail
                try rw [Exit.noGoto_ret]
                go_ret
                refine ⟨?_, below_drewN hB _⟩
                rw [HFM.out, HMT.out]; rfl
              | succ g =>
                have hkq : (k : Int) < (q : Int) := by omega
                have hkn : k < q := by omega
                have hck := HC.out (k + 1) (by have := HQ.out; omega)
                have hsk := HS.out (k + 1) (by have := HQ.out; omega)
                have hrlen : (rs.getD (k + 1) []).length ≤ 100000 := HLEN.out (k + 1)
                have HKD := HK.out
                rw [mid_drop (by have := HQ.out; omega)] at HKD
                generalize rs.getD (k + 1) [] = r at *
                obtain ⟨ar, capr, hvr, hxr⟩ := id hsk
                rw [hvr] at hck hsk
                have HSK := Lib.hid hsk
                clear hsk hvr hxr HK
                rw [show k + 1 = 1 + k from Nat.add_comm _ _] at hck
                obtain ⟨FR, hFR⟩ : ∃ FR, findRun s e r (e + 1 - o) o = FR := ⟨_, rfl⟩
                have HST := Lib.hid (mids_step HKD hFR)
                have HFR := Lib.hid hFR
                clear HKD hFR
                go_wp2_with fail
                go_loopg [9] (e + 1 - o) (fun g2 s9 wx => ∃ (o' nn' : Nat), g2 = e + 1 - o' ∧ s9 = .int .i64 o' ∧ o' ≤ e + 1 ∧ wx = w1.drewN nn' ∧ Hid (findRun s e r (e + 1 - o') o' = FR))
                case atStart => exact ⟨o, nn, rfl, rfl, by omega, rfl, HFR.out⟩
                case round =>
                  obtain ⟨o', nn', hg2, rfl, ho', rfl, HFR'⟩ := hrel
                  have HG2 := Lib.hid hg2
                  clear hg2
                  by_cases hc : o' + r.length ≤ e
                  · have hcI : (o' : Int) + (r.length : Int) ≤ (e : Int) := by omega
                    have ho's : o' ≤ s.size := by omega
                    have hxs : (s.extract o' s.size).size = s.size - o' := by simp
                    have HXS' := Lib.hid hxs
                    clear hxs
                    have hfx := fitsB_extract s o' r 0
                    rw [Nat.add_zero] at hfx
                    cases hf : fitsB s o' r
                    · rw [hf] at hfx
                      have HFB := Lib.hid hf
                      clear hf
                      go_wp2_with fail
                      refine (fits_any _ r (s.extract o' s.size) _ (by rw [HXS'.out]; omega) (by rw [HXS'.out]; omega) ((HSK.out.below hB).drewN _)).mono ?_
                      rintro e' w' ⟨rfl, n2, rfl⟩
                      go_wp2_with fail
                      go_roundg (e + 1 - (o' + 1))
                      case measure => have := HG2.out; omega
                      case rel => exact ⟨o' + 1, _, rfl, by go_num, by omega, rfl, findRun_miss HFR'.out hc HFB.out⟩
                    · rw [hf] at hfx
                      have HFB := Lib.hid hf
                      clear hf
                      go_wp2_with fail
                      refine (fits_any _ r (s.extract o' s.size) _ (by rw [HXS'.out]; omega) (by rw [HXS'.out]; omega) ((HSK.out.below hB).drewN _)).mono ?_
                      rintro e' w' ⟨rfl, n2, rfl⟩
                      go_wp2_with fail
                      go_roundg g
                      case measure => omega
                      case rel => exact ⟨k + 1, o' + r.length, _, by omega, by go_num, by go_num, by omega, rfl, HST.out.2 _ (findRun_hit HFR'.out hc HFB.out)⟩
                  · have hcI : (e : Int) < (o' : Int) + (r.length : Int) := by omega
                    have HMF : Hid (M = false) := HST.out.1 (findRun_no HFR'.out hc)
                    clear hc
                    go_wp2_with fail
                    try rw [Exit.noGoto_ret]
                    go_ret
                    refine ⟨?_, below_drewN hB _⟩
                    rw [HFM.out, HMF.out]; rfl
      · have hfit' : (s.size : Int) - (tail.length : Int) < (head.length : Int) := by omega
        rw [if_neg hfit] at HG
        clear hfit
        go_wp2_with fail
        rw [Exit.noGoto_ret]
        go_ret
        refine ⟨?_, below_drewN hB _⟩
        rw [HF.out, HG.out]; rfl
end Go.Proofs.Ytpgaeldjiiaoiaa
