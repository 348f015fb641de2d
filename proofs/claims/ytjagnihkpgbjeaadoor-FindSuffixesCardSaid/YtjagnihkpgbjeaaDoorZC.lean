import Derived.Shelf.Strings.Trim
import Derived.Shelf.Strings.SlTrimAscii
import Derived.Lib.SlTrimSet
import Derived.Shelf.Strings.Runes
import Derived.Shelf.Strings.AsciiSet
import Derived.Shelf.LaysM
import Derived.Test.YtjagnihkpgbjeaaDoorProg
import Derived.Test.YtjagnihkpgbjeaaDoorJG
import Derived.StillTail
import Derived.Below
import Derived.WalkSmall
import Derived.Deep.Quiet
import Derived.BigQuiet
import Derived.StillTailTactics
namespace Go.Proofs
open Go.Shelf
def Tryd.lays160_ren : Go.Shelf.Ren := ⟨fun | 160 => 76 | 232 => 98 | 231 => 97 | 227 => 99 | 234 => 101 | 233 => 100 | 236 => 103 | 235 => 102 | 228 => 119 | 271 => 122 | 151 => 121 | 197 => 120 | 120 => 149 | 152 => 148 | 260 => 147 | 137 => 163 | 119 => 164 | 224 => 128 | 225 => 127 | 217 => 126 | 266 => 152 | n => n, fun | 9 => 9 | 4 => 4 | 3 => 3 | 5 => 5 | 117 => 141 | 116 => 140 | 0 => 0 | 124 => 144 | 21 => 21 | 105 => 156 | 46 => 154 | 119 => 196 | 139 => 199 | 138 => 198 | n => n, fun | 3 => 1 | 4 => 2 | n => n⟩
theorem Tryd.lays160 : Go.Proofs.Lays.n160 Tryd.prog Tryd.lays160_ren := {
  mixed := by kernel_rfl
  f119 := Tryd.func164.trans (congrArg some (by kernel_rfl))
  f120 := Tryd.func149.trans (congrArg some (by kernel_rfl))
  f137 := Tryd.func163.trans (congrArg some (by kernel_rfl))
  f151 := Tryd.func121.trans (congrArg some (by kernel_rfl))
  f152 := Tryd.func148.trans (congrArg some (by kernel_rfl))
  f160 := Tryd.func76.trans (congrArg some (by kernel_rfl))
  f197 := Tryd.func120.trans (congrArg some (by kernel_rfl))
  f217 := Tryd.func126.trans (congrArg some (by kernel_rfl))
  f224 := Tryd.func128.trans (congrArg some (by kernel_rfl))
  f225 := Tryd.func127.trans (congrArg some (by kernel_rfl))
  f227 := Tryd.func99.trans (congrArg some (by kernel_rfl))
  f228 := Tryd.func119.trans (congrArg some (by kernel_rfl))
  f231 := Tryd.func97.trans (congrArg some (by kernel_rfl))
  f232 := Tryd.func98.trans (congrArg some (by kernel_rfl))
  f233 := Tryd.func100.trans (congrArg some (by kernel_rfl))
  f234 := Tryd.func101.trans (congrArg some (by kernel_rfl))
  f235 := Tryd.func102.trans (congrArg some (by kernel_rfl))
  f236 := Tryd.func103.trans (congrArg some (by kernel_rfl))
  f260 := Tryd.func147.trans (congrArg some (by kernel_rfl))
  f266 := Tryd.func152.trans (congrArg some (by kernel_rfl))
  f271 := Tryd.func122.trans (congrArg some (by kernel_rfl))
  t0 := Tryd.underlying0
  a0 := Tryd.isAgg0
  z0 := Tryd.sizeOf0
  v0 := Tryd.zeroValue0
  t3 := Tryd.underlying3
  a3 := Tryd.isAgg3
  z3 := Tryd.sizeOf3
  v3 := Tryd.zeroValue3
  t4 := Tryd.underlying4
  a4 := Tryd.isAgg4
  z4 := Tryd.sizeOf4
  v4 := Tryd.zeroValue4
  t5 := Tryd.underlying5
  a5 := Tryd.isAgg5
  z5 := Tryd.sizeOf5
  v5 := Tryd.zeroValue5
  t9 := Tryd.underlying9
  a9 := Tryd.isAgg9
  z9 := Tryd.sizeOf9
  v9 := Tryd.zeroValue9
  t21 := Tryd.underlying21
  a21 := Tryd.isAgg21
  z21 := Tryd.sizeOf21
  v21 := Tryd.zeroValue21
  t46 := Tryd.underlying154
  a46 := Tryd.isAgg154
  z46 := Tryd.sizeOf154
  v46 := Tryd.zeroValue154
  t105 := Tryd.underlying156
  a105 := Tryd.isAgg156
  z105 := Tryd.sizeOf156
  v105 := Tryd.zeroValue156
  t116 := Tryd.underlying140
  a116 := Tryd.isAgg140
  z116 := Tryd.sizeOf140
  t117 := Tryd.underlying141
  a117 := Tryd.isAgg141
  z117 := Tryd.sizeOf141
  v117 := Tryd.zeroValue141
  t119 := Tryd.underlying196
  a119 := Tryd.isAgg196
  z119 := Tryd.sizeOf196
  t124 := Tryd.underlying144
  a124 := Tryd.isAgg144
  z124 := Tryd.sizeOf144
  v124 := Tryd.zeroValue144
  t138 := Tryd.underlying198
  a138 := Tryd.isAgg198
  z138 := Tryd.sizeOf198
  v138 := Tryd.zeroValue198
  t139 := Tryd.underlying199
  a139 := Tryd.isAgg199
  z139 := Tryd.sizeOf199
  v139 := Tryd.zeroValue199
  g3 := by kernel_rfl
  g4 := by kernel_rfl }
open Go.RowKit in
theorem Tryd.trim (s cutset : ByteArray) (w : World) (hs : s.size ≤ 9223372036854775807) (hcs : cutset.size < 4294967281) (hascii : ∀ (j : Nat) b, cutset.data.toList[j]? = some b → b.toNat < 128) :
    Calls Tryd.prog 76 #[.string s, .string cutset] w fun e w' => e = .returned (.string ⟨(Lib.trimS s.data.toList cutset.data.toList).toArray⟩) ∧ Below w.heap.size w w' := Any.strings_Trim_laid Tryd.lays160 (by kernel_rfl) s cutset w hs hcs hascii
end Go.Proofs

namespace Go.Proofs.YtjagnihkpgbjeaaDoor
open Go.RowKit Go.Maps Go.ChangeMaps
set_option linter.unusedVariables false
/-! isSpecial of a text of two suffixes; split. -/
def capsB : ByteArray := ⟨#[65, 66, 67, 68, 69, 70, 71, 72, 73, 74, 75, 76, 77, 78, 79, 80, 81, 82, 83, 84, 85, 86, 87, 88, 89, 90, 95]⟩
set_option maxRecDepth 100000 in
theorem caps_low (c : UInt8) (h : (97 : UInt8) ≤ c ∧ c ≤ 122) : capsB.data.toList.contains c = false := by
  have hall : ∀ n : Fin 256, 97 ≤ n.val → n.val ≤ 122 → capsB.data.toList.contains (UInt8.ofNat n.val) = false := by decide
  have := hall ⟨c.toNat, c.toNat_lt⟩ (UInt8.le_iff_toNat_le.1 h.1) (UInt8.le_iff_toNat_le.1 h.2)
  rwa [UInt8.ofNat_toNat] at this
theorem dropWhile_no {p : UInt8 → Bool} {l : Bs} (h : ∀ c, l.head? = some c → p c = false) : l.dropWhile p = l := by
  cases l with
  | nil => rfl
  | cons x xs => rw [List.dropWhile_cons, h x rfl]; rfl
theorem trim_mid {a b : Bs} (ha : Low a) (hb : Low b) (ha0 : a ≠ []) (hb0 : b ≠ []) : Lib.trimS (a ++ 46 :: b) capsB.data.toList = a ++ 46 :: b := by
  have h1 : Lib.trimRightS (a ++ 46 :: b) capsB.data.toList = a ++ 46 :: b := by
    unfold Lib.trimRightS
    rw [dropWhile_no (fun c hc => ?_), List.reverse_reverse]
    refine caps_low c (hb c ?_)
    rw [List.head?_reverse] at hc
    have hne : (46 :: b : Bs) ≠ [] := by simp
    rw [List.getLast?_append, show (46 :: b : Bs).getLast? = b.getLast? from by cases b with | nil => exact absurd rfl hb0 | cons x xs => rw [List.getLast?_cons_cons]] at hc
    cases hg : b.getLast? with
    | none => exact absurd (List.getLast?_eq_none_iff.1 hg) hb0
    | some y =>
      rw [hg] at hc
      have : y = c := by simpa using hc
      rw [← this]; exact List.mem_of_getLast? hg
  unfold Lib.trimS
  rw [h1]
  unfold Lib.trimLeftS
  refine dropWhile_no (fun c hc => caps_low c (ha c ?_))
  cases a with
  | nil => exact absurd rfl ha0
  | cons x xs =>
    have : x = c := by simpa using hc
    rw [← this]; simp
set_option maxRecDepth 100000 in
set_option maxHeartbeats 1000000 in
theorem special_mid (a b : Bs) (w : World) (ha : Low a) (hb : Low b) (ha0 : a ≠ []) (hb0 : b ≠ []) (hl : a.length + b.length ≤ 1000) :
    Calls Tryd.prog 50 #[.string (nameB (46 :: (a ++ 46 :: b)))] w fun e w' => e = .returned (.bool false) ∧ Below w.heap.size w w' := by
  have HC := Lib.hid (Tryd.strings_CutPrefix (nameB (46 :: (a ++ 46 :: b))) ⟨#[46]⟩ w)
  have e0 : (⟨#[46]⟩ : ByteArray).data.toList = [46] := rfl
  have e1 : (nameB (46 :: (a ++ 46 :: b))).data.toList = 46 :: (a ++ 46 :: b) := nameB_list _
  have e2 : Lib.hasPrefix (46 :: (a ++ 46 :: b)) [46] = true := by rw [hp_dot]; rfl
  have e3 : (⟨(Lib.trimPrefix (46 :: (a ++ 46 :: b)) [46]).toArray⟩ : ByteArray) = nameB (a ++ 46 :: b) := by
    unfold Lib.trimPrefix
    rw [if_pos e2]; rfl
  rw [e0, e1, e2, e3] at HC
  have HT := Lib.hid (Tryd.trim (nameB (a ++ 46 :: b)) capsB w (by rw [nameB_size]; simp; omega) (by decide) (by
    intro j c hc
    have hm := List.mem_of_getElem? hc
    revert c
    have : ∀ c ∈ capsB.data.toList, c.toNat < 128 := by decide
    exact fun c _ hm => this c hm))
  rw [nameB_list, trim_mid ha hb ha0 hb0, show (⟨(a ++ 46 :: b).toArray⟩ : ByteArray) = nameB (a ++ 46 :: b) from rfl] at HT
  have hne : (nameB (a ++ 46 :: b)).data.toList ≠ [] := by rw [nameB_list]; simp
  obtain ⟨S, hS⟩ : ∃ S, nameB (46 :: (a ++ 46 :: b)) = S := ⟨_, rfl⟩
  obtain ⟨L, hL⟩ : ∃ L, nameB (a ++ 46 :: b) = L := ⟨_, rfl⟩
  rw [hS, hL] at HC
  rw [hL] at HT hne
  rw [hS]
  have hE2 : ¬ L.toList = [] := by rw [Lib.toList_data]; exact hne
  have hE3 : (L.toList == []) = false := by simpa using hE2
  have hE4 : L.toList.isEmpty = false := by
    cases h : L.toList with
    | nil => exact absurd h hE2
    | cons => rfl
  clear e0 e1 e2 e3 hne hS hL ha hb ha0 hb0 hl
  unfold capsB at HT
  go_enter Tryd.func50, Tryd.ntmps50
  go_wp2_with (first
    | (go_at_call 75; refine HC.out.mono ?_; rintro e w1 ⟨rfl, h1⟩; obtain rfl := h1.symm; simp only [])
    | (go_at_call 76; refine HT.out.mono ?_; rintro e w2 ⟨rfl, h2⟩; have H2 := Lib.hid h2; clear h2; simp only []))
  go_ret
  exact ⟨rfl, H2.out⟩
/-- What split answers. -/
def SplitP (f t : ByteArray) (ok : Bool) (w : World) (e : Ending) (w' : World) : Prop := e = .returned (.tuple #[.string f, .string t, .bool ok]) ∧ Below w.heap.size w w'
set_option maxRecDepth 100000 in
set_option maxHeartbeats 2000000 in
theorem split_none (a b : Bs) (v : Value) (w : World) (ha : Low a) (hb : Low b) (ha0 : a ≠ []) (hb0 : b ≠ []) (hl : a.length + b.length ≤ 1000) (hv : SlS w v []) :
    Calls Tryd.prog 108 #[.string (nameB (46 :: (a ++ 46 :: b))), v] w (SplitP (nameB (46 :: (a ++ 46 :: b))) ⟨#[]⟩ false w) := by
  have HP := Lib.hid (Tryd.strings_HasPrefix (nameB (46 :: (a ++ 46 :: b))) ⟨#[46]⟩ w)
  rw [nameB_list, show (⟨#[46]⟩ : ByteArray).data.toList = [46] from rfl, hp_dot, show (46 :: (a ++ 46 :: b) : Bs).head? = some 46 from rfl] at HP
  simp only [decide_true] at HP
  have HS := Lib.hid (special_mid a b w ha hb ha0 hb0 hl)
  have HC := Lib.hid (fun (w' : World) (h : Below w.heap.size w w') => Contains_any v [] (nameB (46 :: (a ++ 46 :: b))) w' (hv.below h) (by simp) false (by simp))
  obtain ⟨S, hS⟩ : ∃ S, nameB (46 :: (a ++ 46 :: b)) = S := ⟨_, rfl⟩
  rw [hS] at HP HS HC ⊢
  obtain ⟨va, vc, rfl⟩ := hv.len
  clear hS ha hb ha0 hb0 hl hv
  have e0 : ([] : List Bs).length = 0 := rfl
  rw [e0] at HC ⊢
  go_enter Tryd.func108, Tryd.ntmps108
  go_wp2_with (first
    | (go_at_call 59; refine HP.out.mono ?_; rintro e w1 ⟨rfl, h1⟩; obtain rfl := h1.symm; simp only [])
    | (go_at_call 50; refine HS.out.mono ?_; rintro e w2 ⟨rfl, h2⟩; have H2 := Lib.hid h2; clear h2; simp only []))
  go_loopw [20] (fun i wr => i = .int .i64 0 ∧ wr = w2) (fun i _ => 0)
  case atStart => exact ⟨rfl, rfl⟩
  case round =>
    obtain ⟨rfl, hwr⟩ := hrel
    subst hwr
    go_wp2_with (go_at_call 78; refine (HC.out _ H2.out).mono ?_; rintro e w3 ⟨rfl, h3⟩; obtain rfl := h3.symm; simp only [])
    go_ret3
    exact ⟨rfl, H2.out⟩
set_option maxRecDepth 100000 in
set_option maxHeartbeats 2000000 in
theorem split_two (a b : Bs) (v : Value) (w : World) (ha : Low a) (hb : Low b) (ha0 : a ≠ []) (hb0 : b ≠ []) (hl : a.length + b.length ≤ 1000) (hv : SlS w v [46 :: a, 46 :: b]) :
    Calls Tryd.prog 108 #[.string (nameB (46 :: (a ++ 46 :: b))), v] w (SplitP (nameB (46 :: a)) (nameB (46 :: b)) true w) := by
  have HP := Lib.hid (Tryd.strings_HasPrefix (nameB (46 :: (a ++ 46 :: b))) ⟨#[46]⟩ w)
  rw [nameB_list, show (⟨#[46]⟩ : ByteArray).data.toList = [46] from rfl, hp_dot, show (46 :: (a ++ 46 :: b) : Bs).head? = some 46 from rfl] at HP
  simp only [decide_true] at HP
  have HS := Lib.hid (special_mid a b w ha hb ha0 hb0 hl)
  have HC := Lib.hid (fun (w' : World) (h : Below w.heap.size w w') => Contains_any v [46 :: a, 46 :: b] (nameB (46 :: b)) w' (hv.below h) (by simp) true (by rw [nameB_list]; simp))
  have HX := Lib.hid (fun (w' : World) => Tryd.strings_CutPrefix (nameB (46 :: (a ++ 46 :: b))) (nameB (46 :: a)) w')
  have e2 : Lib.hasPrefix (46 :: (a ++ 46 :: b)) (46 :: a) = true := by
    unfold Lib.hasPrefix
    exact List.isPrefixOf_iff_prefix.2 ⟨46 :: b, by simp⟩
  have e3 : (⟨(Lib.trimPrefix (46 :: (a ++ 46 :: b)) (46 :: a)).toArray⟩ : ByteArray) = nameB (46 :: b) := by
    unfold Lib.trimPrefix
    rw [if_pos e2]
    have : (46 :: (a ++ 46 :: b) : Bs).drop (46 :: a : Bs).length = 46 :: b := by simp
    rw [this]; rfl
  rw [nameB_list, nameB_list, e2, e3] at HX
  obtain ⟨va, vc, hvf⟩ := hv.len
  have hvf : v = .slice va 2 vc := hvf
  subst hvf
  obtain ⟨g, o, rfl, hg, hc⟩ := strs_sl hv (by simp)
  have HK : Hid (∀ w' : World, Below w.heap.size w w' → w'.cell? ⟨g, o, none⟩ = some (.string (nameB (46 :: a)))) := fun w' h => by
    have h0 : w.cell? ⟨g, o, none⟩ = some (.string (nameB (46 :: a))) := hc 0 (by simp)
    exact (h.cell (p := ⟨g, o, none⟩) (World.block_lt_of_cell? _ _ h0)).trans h0
  obtain ⟨S, hS⟩ : ∃ S, nameB (46 :: (a ++ 46 :: b)) = S := ⟨_, rfl⟩
  obtain ⟨SA, hSA⟩ : ∃ S, nameB (46 :: a) = S := ⟨_, rfl⟩
  obtain ⟨SB, hSB⟩ : ∃ S, nameB (46 :: b) = S := ⟨_, rfl⟩
  rw [hS] at HP HS HX ⊢
  rw [hSA] at HX HK ⊢
  rw [hSB] at HC HX ⊢
  clear hS hSA hSB ha hb ha0 hb0 hl hv hc e2 e3 hg
  go_enter Tryd.func108, Tryd.ntmps108
  go_wp2_with (first
    | (go_at_call 59; refine HP.out.mono ?_; rintro e w1 ⟨rfl, h1⟩; obtain rfl := h1.symm; simp only [])
    | (go_at_call 50; refine HS.out.mono ?_; rintro e w2 ⟨rfl, h2⟩; have H2 := Lib.hid h2; clear h2; simp only []))
  go_loopw [20] (fun i wr => i = .int .i64 0 ∧ wr = w2) (fun i _ => 0)
  case atStart => exact ⟨rfl, rfl⟩
  case round =>
    obtain ⟨rfl, hwr⟩ := hrel
    subst hwr
    have k0 := HK.out _ H2.out
    go_wp2_with (first
      | (go_at_call 75; refine (HX.out _).mono ?_; rintro e w3 ⟨rfl, h3⟩; obtain rfl := h3.symm; simp only [])
      | (go_at_call 78; refine (HC.out _ H2.out).mono ?_; rintro e w3 ⟨rfl, h3⟩; obtain rfl := h3.symm; simp only []))
    go_ret3
    exact ⟨rfl, H2.out⟩
end Go.Proofs.YtjagnihkpgbjeaaDoor

namespace Go.Proofs.YtjagnihkpgbjeaaDoor
open Go.RowKit Go.Maps Go.ChangeMaps
set_option linter.unusedVariables false
/-! Plan of a target that no plain rule makes, told by what run comes to. -/
def RunHit (w : World) (f : Nat) (tg : Bs) (ms v : Value) (st nd : Bs) (rc : List Bs) : Prop := ∀ (sb : Nat) (w' : World), Below w.heap.size w w' → sb < w'.heap.size → w'.cell? ⟨sb, 0, none⟩ = some ms → w'.cell? ⟨sb, 1, none⟩ = some v → w'.cell? ⟨sb, 2, none⟩ = some (.pointer (some ⟨f, 0, none⟩)) → w'.cell? ⟨sb, 3, none⟩ = some (.string ⟨#[47]⟩) → w'.cell? ⟨sb, 4, none⟩ = some (.string (nameB tg)) →
  Calls Tryd.prog 53 #[.pointer (some ⟨sb, 0, none⟩)] w' fun e w'' => ∃ nv rv, e = .returned (.tuple #[.agg #[nv, rv, .string (nameB st), .bool false], .bool true]) ∧ SlS w'' nv [nd] ∧ SlS w'' rv rc ∧ Below w'.heap.size w' w'' ∧ ∀ g, rv.ownBlock = some g → g < w.heap.size
set_option maxRecDepth 100000 in
set_option maxHeartbeats 8000000 in
theorem Plan_run {w : World} (f : Nat) (ms v : Value) (rs : List Rl) (tg st nd : Bs) (rc : List Bs) (hv : RsV w v rs) (hl : rs.length ≤ 1000) (hms : ∃ a n c, ms = .slice a n c)
    (htg : tg.head? ≠ some 46) (hpl : plainF rs tg = []) (hrl : rc.length ≤ 100000) (hrun : RunHit w f tg ms v st nd rc) :
    Calls Tryd.prog 27 #[.agg #[ms, v], .pointer (some ⟨f, 0, none⟩), .string ⟨#[47]⟩, .string (nameB tg)] w (PlanH ⟨st, [nd], rc, true⟩ w) := by
  obtain ⟨am, nm, cm, rfl⟩ := hms
  have HSP := Lib.hid (fun w => special_no (nameB tg) w (by rw [nameB_list]; exact htg))
  have HPL := Lib.hid (fun (w' : World) (hb : Below w.heap.size w w') => plain_any (.slice am nm cm) v rs (nameB tg) w w' hv hb hl)
  unfold PlainP at HPL
  rw [nameB_list, hpl] at HPL
  have HRN := Lib.hid hrun
  unfold RunHit at HRN
  obtain ⟨a, n0, c, rfl⟩ : ∃ a n c, v = .slice a n c := by obtain ⟨a, c, rfl⟩ := hv.len; exact ⟨_, _, _, rfl⟩
  obtain ⟨TG, hTG⟩ : ∃ TG, nameB tg = TG := ⟨_, rfl⟩
  obtain ⟨ST, hST⟩ : ∃ ST, nameB st = ST := ⟨_, rfl⟩
  rw [hTG] at HSP HPL HRN ⊢
  rw [hST] at HRN
  have HST := Lib.hid hST
  obtain ⟨W0, hW0⟩ : ∃ W0, ((w.alloc (.cells #[.slice am nm cm, .slice a n0 c] 45)).alloc (.cells #[.slice none 0 0, .slice none 0 0, .string ⟨#[]⟩, .bool false] 50)).alloc (.cells #[.slice none 0 0, .slice none 0 0, .string ⟨#[]⟩, .bool false] 50) = W0 := ⟨_, rfl⟩
  have HW0 := Lib.hid hW0
  have HRL := Lib.hid hrl
  clear hv htg hpl hl hW0 hTG hST hrl hrun
  go_enter Tryd.func27, Tryd.ntmps27
  go_wp2_with (go_at_call 50; refine (HSP.out _).mono ?_; rintro e w1 ⟨rfl, h1⟩; obtain rfl := h1.symm; simp only [])
  go_wp2_with fail
  rw [HW0.out]
  have hB0 : Below w.heap.size w W0 := by
    rw [← HW0.out]
    exact below_trans (below_alloc _ _) (below_trans (below_alloc _ _) (below_alloc _ _))
  have hs0 : W0.heap.size = w.heap.size + 1 + 1 + 1 := by rw [← HW0.out, size_alloc, size_alloc, size_alloc]
  have z9 : W0.heap[w.heap.size + 1 + 1]? = some (.cells [.slice none 0 0, .slice none 0 0, .string ⟨#[]⟩, .bool false].toArray 50 (0, 0)) := by
    rw [← HW0.out]
    have := heap_alloc_new ((w.alloc (.cells #[.slice am nm cm, .slice a n0 c] 45)).alloc (.cells #[.slice none 0 0, .slice none 0 0, .string ⟨#[]⟩, .bool false] 50)) (.cells #[.slice none 0 0, .slice none 0 0, .string ⟨#[]⟩, .bool false] 50)
    rw [size_alloc, size_alloc] at this
    exact this
  have z8 : W0.heap[w.heap.size + 1]? = some (.cells [.slice none 0 0, .slice none 0 0, .string ⟨#[]⟩, .bool false].toArray 50 (0, 0)) := by
    rw [← HW0.out, Below.heap_alloc _ _ _ (by rw [size_alloc, size_alloc]; omega)]
    have := heap_alloc_new (w.alloc (.cells #[.slice am nm cm, .slice a n0 c] 45)) (.cells #[.slice none 0 0, .slice none 0 0, .string ⟨#[]⟩, .bool false] 50)
    rw [size_alloc] at this
    exact this
  have z4 : W0.heap[w.heap.size]? = some (.cells #[.slice am nm cm, .slice a n0 c] 45) := by
    rw [← HW0.out, Below.heap_alloc _ _ _ (by rw [size_alloc, size_alloc]; omega), Below.heap_alloc _ _ _ (by rw [size_alloc]; omega)]
    exact heap_alloc_new w _
  have HB0 := Lib.hid hB0
  have HS0 := Lib.hid hs0
  have HZ9 := Lib.hid z9
  have HZ8 := Lib.hid z8
  have HZ4 := Lib.hid z4
  clear hB0 hs0 z9 z8 z4
  refine (HPL.out _ HB0.out).mono ?_
  rintro e w1 ⟨u, rfl, h1⟩
  have H1 := Lib.hid h1.old
  obtain ⟨ua, uc, hu⟩ := (h1.rsv HB0.out).len
  have hu : u = .slice ua 0 uc := hu
  subst hu
  clear h1
  obtain ⟨b9, hb9⟩ : ∃ b9, w.heap.size + 1 + 1 = b9 := ⟨_, rfl⟩
  obtain ⟨b8, hb8⟩ : ∃ b8, w.heap.size + 1 = b8 := ⟨_, rfl⟩
  rw [hb9] at HZ9
  rw [hb8] at HZ8
  have HZ9' := Lib.hid ((H1.out.block _ (Array.getElem?_eq_some_iff.1 HZ9.out).1).trans HZ9.out)
  have HZ8' := Lib.hid ((H1.out.block _ (Array.getElem?_eq_some_iff.1 HZ8.out).1).trans HZ8.out)
  have HZ4' := Lib.hid ((H1.out.block _ (Array.getElem?_eq_some_iff.1 HZ4.out).1).trans HZ4.out)
  have HBW : Hid (Below w.heap.size w w1) := HB0.out.trans (H1.out.mono HB0.out.size)
  have hne89 : b8 ≠ b9 := by omega
  have hne98 : b9 ≠ b8 := by omega
  have hge : w.heap.size ≤ b8 ∧ w.heap.size ≤ b9 := by omega
  simp only [hb9]
  simp only [hb8]
  clear HB0 HS0 HZ9 HZ8 HZ4 H1
  go_wp2_with fail
  go_loopw [22] (fun i wr => i = .int .i64 0 ∧ wr = w1) (fun i _ => 0)
  case atStart => exact ⟨rfl, rfl⟩
  case round =>
    obtain ⟨rfl, hwr⟩ := hrel
    subst hwr
    obtain ⟨k0, k1, k2, k3, i0, i1, i2, i3⟩ := box50 HZ9'.out
    have p0 : wr.cell? ⟨w.heap.size, 0, none⟩ = some (.slice am nm cm) := cell_of (cs := [.slice am nm cm, .slice a n0 c]) HZ4'.out 0
    have p1 : wr.cell? ⟨w.heap.size, 1, none⟩ = some (.slice a n0 c) := cell_of (cs := [.slice am nm cm, .slice a n0 c]) HZ4'.out 1
    have HA9 := Lib.hid (below_alloc wr (.cells #[.slice am nm cm, .slice a n0 c, .pointer (some ⟨f, 0, none⟩), .string ⟨#[47]⟩, .string TG] 91))
    go_wp2_with (first
      | (go_at_call 53; refine (HRN.out wr.heap.size _ (HBW.out.trans (HA9.out.mono HBW.out.size)) (by rw [size_alloc]; omega) (by rw [cell_new]; rfl) (by rw [cell_new]; rfl) (by rw [cell_new]; rfl) (by rw [cell_new]; rfl) (by rw [cell_new]; rfl)).mono ?_; rintro e w5 ⟨nv, rv, rfl, hnv, hrv, h5, hrg⟩; obtain ⟨na, nn, nc, rfl⟩ := sl_form hnv; obtain ⟨ra, rn, rcc, rfl⟩ := sl_form hrv; have HPF := Lib.hid (pf_mk HBW.out (below_trans HA9.out h5) hnv hrv hrg HZ9'.out HZ8'.out (.string ST)); obtain ⟨k0, k1, k2, k3, i0, i1, i2, i3⟩ := box50 HPF.out.z9; have e13 := box50 HPF.out.z13; obtain ⟨m0, m1, m2, m3, _⟩ := e13; have H95 : Hid (b9 < w5.heap.size) := Nat.lt_of_lt_of_le (Array.getElem?_eq_some_iff.1 HZ9'.out).1 (below_trans HA9.out h5).size; clear hnv hrv h5 hrg; simp only [])
      | (go_at_call 52; ((with_reducible refine (HPF.out.add (by simp)).mono ?_)); rintro e w6 ⟨v', rfl, h6⟩; have HAD := Lib.hid h6; obtain ⟨va, vn, vc, rfl⟩ := sl_form h6.n; obtain ⟨k0, k1, k2, k3, i0, i1, i2, i3⟩ := box50 h6.z9; obtain ⟨m0, m1, m2, m3, _⟩ := box50 h6.z13; clear h6; simp only []))
    have hl13 : b9 ≠ w5.heap.size := Nat.ne_of_lt H95.out
    have hl13' : w5.heap.size ≠ b9 := fun e => hl13 e.symm
    have W6E := set_of HAD.out.z9 0 (.slice va vn vc)
    obtain ⟨W6, hW6⟩ : ∃ W6, w6.setCell ⟨b9, 0, none⟩ (.slice va vn vc) = W6 := ⟨_, rfl⟩
    have W13E : W6.heap[w5.heap.size]? = some (.cells [.slice na nn nc, .slice ra rn rcc, .string ST, .bool false].toArray 50 (0, 0)) := by
      rw [← hW6, Below.heap_setCell _ _ _ _ (by show w5.heap.size ≠ b9; exact hl13')]; exact HAD.out.z13
    rw [hW6] at W6E ⊢
    obtain ⟨b13, hb13⟩ : ∃ b13, w5.heap.size = b13 := ⟨_, rfl⟩
    rw [hb13] at W13E hl13 hl13'
    simp only [hb13]
    clear k0 k1 k2 k3 i0 i1 i2 i3 m0 m1 m2 m3 hb13
    obtain ⟨k0, k1, k2, k3, i0, i1, i2, i3⟩ := box50 W6E
    obtain ⟨m0, m1, m2, m3, _⟩ := box50 W13E
    have HW6 := Lib.hid hW6
    have HW6E := Lib.hid W6E
    clear hW6 W6E W13E
    go_region_held3 (fun w' => w'.cell? ⟨b13, 1, none⟩ = some (.slice ra rn rcc) ∧ w'.cell? ⟨b13, 2, none⟩ = some (.string ST)) (go_keep) (fail)
    have HPH := Lib.hid (HAD.out.set hne89 hge.2)
    rw [HW6.out] at HPH
    obtain ⟨W7, hW7⟩ : ∃ W7, (((W6.setCell ⟨b9, 1, none⟩ (.slice ra rn rcc)).setCell ⟨b9, 2, none⟩ (.string ST)).setCell ⟨b9, 3, none⟩ (.bool true)).drew = W7 := ⟨_, rfl⟩
    rw [hW7] at HPH ⊢
    clear k0 k1 k2 k3 i0 i1 i2 i3 m0 m1 m2 m3 hW7
    obtain ⟨k0, k1, k2, k3, i0, i1, i2, i3⟩ := box50 HPH.out.z9
    have HCL := Lib.hid (Clone_any (.slice ra rn rcc) rc W7 HPH.out.r (by have := HRL.out; omega))
    go_wp2_with (go_at_call 54; refine HCL.out.mono ?_; rintro e w8 ⟨v2, rfl, h7⟩; obtain ⟨g9, g8, gf, gn, gr, gb⟩ := HPH.out.fin h7 hne89 hge.1 hge.2; obtain ⟨k0, k1, k2, k3, i0, i1, i2, i3⟩ := box50 g9; obtain ⟨l0, l1, l2, l3, j0, j1, j2, j3⟩ := box50 g8; obtain ⟨xa, xn, xc, rfl⟩ := sl_form h7.sls; have GF := Lib.hid gf; have GN := Lib.hid gn; have GR := Lib.hid gr; have GB := Lib.hid gb; clear h7 g9 g8 gf gn gr gb; simp only [])
    have hf := GF.out
    refine bodyPost_ret (v := .agg #[.slice va vn vc, .slice xa xn xc, .string ST, .bool true]) ?_ rfl ?_
    · obtain ⟨k0, k1, k2, k3, _⟩ := box50 hf
      simp [results, Tryd.results27, go_sem, k0, k1, k2, k3]
      try rfl
    · exact ⟨_, _, by rw [← HST.out], GN.out, GR.out, GB.out⟩
end Go.Proofs.YtjagnihkpgbjeaaDoor

namespace Go.Proofs.YtjagnihkpgbjeaaDoor
open Go Go.RowKit

section
variable {P : Program} {ops : Array Oper} {md : Region.Mode} {C : World → Prop}

/-- The first operations, in whatever order, each quiet in the class; then what L says. -/
def headQ (P : Program) (md : Region.Mode) (ops : Array Oper) (C : World → Prop) (n : Nat) (L : Array Bool → Act → Prop) : Nat → Array Bool → Act → Prop
  | 0, listed, a => L listed a
  | f + 1, listed, a =>
    Region.ready md ops listed ≠ [] ∧ ∀ i ∈ Region.ready md ops listed, i < n ∧ qOp P ops C i (headQ P md ops C n L f (listed.setIfInBounds i true)) a

theorem wpAny_of_headQ {n g : Nat} {L : Array Bool → Act → Prop} {Q' : Exit → Act → World → Prop} (hL : ∀ listed a w, C w → L listed a → wpAny P md ops Q' g listed a w) :
    ∀ (f : Nat) (listed : Array Bool) (a : Act) (w : World), C w → headQ P md ops C n L f listed a → wpAny P md ops Q' (f + g) listed a w
  | 0, listed, a, w, hw, h => by rw [Nat.zero_add]; exact hL _ _ _ hw h
  | f + 1, listed, a, w, hw, h => by
    rw [show f + 1 + g = (f + g) + 1 by omega]
    exact ⟨fun h0 => absurd h0 h.1, fun i hi => wpOp_of_qOp hw (fun a' w' hw' h' => wpAny_of_headQ hL f _ a' w' hw' h') (h.2 i hi).2⟩

theorem headQ_first {n i : Nat} {oi : Oper} {v : Value} {L : Array Bool → Act → Prop} (hi : ops[i]? = some oi) (hsel : ∀ (j : Nat) (o : Oper) cs b, ops[j]? = some o → o.op ≠ .select cs b)
    (hs : Region.sinkB md ops n = true) (hc : Region.chainB md ops n = true) (hn : n < ops.size) (hin : i < n)
    (hdone : ∀ listed a, L listed a → ∀ j ∈ Region.ready md ops listed, n ≤ j) :
    ∀ (f : Nat) (listed : Array Bool) (a : Act), HeadInv md ops n listed →
      (∀ j oj, ops[j]? = some oj → j ≠ i → listed.getD j true = false → (∀ e ∈ oj.after, Region.binds md e = true → e.on ≠ i) → oi.apart ops oj = true) →
      i ∈ Region.ready md ops listed → YieldsIn P ops C oi v a →
      headQ P md ops C n L f (listed.setIfInBounds i true) (a.put oi.dst v) → headQ P md ops C n L (f + 1) listed a := by
  intro f
  induction f with
  | zero =>
    intro listed a inv _ hr hy H
    have hun := (mem_ready.1 hr).1
    refine ⟨fun h => (by rw [h] at hr; cases hr), fun j hj => ?_⟩
    have hjn : j < n := Nat.lt_of_not_le fun h => tail_waits hs hc hn inv _ i rfl hin hun j h hj
    refine ⟨hjn, ?_⟩
    by_cases hji : j = i
    · subst hji; exact hy.qOp hi H
    · have := hdone _ _ H j (ready_mono hj hji)
      omega
  | succ f ih =>
    intro listed a inv hfree hr hy H
    have hun := (mem_ready.1 hr).1
    refine ⟨fun h => (by rw [h] at hr; cases hr), fun j hj => ?_⟩
    have hjn : j < n := Nat.lt_of_not_le fun h => tail_waits hs hc hn inv _ i rfl hin hun j h hj
    refine ⟨hjn, ?_⟩
    by_cases hji : j = i
    · subst hji; exact hy.qOp hi H
    · have h1 := (H.2 j (ready_mono hj hji)).2
      obtain ⟨hjun, oj, hoj, hall⟩ := mem_ready.1 hj
      have hnot : ∀ e ∈ oj.after, Region.binds md e = true → e.on ≠ i := fun e he hb heq => by
        have h5 := hall e he hb
        rw [heq, getD_both hun] at h5
        cases h5
      have h2 := qOp_put hoj (hfree j oj hoj hji hjun hnot) (fun cs b => hsel i oi cs b hi) (fun cs b => hsel j oj cs b hoj) hy h1
      refine qOp_mono (fun a' h3 => ih (listed.setIfInBounds j true) a' (inv.set hj hjn) (fun k ok hk hki hun' hno => ?_) (ready_mono hr (Ne.symm hji)) h3.1 ?_) h2
      · refine hfree k ok hk hki ?_ hno
        by_cases hjk : j = k
        · subst hjk; exact hjun
        · rwa [getD_set_ne true hjk] at hun'
      · rw [Array.setIfInBounds_comm _ _ hji]
        exact h3.2

theorem headQ_lex {n g : Nat} {Lq : Act → Prop} (hsel : Region.noSelect ops = true) (hs : Region.sinkB md ops n = true) (hc : Region.chainB md ops n = true) (hn : n < ops.size) :
    ∀ (l : List Oper) (k : Nat) (listed : Array Bool) (a : Act), (∀ j, j < l.length → l[j]? = ops[k + j]?) → k + l.length = n → HeadInv md ops n listed →
    Region.lexHead md ops g l.length k listed = true → wpQuiet P ops C Lq l a →
    headQ P md ops C n (fun listed' a' => Region.seqB md ops g n listed' = true ∧ Lq a') l.length listed a
  | [], k, listed, a, _, hk, _, hB, h => by
    obtain rfl : k = n := by simpa using hk
    exact ⟨by simpa [Region.lexHead] using hB, h⟩
  | o :: l, k, listed, a, hl, hk, inv, hB, h => by
    have h0 : ops[k]? = some o := by simpa using (hl 0 (by simp)).symm
    simp only [List.length_cons, Region.lexHead, Bool.and_eq_true] at hB
    obtain ⟨⟨hr, hf⟩, hB'⟩ := hB
    have hkn : k < n := by simp only [List.length_cons] at hk; omega
    have hr' : k ∈ Region.ready md ops listed := by simpa using hr
    have hst : qOp P ops C k (wpQuiet P ops C Lq l) a := by unfold qOp; simp only [h0]; exact h
    obtain ⟨v, hy, hK⟩ := yieldsIn_of_qOp h0 hst
    exact headQ_first h0 (Region.noSelect_spec hsel) hs hc hn hkn (fun listed' a' hL => seqB_ready hL.1) l.length listed a inv (Region.free_spec h0 hf) hr' hy
      (headQ_lex hsel hs hc hn l (k + 1) _ _ (fun j hj => by have := hl (j + 1) (by simp; omega); simpa [Nat.add_assoc, Nat.add_comm 1 j] using this) (by simp only [List.length_cons] at hk; omega) (inv.set hr' hkn) hB' hK)

/-- A region whose first n operations are quiet in the class C, and whose others come behind all of these, one by one. -/
theorem wp_region_quiet_tail {id : Nat} {Q : Exit → Act → World → Prop} {a : Act} {w : World} {l : List Oper} (n : Nat) (C : World → Prop) (hm : P.follows .mixedOrders = true) (hB : Region.lexTailB .any l.toArray n = true)
    (hC : C { w with drawn := w.drawn + 1 })
    (h : wpQuiet P l.toArray C (fun a' => ∀ w', C w' → wpList P l.toArray Q (l.drop n) a' w') (l.take n) a) : (Code.region id l.toArray true).wp P Q a w := by
  simp only [Region.lexTailB, Bool.and_eq_true, decide_eq_true_eq] at hB
  obtain ⟨⟨⟨⟨hsel, hn⟩, hs⟩, hc⟩, hlex⟩ := hB
  have hn' : n < l.length := by simpa using hn
  have htl : (l.take n).length = n := by simp; omega
  have hdl : (l.drop n).length = l.toArray.size - n := by simp
  have inv0 : HeadInv .any l.toArray n (Array.replicate l.toArray.size false) :=
    ⟨by simp, fun j oj _ hl => (by rw [getD_replicate_false] at hl; cases hl), fun t _ ht => getD_in (by simpa using ht) (getD_replicate_false _ _)⟩
  have H := headQ_lex (md := .any) (C := C) (g := l.toArray.size - n) hsel hs hc hn (l.take n) 0 _ a (fun j hj => by
    have hj' : j < n := by rw [htl] at hj; exact hj
    simp [hj']) (by simpa using htl) inv0 (by rw [htl]; exact hlex) h
  refine wp_region_any hm ?_
  have := wpAny_of_headQ (C := C) (Q' := Q) (g := l.toArray.size - n) (fun listed a' w' hw' hL => by
    have := wpAny_of_seq (md := .any) (Q' := Q) (l.drop n) n listed a' w' (fun j => by simp [List.getElem?_drop]) (by rw [hdl]; exact hL.1) (hL.2 w' hw')
    rwa [hdl] at this) _ _ _ _ hC H
  rw [htl, show n + (l.toArray.size - n) = l.toArray.size by omega] at this
  exact this
end

/-- The worlds that are as W below W's heap. -/
structure Bw (W : World) where
  v : World
  h : Below W.heap.size W v
instance (W : World) : Nonempty (Bw W) := ⟨⟨W, Below.refl _ _⟩⟩
def bwC (W w' : World) : Prop := ∃ b : Bw W, w' = b.v
theorem bwC_drawn (W : World) : (fun w' => ∃ b : Bw W, w' = b.v) { W with drawn := W.drawn + 1 } := ⟨⟨W.drewN 1, below_drewN (Below.refl _ _) 1⟩, rfl⟩
end Go.Proofs.YtjagnihkpgbjeaaDoor

namespace Go.Proofs.YtjagnihkpgbjeaaDoor
open Go.RowKit Go.Maps Go.ChangeMaps
set_option linter.unusedVariables false
/-! A rule of two suffixes: suffix. -/
def SufP (ok : Bool) (st nd : Bs) (rcv : Value) (w : World) (e : Ending) (w' : World) : Prop := ∃ nv sv, e = .returned (.tuple #[.agg #[nv, rcv, .string sv, .bool false], .bool ok]) ∧ (∃ a n c, nv = .slice a n c) ∧ (ok = true → sv = nameB st ∧ SlS w' nv [nd] ∧ ∀ g, nv.ownBlock = some g → w.heap.size ≤ g) ∧ Below w.heap.size w w'
/-- The boxes of suffix: the rule, the result, the plan. -/
theorem suf_boxes (w : World) (x y z : Value) : ∀ W2, ((w.alloc (.cells #[x, y, z] 48)).alloc (.cells #[.slice none 0 0, .slice none 0 0, .string ⟨#[]⟩, .bool false] 50)).alloc (.cells #[.slice none 0 0, z, .string ⟨#[]⟩, .bool false] 50) = W2 →
    Below w.heap.size w W2 ∧ W2.heap.size = w.heap.size + 1 + 1 + 1 ∧ W2.heap[w.heap.size]? = some (.cells [x, y, z].toArray 48 (0, 0)) ∧ W2.heap[w.heap.size + 1]? = some (.cells [.slice none 0 0, .slice none 0 0, .string ⟨#[]⟩, .bool false].toArray 50 (0, 0)) ∧ W2.heap[w.heap.size + 1 + 1]? = some (.cells [.slice none 0 0, z, .string ⟨#[]⟩, .bool false].toArray 50 (0, 0)) := by
  intro W2 hW2
  refine ⟨hW2 ▸ below_trans (below_alloc _ _) (below_trans (below_alloc _ _) (below_alloc _ _)), by rw [← hW2, size_alloc, size_alloc, size_alloc], ?_, ?_, ?_⟩
  · rw [← hW2, Below.heap_alloc _ _ _ (by rw [size_alloc, size_alloc]; omega), Below.heap_alloc _ _ _ (by rw [size_alloc]; omega)]; exact heap_alloc_new w _
  · rw [← hW2, Below.heap_alloc _ _ _ (by rw [size_alloc, size_alloc]; omega)]
    have := heap_alloc_new (w.alloc (.cells #[x, y, z] 48)) (.cells #[.slice none 0 0, .slice none 0 0, .string ⟨#[]⟩, .bool false] 50)
    rw [size_alloc] at this; exact this
  · rw [← hW2]
    have := heap_alloc_new ((w.alloc (.cells #[x, y, z] 48)).alloc (.cells #[.slice none 0 0, .slice none 0 0, .string ⟨#[]⟩, .bool false] 50)) (.cells #[.slice none 0 0, z, .string ⟨#[]⟩, .bool false] 50)
    rw [size_alloc, size_alloc] at this; exact this
set_option maxRecDepth 100000 in
set_option maxHeartbeats 4000000 in
theorem suf_none (w : World) (sb : Nat) (st a b : Bs) (tv nv rcv uv : Value) (h3 : Rl3 w tv nv rcv (ruS a b)) (hu : SlS w uv []) (ha : Low a) (hb : Low b) (ha0 : a ≠ []) (hb0 : b ≠ []) (hl : a.length + b.length ≤ 1000) (st nd : Bs) :
    Calls Tryd.prog 82 #[.pointer (some ⟨sb, 0, none⟩), .agg #[tv, nv, rcv], uv] w (SufP false st nd rcv w) := by
  obtain ⟨Q, hQ⟩ : ∃ Q, SufP false st nd rcv w = Q := ⟨_, rfl⟩
  rw [hQ]
  have HQ := Lib.hid hQ
  obtain ⟨ta, tc, htv⟩ := h3.t.len
  obtain ⟨na, nc, hnv⟩ := h3.n.len
  obtain ⟨ra, rcc, hrv⟩ := h3.k.len
  have htv : tv = .slice ta 1 tc := htv
  have hnv : nv = .slice na 0 nc := hnv
  have hrv : rcv = .slice ra 1 rcc := hrv
  subst htv; subst hnv; subst hrv
  obtain ⟨gt, ot, rfl, _, hct⟩ := strs_sl h3.t (by simp [ruS])
  have t0 : w.cell? ⟨gt, ot, none⟩ = some (.string (nameB (46 :: (a ++ 46 :: b)))) := hct 0 (by simp [ruS])
  have HS := Lib.hid (fun (w' : World) (h : Below w.heap.size w w') => split_none a b uv w' ha hb ha0 hb0 hl (hu.below h))
  obtain ⟨S, hS⟩ : ∃ S, nameB (46 :: (a ++ 46 :: b)) = S := ⟨_, rfl⟩
  rw [hS] at t0 HS
  obtain ⟨ua, uc, huf⟩ := hu.len
  have huf : uv = .slice ua 0 uc := huf
  subst huf
  obtain ⟨W2, hW2⟩ : ∃ W2, ((w.alloc (.cells #[.slice (some ⟨gt, ot, none⟩) 1 tc, .slice na 0 nc, .slice ra 1 rcc] 48)).alloc (.cells #[.slice none 0 0, .slice none 0 0, .string ⟨#[]⟩, .bool false] 50)).alloc (.cells #[.slice none 0 0, .slice ra 1 rcc, .string ⟨#[]⟩, .bool false] 50) = W2 := ⟨_, rfl⟩
  obtain ⟨hB2, hs2, y3, y4, y6⟩ := suf_boxes w _ _ _ W2 hW2
  have z2 : ((w.alloc (.cells #[.slice (some ⟨gt, ot, none⟩) 1 tc, .slice na 0 nc, .slice ra 1 rcc] 48)).alloc (.cells #[.slice none 0 0, .slice none 0 0, .string ⟨#[]⟩, .bool false] 50)).cell? ⟨w.heap.size, 2, none⟩ = some (.slice ra 1 rcc) := by
    rw [World.cell?, Below.heap_alloc _ _ _ (by rw [size_alloc]; exact Nat.lt_succ_self _), heap_alloc_new]; rfl
  have zx0 : (((w.alloc (.cells #[.slice (some ⟨gt, ot, none⟩) 1 tc, .slice na 0 nc, .slice ra 1 rcc] 48)).alloc (.cells #[.slice none 0 0, .slice none 0 0, .string ⟨#[]⟩, .bool false] 50)).alloc (.cells #[.slice none 0 0, .slice ra 1 rcc, .string ⟨#[]⟩, .bool false] 50)).cell? ⟨w.heap.size, 0, none⟩ = some (.slice (some ⟨gt, ot, none⟩) 1 tc) := by rw [hW2]; exact cell_of y3 0
  have hgt := World.block_lt_of_cell? _ _ t0
  have ztt : (((w.alloc (.cells #[.slice (some ⟨gt, ot, none⟩) 1 tc, .slice na 0 nc, .slice ra 1 rcc] 48)).alloc (.cells #[.slice none 0 0, .slice none 0 0, .string ⟨#[]⟩, .bool false] 50)).alloc (.cells #[.slice none 0 0, .slice ra 1 rcc, .string ⟨#[]⟩, .bool false] 50)).cell? ⟨gt, ot, none⟩ = some (.string S) := by rw [hW2]; exact (hB2.cell (p := ⟨gt, ot, none⟩) hgt).trans t0
  have HW2 := Lib.hid hW2
  have HB2 := Lib.hid hB2
  have HS2 := Lib.hid hs2
  have HY4 := Lib.hid y4
  have HY6 := Lib.hid y6
  clear hct h3 hW2 hB2 hs2 y3 y4 y6 hu ha hb ha0 hb0 hl hS hQ
  go_enter Tryd.func82, Tryd.ntmps82
  go_wp2_with (go_at_call 108; rw [HW2.out]; refine (HS.out _ HB2.out).mono ?_; rintro e w5 ⟨rfl, h5⟩; have H5 := Lib.hid h5; have e6 := (h5.block _ (Array.getElem?_eq_some_iff.1 HY6.out).1).trans HY6.out; have e4 := (h5.block _ (Array.getElem?_eq_some_iff.1 HY4.out).1).trans HY4.out; obtain ⟨k0, k1, k2, k3, i0, i1, i2, i3⟩ := box50 e6; obtain ⟨l0, l1, l2, l3, j0, j1, j2, j3⟩ := box50 e4; have HFX := Lib.hid (fin50 e4 (.slice none 0 0) (.slice ra 1 rcc) (.string ⟨#[]⟩) (.bool false)); have HBW : Hid (Below w.heap.size w w5) := HB2.out.trans (h5.mono HB2.out.size); clear h5 e4 e6; simp only [])
  have hge : w.heap.size ≤ w.heap.size + 1 := Nat.le_succ _
  rw [← HQ.out]
  refine bodyPost_ret (v := .tuple #[.agg #[.slice none 0 0, .slice ra 1 rcc, .string ⟨#[]⟩, .bool false], .bool false]) ?_ rfl ?_
  · obtain ⟨k0, k1, k2, k3, _⟩ := box50 HFX.out
    simp [results, Tryd.results82, go_sem, k0, k1, k2, k3]
    try rfl
  · exact ⟨_, _, rfl, ⟨_, _, _, rfl⟩, (fun e => by cases e), below_set (below_set (below_set (below_set HBW.out hge _ _) hge _ _) hge _ _) hge _ _⟩
end Go.Proofs.YtjagnihkpgbjeaaDoor
