import Derived.Test.YtafbheplaheohaaCK
import Derived.Test.YtafbheplaheohaaCG
namespace Go.Proofs.Ytafbheplaheohaa
open Go.RowKit
set_option linter.unusedVariables false

def brL : Array Value := #[.string ⟨#[]⟩, .string ⟨#[58, 45]⟩, .string ⟨#[45]⟩, .string ⟨#[58, 61]⟩, .string ⟨#[61]⟩, .string ⟨#[58, 63]⟩, .string ⟨#[63]⟩, .string ⟨#[58, 43]⟩, .string ⟨#[43]⟩, .string ⟨#[37]⟩, .string ⟨#[37, 37]⟩, .string ⟨#[35]⟩, .string ⟨#[35, 35]⟩]
theorem brL_at (i : Nat) (h : i < 13) : ∃ O : ByteArray, brL[i]? = some (.string O) ∧ O.data.toList ∈ brOps := by
  have hc : i = 0 ∨ i = 1 ∨ i = 2 ∨ i = 3 ∨ i = 4 ∨ i = 5 ∨ i = 6 ∨ i = 7 ∨ i = 8 ∨ i = 9 ∨ i = 10 ∨ i = 11 ∨ i = 12 := by omega
  rcases hc with rfl | rfl | rfl | rfl | rfl | rfl | rfl | rfl | rfl | rfl | rfl | rfl | rfl
  · exact ⟨⟨#[]⟩, rfl, by decide⟩
  · exact ⟨⟨#[58, 45]⟩, rfl, by decide⟩
  · exact ⟨⟨#[45]⟩, rfl, by decide⟩
  · exact ⟨⟨#[58, 61]⟩, rfl, by decide⟩
  · exact ⟨⟨#[61]⟩, rfl, by decide⟩
  · exact ⟨⟨#[58, 63]⟩, rfl, by decide⟩
  · exact ⟨⟨#[63]⟩, rfl, by decide⟩
  · exact ⟨⟨#[58, 43]⟩, rfl, by decide⟩
  · exact ⟨⟨#[43]⟩, rfl, by decide⟩
  · exact ⟨⟨#[37]⟩, rfl, by decide⟩
  · exact ⟨⟨#[37, 37]⟩, rfl, by decide⟩
  · exact ⟨⟨#[35]⟩, rfl, by decide⟩
  · exact ⟨⟨#[35, 35]⟩, rfl, by decide⟩
/-- The row of operators, and nothing turned. -/
structure WB (w wx : World) (lb i : Nat) (O : ByteArray) : Prop where
  below : Below w.heap.size w wx
  lt : lb < wx.heap.size
  cell : wx.cell? ⟨lb, i, none⟩ = some (.string O)
theorem WB.under {w wx w' : World} {lb i : Nat} {O : ByteArray} (h : WB w wx lb i O) (hb : Below wx.heap.size wx w') : WB w w' lb i O :=
  ⟨h.below.trans (hb.mono h.below.size), Nat.lt_of_lt_of_le h.lt hb.size, cell_under hb h.lt h.cell⟩
def preN (name o : Bz) : Nat → Bz
  | 0 => []
  | k + 1 => preN name o k ++ (36 :: 123 :: (name ++ o))
theorem nest_pre (name o : Bz) : ∀ (k : Nat) (t : Bz), preN name o k ++ (t ++ List.replicate k 125) = preN name o k ++ t ++ List.replicate k 125 := fun k t => by rw [List.append_assoc]
theorem pre_front (name o : Bz) : ∀ k, preN name o (k + 1) = 36 :: 123 :: (name ++ (o ++ preN name o k))
  | 0 => by simp [preN]
  | k + 1 => by
    show preN name o (k + 1) ++ (36 :: 123 :: (name ++ o)) = _
    conv => lhs; rw [pre_front name o k]
    simp [preN]
theorem nest_of (name o : Bz) : ∀ k, nestB name o k = preN name o k ++ List.replicate k 125
  | 0 => rfl
  | k + 1 => by
    rw [nestB, nest_of name o k, pre_front, List.replicate_succ']; simp
theorem pre_len (name o : Bz) : ∀ k, (preN name o k).length = k * (name.length + o.length + 2)
  | 0 => by simp [preN]
  | k + 1 => by rw [preN, List.length_append, pre_len name o k, Nat.add_mul]; simp
theorem pre_size {s O T1 T2 : ByteArray} {k : Nat} (h : T1.data.toList = preN s.data.toList O.data.toList k ∧ T2.data.toList = List.replicate k 125) (hs : s.size ≤ 40) (hO : O.size ≤ 2) (hk : k ≤ 50) : T1.size ≤ 2200 ∧ T2.size ≤ 50 := by
  have h1 := congrArg List.length h.1
  have h2 := congrArg List.length h.2
  rw [pre_len, dl, dl, dl] at h1
  rw [dl, List.length_replicate] at h2
  have : k * (s.size + O.size + 2) ≤ 50 * 44 := Nat.mul_le_mul hk (by omega)
  omega
theorem wd_len {w : World} {F : Nat → Prop} {a : Option Addr} {n c : Nat} {l : List Prt} (h : Wd w F (.slice a n c) l) : n = l.length := by
  obtain ⟨fa, fc, hf⟩ := h.form
  injection hf
theorem Word_some (S : ByteArray) (w : World) (hs : S.size ≤ 9000000000000000000) : Calls Try.prog 17 #[.string S] w fun e w' => ∃ a n c x, e = .returned (.tuple #[.slice a n c, .int .i64 x]) ∧ Below w.heap.size w w' := by
  have h := Word_any S w hs
  cases hr : wordsF S.data.toList with
  | error x =>
    rw [hr] at h
    refine h.mono ?_
    rintro e w' ⟨rfl, _, h2⟩
    exact ⟨none, 0, 0, x, rfl, h2⟩
  | ok l =>
    rw [hr] at h
    refine h.mono ?_
    rintro e w' ⟨v, rfl, h1, h2⟩
    obtain ⟨a, c, rfl⟩ := h1.form
    exact ⟨a, _, c, 0, rfl, h2⟩
theorem take_last {S X : ByteArray} {m : Nat} (hm : S.size = m + 1) (hx : S.extract 0 m = X) : X.data.toList = S.data.toList.take m := by
  rw [← hx, (ext_dt (t := S) (a := 0) (b := m) (by omega) (by omega)).1, List.drop_zero]
theorem take_end (l : Bz) (c : UInt8) : (l ++ [c]).take l.length = l := by rw [List.take_left]
set_option maxRecDepth 100000 in
set_option maxHeartbeats 8000000 in
theorem braces_tt (s : ByteArray) (i d : Nat) (O : ByteArray) (w : World) (hi : i < 13) (hd1 : 1 ≤ d) (hd50 : d ≤ 50) (hsl : s.size ≤ 40) (hO : brL[i]? = some (.string O)) (hOm : O.data.toList ∈ brOps) (hoe : O.data.toList = []) :
    Calls Try.prog 7 #[.string s, .int .i64 i, .int .i64 d, .bool true] w (SayPq w) := by
  obtain ⟨Q, hQ⟩ : ∃ Q, SayPq w = Q := ⟨_, rfl⟩
  rw [hQ]
  have HQ := Lib.hid hQ
  have HA := Lib.hid (alive_any w)
  clear hQ
  have c1 : decide ((i : Int) < 0) = false := decide_eq_false (by omega)
  have c2 : decide ((13 : Int) ≤ (i : Int)) = false := decide_eq_false (by omega)
  have c3 : decide ((d : Int) < 1) = false := decide_eq_false (by omega)
  have c4 : decide ((50 : Int) < (d : Int)) = false := decide_eq_false (by omega)
  have c5 : decide ((40 : Int) < (s.size : Int)) = false := decide_eq_false (by omega)
  have n1 : ¬ (i : Int) < 0 := by omega
  have n2 : ¬ (13 : Int) ≤ (i : Int) := by omega
  have n3 : ¬ (d : Int) < 1 := by omega
  have n4 : ¬ (50 : Int) < (d : Int) := by omega
  have n5 : ¬ (40 : Int) < (s.size : Int) := by omega
  have hi0 : (0 : Int) ≤ (i : Int) := by omega
  have hi13 : (i : Int) < 13 := by omega
  have hol : ∀ o ∈ brOps, o.length ≤ 2 := by decide
  have hOs : O.size ≤ 2 := by rw [← dl]; exact hol _ hOm
  clear hol
  have HO := Lib.hid hO
  have HOM := Lib.hid hOm
  have HOE0 := Lib.hid hoe
  clear hO hOm hoe
  go_enter Try.func7, Try.ntmps7
  go_wp2_with (go_at_call 12; refine HA.out.mono ?_; rintro e w1 ⟨rfl, h1⟩; have H1 := Lib.hid h1; clear h1; simp only [])
  go_loopw [11] (fun iv wx => ∃ k : Nat, k ≤ s.size ∧ iv = .int .i64 k ∧ Hid (WB w wx w1.heap.size i O) ∧ Hid (LowTo s k)) (fun iv _ => s.size - (intOf iv).toNat)
  case atStart => exact ⟨0, Nat.zero_le _, rfl, ⟨H1.out.trans (((Below.refl w1.heap.size w1).alloc (Nat.le_refl _) _).mono H1.out.size), by rw [size_alloc]; omega, (Lib.cell_of_heap (heap_alloc_new w1 _) i).trans HO.out⟩, fun j hj => absurd hj (by omega)⟩
  case round =>
    obtain ⟨k, hk, rfl, HW, HL⟩ := hrel
    by_cases hlt : k < s.size
    · have hltI : (k : Int) < (s.size : Int) := by omega
      have hltd : decide ((k : Int) < (s.size : Int)) = true := decide_eq_true hltI
      have hk0 : (0 : Int) ≤ (k : Int) := by omega
      have hat := data_get s k hlt
      obtain ⟨d', hd'⟩ : ∃ d', s[k]'hlt = d' := ⟨_, rfl⟩
      rw [hd'] at hat
      have HAT := Lib.hid hat
      clear hat
      have h1 := ble 97 d'
      have h2 := ble d' 122
      rw [show ((97 : UInt8).toNat : Int) = 97 from rfl] at h1
      rw [show ((122 : UInt8).toNat : Int) = 122 from rfl] at h2
      obtain ⟨z1, hz1⟩ : ∃ z, decide ((97 : UInt8) ≤ d') = z := ⟨_, rfl⟩
      obtain ⟨z2, hz2⟩ : ∃ z, decide (d' ≤ (122 : UInt8)) = z := ⟨_, rfl⟩
      rw [hz1] at h1
      rw [hz2] at h2
      have HZ1 := Lib.hid hz1
      have HZ2 := Lib.hid hz2
      clear hz1 hz2
      cases z1 <;> cases z2
      all_goals go_wp2_with fail
      all_goals first
        | (rw [← HQ.out]; exact ⟨rfl, HW.out.below⟩)
        | (go_roundw
           case measure => simp [intOf]; omega
           case rel => exact ⟨k + 1, by omega, by go_num, HW.out, HL.out.succ HAT.out ⟨of_decide_eq_true HZ1.out, of_decide_eq_true HZ2.out⟩⟩)
    · obtain rfl : k = s.size := by omega
      have hltd : decide ((s.size : Int) < (s.size : Int)) = false := decide_eq_false (by omega)
      have HLOW := Lib.hid HL.out.all
      clear hlt
      by_cases hse : s.data.toList = []
      · have hE : s.toList.isEmpty = true := isE_of hse
        clear hse
        go_wp2_with fail
        rw [← HQ.out]; exact ⟨rfl, HW.out.below⟩
      have hE : s.toList.isEmpty = false := isE_ne hse
      have HSE := Lib.hid hse
      clear hse
      have hOE : O.toList.isEmpty = true := isE_of HOE0.out
      have q0 := HW.out.cell
      have ad := addn w1.heap.size 0 i
      rw [Nat.zero_add] at ad
      go_wp2_with fail
      go_loopw [12, 13, 14] (fun a b c wx => ∃ k T1 T2, k ≤ 1 ∧ a = .string T1 ∧ b = .string T2 ∧ c = .int .i64 ((k : Nat) : Int) ∧ Hid (WB w wx w1.heap.size i O) ∧ Hid (T1.data.toList = preN s.data.toList O.data.toList k ∧ T2.data.toList = List.replicate k 125)) (fun a b c _ => 1 - (intOf c).toNat)
      case atStart => exact ⟨0, ⟨#[]⟩, ⟨#[]⟩, by omega, rfl, rfl, rfl, HW.out, rfl, rfl⟩
      case round =>
        obtain ⟨k, T1, T2, hk, rfl, rfl, rfl, HW2, HT⟩ := hrel
        obtain ⟨hT1, hT2⟩ := pre_size HT.out hsl hOs (by omega)
        by_cases hlt : k < 1
        · have hltI : (k : Int) < (1 : Int) := by omega
          have hltd : decide ((k : Int) < (1 : Int)) = true := decide_eq_true hltI
          clear q0
          have q0 := HW2.out.cell
          go_wp2_with fail
          go_roundw
          case measure => simp [intOf]; omega
          case rel =>
            refine ⟨k + 1, _, _, by omega, rfl, rfl, by go_num, HW2.out, ?_, ?_⟩
            · simp [HT.out.1, preN]
            · simp [HT.out.2, List.replicate_succ']
        · obtain rfl : 1 = k := by omega
          have hltd : decide ((1 : Int) < (1 : Int)) = false := decide_eq_false (by omega)
          have hDD : ¬ (1 : Int) < (1 : Int) := by omega
          clear q0 hlt
          go_wp2_with fail
          obtain ⟨SS, hSS⟩ : ∃ SS : ByteArray, ((⟨#[34]⟩ : ByteArray) ++ (T1 ++ T2) ++ ⟨#[34]⟩) = SS := ⟨_, rfl⟩
          rw [hSS]
          have hSD : SS.data.toList = 34 :: (nestB s.data.toList O.data.toList 1 ++ [34]) := by rw [← hSS, nest_of]; simp [HT.out.1, HT.out.2]
          have hol : ∀ o ∈ brOps, o.length ≤ 2 := by decide
          have ho2 := hol _ HOM.out
          have hSL : SS.size ≤ 3000 ∧ 2 ≤ SS.size := by
            have e1 := congrArg List.length hSD
            have e2 := nestB_len (name := s.data.toList) (o := O.data.toList) 1
            have e3 : 1 * (s.data.toList.length + O.data.toList.length + 3) ≤ 50 * 45 := Nat.mul_le_mul (by omega) (by rw [dl]; omega)
            have e4 : 1 * 3 ≤ 1 * (s.data.toList.length + O.data.toList.length + 3) := Nat.mul_le_mul (by omega) (by omega)
            rw [dl] at e1
            try simp at e1
            omega
          obtain ⟨m, hm⟩ : ∃ m, SS.size = m + 1 := ⟨SS.size - 1, by omega⟩
          have hmI : IntKind.i64.wrap ((SS.size : Int) - 1) = (m : Int) := by rw [IntWalk.i64_in _ (by omega)]; omega
          have hm1 : (m : Int) ≤ (SS.size : Int) := by omega
          have hm0 : (0 : Int) ≤ (m : Int) := by omega
          obtain ⟨X, hX⟩ : ∃ X, SS.extract 0 m = X := ⟨_, rfl⟩
          have HXD := Lib.hid (take_last hm hX)
          have hXl : X.size ≤ 3000 := by have := congrArg List.length HXD.out; rw [dl, List.length_take, dl] at this; omega
          have HALL := Lib.hid (braces_all (name := s.data.toList) (o := O.data.toList) HLOW.out HSE.out (by rw [dl]; exact hsl) HOM.out (1 - 1) (fun _ => rfl) (by omega) true SS.data.toList X.data.toList (by rw [hSD, if_pos rfl, show 1 - 1 + 1 = 1 by omega]) (by
            have e : SS.data.toList = (34 :: nestB s.data.toList O.data.toList 1) ++ [34] := by
              rw [hSD]; exact rfl
            have e2 : SS.data.toList.length = m + 1 := by rw [dl]; exact hm
            rw [HXD.out, e, if_pos rfl]
            rw [e, List.length_append] at e2
            simp only [List.length_singleton] at e2
            rw [show m = (34 :: nestB s.data.toList O.data.toList 1).length by omega, take_end]))
          rw [show 1 - 1 + 1 = 1 by omega] at HALL
          have HSL := Lib.hid hSL
          clear hSD hSS hm hSL
          have hwb0 := HW2.out.below
          clear hwb0
          have HW1 : Hid (∀ w', Calls Try.prog 17 #[.string SS] w' fun e w'' => ∃ wa wn wc, e = .returned (.tuple #[.slice wa wn wc, .int .i64 0]) ∧ (∃ F, Wd w'' F (.slice wa wn wc) (nestP s.data.toList O.data.toList true 1)) ∧ Below w'.heap.size w' w'') := fun w' => by
            refine (Word_ok SS w' (by have := HSL.out; omega) (HALL.out.2 (by omega)).1).mono ?_
            rintro e w'' ⟨a, c, rfl, h1, h2⟩
            exact ⟨a, _, c, rfl, ⟨_, h1⟩, h2⟩
          have HW2' : Hid (∀ w', Calls Try.prog 17 #[.string X] w' fun e w'' => e = .returned (.tuple #[.slice none 0 0, .int .i64 2]) ∧ Below w'.heap.size w' w'') := fun w' => Word_err X w' (by omega) (HALL.out.2 (by omega)).2
          go_wp2_with (first
            | (go_at_call 15; refine (num_any _ _).mono ?_; rintro e w9 ⟨rfl, h9⟩; obtain rfl := h9.symm; simp only [])
            | (go_at_call 17
               (with_reducible refine (HW1.out _).mono ?_)
               rintro e w5 ⟨wa, wn, wc, rfl, ⟨F5, hwd⟩, h2⟩
               have H5 := Lib.hid h2
               have HWD := Lib.hid hwd
               have HWB5 := Lib.hid (HW2.out.under h2)
               clear hwd h2
               simp only [])
            | (go_at_call 17
               (with_reducible refine (HW2'.out _).mono ?_)
               rintro e w6 ⟨rfl, h2⟩
               have HWD6 := Lib.hid (HWD.out.under h2)
               have HWB6 := Lib.hid (HWB5.out.under h2)
               clear h2
               simp only []))
          go_loopw [15, 19] (fun wv iv wx => ∃ k a n c, k ≤ 1 ∧ wv = .slice a n c ∧ iv = .int .i64 ((k : Nat) : Int) ∧ Hid (WB w wx w1.heap.size i O ∧ ∃ F, Wd wx F (.slice a n c) (nestP s.data.toList O.data.toList true (1 - k)))) (fun wv iv _ => 1 - (intOf iv).toNat)
          case atStart => exact ⟨0, _, _, _, by omega, rfl, rfl, HWB6.out, _, HWD6.out⟩
          case round =>
            obtain ⟨k, va, vn, vc, hk, rfl, rfl, HR⟩ := hrel
            by_cases hlt : k < 1
            · have hltI : (k : Int) < (1 : Int) := by omega
              have hltd : decide ((k : Int) < (1 : Int)) = true := decide_eq_true hltI
              have q0 := HR.out.1.cell
              obtain ⟨j, hj⟩ : ∃ j, 1 - k = j + 1 := ⟨1 - k - 1, by omega⟩
              have hnx : 1 - (k + 1) = j := by omega
              have HNX := Lib.hid hnx
              obtain ⟨hwb, F, hwd⟩ := HR.out
              rw [hj, nestP] at hwd
              have hvn : vn = 1 := wd_len hwd
              subst hvn
              obtain ⟨pb, off, kk, t, nm, o, ua, uc, q, rfl, hpb, p0, p1, p2, p3, p4, p5, i1, i2, i3, i4, i5, hw1⟩ := hwd.cells (i := 0) (by simp)
              simp only [List.getElem_cons_zero, Nat.zero_mul, Nat.add_zero, Prt.kind, Prt.name, Prt.op, Prt.quoted, Prt.word] at p0 p1 p2 p3 p4 p5 i1 i3 i4 i5 hw1
              have i1' : kk = 3 := i1
              subst i1'
              obtain rfl : nm = s := ba_ext i3
              obtain rfl : o = O := ba_ext i4
              subst i5
              have HWD7 := Lib.hid hw1
              have ad0 := addn pb off 0
              have hself : (nm.toList == nm.toList) = true := by simp
              have hselfO : (o.toList == o.toList) = true := by simp
              rw [Nat.add_zero] at ad0
              clear hwb hwd i1 i2 i3 i4 hw1 hnx hj
              go_wp2_with fail
              go_quiet (fail)
              have hbn := drew_below wr nq
              obtain ⟨w7, hw7⟩ : ∃ wv, World.drewN wr nq = wv := ⟨_, rfl⟩
              rw [hw7] at hbn ⊢
              have p4' := cell_under hbn hpb p4
              have HWB7 := Lib.hid (HR.out.1.under hbn)
              have HWD8 := Lib.hid (HWD7.out.under hbn)
              clear hw7 hbn p0 p1 p2 p3 p4 p5 q0
              go_wp2_with fail
              go_roundw
              case measure => simp [intOf]; omega
              case rel => exact ⟨k + 1, _, _, _, by omega, rfl, by go_num, HWB7.out, _, by rw [HNX.out]; exact HWD8.out⟩
            · obtain rfl : 1 = k := by omega
              obtain ⟨hwb, F, hwd⟩ := HR.out
              rw [Nat.sub_self] at hwd
              have hvn : vn = 0 := wd_len hwd
              subst hvn
              have HWB9 := Lib.hid hwb.below
              clear hwb hwd hlt
              go_wp2_with fail
              rw [← HQ.out]; exact ⟨rfl, HWB9.out⟩
set_option maxRecDepth 100000 in
set_option maxHeartbeats 8000000 in
theorem braces_tf (s : ByteArray) (i d : Nat) (O : ByteArray) (w : World) (hi : i < 13) (hd1 : 1 ≤ d) (hd50 : d ≤ 50) (hsl : s.size ≤ 40) (hO : brL[i]? = some (.string O)) (hOm : O.data.toList ∈ brOps) (hoe : O.data.toList = []) :
    Calls Try.prog 7 #[.string s, .int .i64 i, .int .i64 d, .bool false] w (SayPq w) := by
  obtain ⟨Q, hQ⟩ : ∃ Q, SayPq w = Q := ⟨_, rfl⟩
  rw [hQ]
  have HQ := Lib.hid hQ
  have HA := Lib.hid (alive_any w)
  clear hQ
  have c1 : decide ((i : Int) < 0) = false := decide_eq_false (by omega)
  have c2 : decide ((13 : Int) ≤ (i : Int)) = false := decide_eq_false (by omega)
  have c3 : decide ((d : Int) < 1) = false := decide_eq_false (by omega)
  have c4 : decide ((50 : Int) < (d : Int)) = false := decide_eq_false (by omega)
  have c5 : decide ((40 : Int) < (s.size : Int)) = false := decide_eq_false (by omega)
  have n1 : ¬ (i : Int) < 0 := by omega
  have n2 : ¬ (13 : Int) ≤ (i : Int) := by omega
  have n3 : ¬ (d : Int) < 1 := by omega
  have n4 : ¬ (50 : Int) < (d : Int) := by omega
  have n5 : ¬ (40 : Int) < (s.size : Int) := by omega
  have hi0 : (0 : Int) ≤ (i : Int) := by omega
  have hi13 : (i : Int) < 13 := by omega
  have hol : ∀ o ∈ brOps, o.length ≤ 2 := by decide
  have hOs : O.size ≤ 2 := by rw [← dl]; exact hol _ hOm
  clear hol
  have HO := Lib.hid hO
  have HOM := Lib.hid hOm
  have HOE0 := Lib.hid hoe
  clear hO hOm hoe
  go_enter Try.func7, Try.ntmps7
  go_wp2_with (go_at_call 12; refine HA.out.mono ?_; rintro e w1 ⟨rfl, h1⟩; have H1 := Lib.hid h1; clear h1; simp only [])
  go_loopw [11] (fun iv wx => ∃ k : Nat, k ≤ s.size ∧ iv = .int .i64 k ∧ Hid (WB w wx w1.heap.size i O) ∧ Hid (LowTo s k)) (fun iv _ => s.size - (intOf iv).toNat)
  case atStart => exact ⟨0, Nat.zero_le _, rfl, ⟨H1.out.trans (((Below.refl w1.heap.size w1).alloc (Nat.le_refl _) _).mono H1.out.size), by rw [size_alloc]; omega, (Lib.cell_of_heap (heap_alloc_new w1 _) i).trans HO.out⟩, fun j hj => absurd hj (by omega)⟩
  case round =>
    obtain ⟨k, hk, rfl, HW, HL⟩ := hrel
    by_cases hlt : k < s.size
    · have hltI : (k : Int) < (s.size : Int) := by omega
      have hltd : decide ((k : Int) < (s.size : Int)) = true := decide_eq_true hltI
      have hk0 : (0 : Int) ≤ (k : Int) := by omega
      have hat := data_get s k hlt
      obtain ⟨d', hd'⟩ : ∃ d', s[k]'hlt = d' := ⟨_, rfl⟩
      rw [hd'] at hat
      have HAT := Lib.hid hat
      clear hat
      have h1 := ble 97 d'
      have h2 := ble d' 122
      rw [show ((97 : UInt8).toNat : Int) = 97 from rfl] at h1
      rw [show ((122 : UInt8).toNat : Int) = 122 from rfl] at h2
      obtain ⟨z1, hz1⟩ : ∃ z, decide ((97 : UInt8) ≤ d') = z := ⟨_, rfl⟩
      obtain ⟨z2, hz2⟩ : ∃ z, decide (d' ≤ (122 : UInt8)) = z := ⟨_, rfl⟩
      rw [hz1] at h1
      rw [hz2] at h2
      have HZ1 := Lib.hid hz1
      have HZ2 := Lib.hid hz2
      clear hz1 hz2
      cases z1 <;> cases z2
      all_goals go_wp2_with fail
      all_goals first
        | (rw [← HQ.out]; exact ⟨rfl, HW.out.below⟩)
        | (go_roundw
           case measure => simp [intOf]; omega
           case rel => exact ⟨k + 1, by omega, by go_num, HW.out, HL.out.succ HAT.out ⟨of_decide_eq_true HZ1.out, of_decide_eq_true HZ2.out⟩⟩)
    · obtain rfl : k = s.size := by omega
      have hltd : decide ((s.size : Int) < (s.size : Int)) = false := decide_eq_false (by omega)
      have HLOW := Lib.hid HL.out.all
      clear hlt
      by_cases hse : s.data.toList = []
      · have hE : s.toList.isEmpty = true := isE_of hse
        clear hse
        go_wp2_with fail
        rw [← HQ.out]; exact ⟨rfl, HW.out.below⟩
      have hE : s.toList.isEmpty = false := isE_ne hse
      have HSE := Lib.hid hse
      clear hse
      have hOE : O.toList.isEmpty = true := isE_of HOE0.out
      have q0 := HW.out.cell
      have ad := addn w1.heap.size 0 i
      rw [Nat.zero_add] at ad
      go_wp2_with fail
      go_loopw [12, 13, 14] (fun a b c wx => ∃ k T1 T2, k ≤ 1 ∧ a = .string T1 ∧ b = .string T2 ∧ c = .int .i64 ((k : Nat) : Int) ∧ Hid (WB w wx w1.heap.size i O) ∧ Hid (T1.data.toList = preN s.data.toList O.data.toList k ∧ T2.data.toList = List.replicate k 125)) (fun a b c _ => 1 - (intOf c).toNat)
      case atStart => exact ⟨0, ⟨#[]⟩, ⟨#[]⟩, by omega, rfl, rfl, rfl, HW.out, rfl, rfl⟩
      case round =>
        obtain ⟨k, T1, T2, hk, rfl, rfl, rfl, HW2, HT⟩ := hrel
        obtain ⟨hT1, hT2⟩ := pre_size HT.out hsl hOs (by omega)
        by_cases hlt : k < 1
        · have hltI : (k : Int) < (1 : Int) := by omega
          have hltd : decide ((k : Int) < (1 : Int)) = true := decide_eq_true hltI
          clear q0
          have q0 := HW2.out.cell
          go_wp2_with fail
          go_roundw
          case measure => simp [intOf]; omega
          case rel =>
            refine ⟨k + 1, _, _, by omega, rfl, rfl, by go_num, HW2.out, ?_, ?_⟩
            · simp [HT.out.1, preN]
            · simp [HT.out.2, List.replicate_succ']
        · obtain rfl : 1 = k := by omega
          have hltd : decide ((1 : Int) < (1 : Int)) = false := decide_eq_false (by omega)
          have hDD : ¬ (1 : Int) < (1 : Int) := by omega
          clear q0 hlt
          go_wp2_with fail
          obtain ⟨SS, hSS⟩ : ∃ SS : ByteArray, (T1 ++ T2) = SS := ⟨_, rfl⟩
          rw [hSS]
          have hSD : SS.data.toList = nestB s.data.toList O.data.toList 1 := by rw [← hSS, nest_of]; simp [HT.out.1, HT.out.2]
          have hol : ∀ o ∈ brOps, o.length ≤ 2 := by decide
          have ho2 := hol _ HOM.out
          have hSL : SS.size ≤ 3000 ∧ 2 ≤ SS.size := by
            have e1 := congrArg List.length hSD
            have e2 := nestB_len (name := s.data.toList) (o := O.data.toList) 1
            have e3 : 1 * (s.data.toList.length + O.data.toList.length + 3) ≤ 50 * 45 := Nat.mul_le_mul (by omega) (by rw [dl]; omega)
            have e4 : 1 * 3 ≤ 1 * (s.data.toList.length + O.data.toList.length + 3) := Nat.mul_le_mul (by omega) (by omega)
            rw [dl] at e1
            try simp at e1
            omega
          obtain ⟨m, hm⟩ : ∃ m, SS.size = m + 1 := ⟨SS.size - 1, by omega⟩
          have hmI : IntKind.i64.wrap ((SS.size : Int) - 1) = (m : Int) := by rw [IntWalk.i64_in _ (by omega)]; omega
          have hm1 : (m : Int) ≤ (SS.size : Int) := by omega
          have hm0 : (0 : Int) ≤ (m : Int) := by omega
          obtain ⟨X, hX⟩ : ∃ X, SS.extract 0 m = X := ⟨_, rfl⟩
          have HXD := Lib.hid (take_last hm hX)
          have hXl : X.size ≤ 3000 := by have := congrArg List.length HXD.out; rw [dl, List.length_take, dl] at this; omega
          have HALL := Lib.hid (braces_all (name := s.data.toList) (o := O.data.toList) HLOW.out HSE.out (by rw [dl]; exact hsl) HOM.out (1 - 1) (fun _ => rfl) (by omega) false SS.data.toList X.data.toList (by rw [hSD, if_neg (by decide), show 1 - 1 + 1 = 1 by omega]) (by
            have e : SS.data.toList = (36 :: 123 :: (s.data.toList ++ (O.data.toList ++ nestB s.data.toList O.data.toList (1 - 1)))) ++ [125] := by
              rw [hSD]; exact by rw [nestB]; simp [nestB]
            have e2 : SS.data.toList.length = m + 1 := by rw [dl]; exact hm
            rw [HXD.out, e, if_neg (by decide)]
            rw [e, List.length_append] at e2
            simp only [List.length_singleton] at e2
            rw [show m = (36 :: 123 :: (s.data.toList ++ (O.data.toList ++ nestB s.data.toList O.data.toList (1 - 1)))).length by omega, take_end]))
          rw [show 1 - 1 + 1 = 1 by omega] at HALL
          have HSL := Lib.hid hSL
          clear hSD hSS hm hSL
          have hwb0 := HW2.out.below
          clear hwb0
          have HW1 : Hid (∀ w', Calls Try.prog 17 #[.string SS] w' fun e w'' => ∃ wa wn wc, e = .returned (.tuple #[.slice wa wn wc, .int .i64 0]) ∧ (∃ F, Wd w'' F (.slice wa wn wc) (nestP s.data.toList O.data.toList false 1)) ∧ Below w'.heap.size w' w'') := fun w' => by
            refine (Word_ok SS w' (by have := HSL.out; omega) (HALL.out.2 (by omega)).1).mono ?_
            rintro e w'' ⟨a, c, rfl, h1, h2⟩
            exact ⟨a, _, c, rfl, ⟨_, h1⟩, h2⟩
          have HW2' : Hid (∀ w', Calls Try.prog 17 #[.string X] w' fun e w'' => e = .returned (.tuple #[.slice none 0 0, .int .i64 2]) ∧ Below w'.heap.size w' w'') := fun w' => Word_err X w' (by omega) (HALL.out.2 (by omega)).2
          go_wp2_with (first
            | (go_at_call 15; refine (num_any _ _).mono ?_; rintro e w9 ⟨rfl, h9⟩; obtain rfl := h9.symm; simp only [])
            | (go_at_call 17
               (with_reducible refine (HW1.out _).mono ?_)
               rintro e w5 ⟨wa, wn, wc, rfl, ⟨F5, hwd⟩, h2⟩
               have H5 := Lib.hid h2
               have HWD := Lib.hid hwd
               have HWB5 := Lib.hid (HW2.out.under h2)
               clear hwd h2
               simp only [])
            | (go_at_call 17
               (with_reducible refine (HW2'.out _).mono ?_)
               rintro e w6 ⟨rfl, h2⟩
               have HWD6 := Lib.hid (HWD.out.under h2)
               have HWB6 := Lib.hid (HWB5.out.under h2)
               clear h2
               simp only []))
          go_loopw [15, 19] (fun wv iv wx => ∃ k a n c, k ≤ 1 ∧ wv = .slice a n c ∧ iv = .int .i64 ((k : Nat) : Int) ∧ Hid (WB w wx w1.heap.size i O ∧ ∃ F, Wd wx F (.slice a n c) (nestP s.data.toList O.data.toList false (1 - k)))) (fun wv iv _ => 1 - (intOf iv).toNat)
          case atStart => exact ⟨0, _, _, _, by omega, rfl, rfl, HWB6.out, _, HWD6.out⟩
          case round =>
            obtain ⟨k, va, vn, vc, hk, rfl, rfl, HR⟩ := hrel
            by_cases hlt : k < 1
            · have hltI : (k : Int) < (1 : Int) := by omega
              have hltd : decide ((k : Int) < (1 : Int)) = true := decide_eq_true hltI
              have q0 := HR.out.1.cell
              obtain ⟨j, hj⟩ : ∃ j, 1 - k = j + 1 := ⟨1 - k - 1, by omega⟩
              have hnx : 1 - (k + 1) = j := by omega
              have HNX := Lib.hid hnx
              obtain ⟨hwb, F, hwd⟩ := HR.out
              rw [hj, nestP] at hwd
              have hvn : vn = 1 := wd_len hwd
              subst hvn
              obtain ⟨pb, off, kk, t, nm, o, ua, uc, q, rfl, hpb, p0, p1, p2, p3, p4, p5, i1, i2, i3, i4, i5, hw1⟩ := hwd.cells (i := 0) (by simp)
              simp only [List.getElem_cons_zero, Nat.zero_mul, Nat.add_zero, Prt.kind, Prt.name, Prt.op, Prt.quoted, Prt.word] at p0 p1 p2 p3 p4 p5 i1 i3 i4 i5 hw1
              have i1' : kk = 3 := i1
              subst i1'
              obtain rfl : nm = s := ba_ext i3
              obtain rfl : o = O := ba_ext i4
              subst i5
              have HWD7 := Lib.hid hw1
              have ad0 := addn pb off 0
              have hself : (nm.toList == nm.toList) = true := by simp
              have hselfO : (o.toList == o.toList) = true := by simp
              rw [Nat.add_zero] at ad0
              clear hwb hwd i1 i2 i3 i4 hw1 hnx hj
              go_wp2_with fail
              go_quiet (fail)
              have hbn := drew_below wr nq
              obtain ⟨w7, hw7⟩ : ∃ wv, World.drewN wr nq = wv := ⟨_, rfl⟩
              rw [hw7] at hbn ⊢
              have p4' := cell_under hbn hpb p4
              have HWB7 := Lib.hid (HR.out.1.under hbn)
              have HWD8 := Lib.hid (HWD7.out.under hbn)
              clear hw7 hbn p0 p1 p2 p3 p4 p5 q0
              go_wp2_with fail
              go_roundw
              case measure => simp [intOf]; omega
              case rel => exact ⟨k + 1, _, _, _, by omega, rfl, by go_num, HWB7.out, _, by rw [HNX.out]; exact HWD8.out⟩
            · obtain rfl : 1 = k := by omega
              obtain ⟨hwb, F, hwd⟩ := HR.out
              rw [Nat.sub_self] at hwd
              have hvn : vn = 0 := wd_len hwd
              subst hvn
              have HWB9 := Lib.hid hwb.below
              clear hwb hwd hlt
              go_wp2_with fail
              rw [← HQ.out]; exact ⟨rfl, HWB9.out⟩
set_option maxRecDepth 100000 in
set_option maxHeartbeats 8000000 in
theorem braces_ft (s : ByteArray) (i d : Nat) (O : ByteArray) (w : World) (hi : i < 13) (hd1 : 1 ≤ d) (hd50 : d ≤ 50) (hsl : s.size ≤ 40) (hO : brL[i]? = some (.string O)) (hOm : O.data.toList ∈ brOps) (hoe : O.data.toList ≠ []) :
    Calls Try.prog 7 #[.string s, .int .i64 i, .int .i64 d, .bool true] w (SayPq w) := by
  obtain ⟨Q, hQ⟩ : ∃ Q, SayPq w = Q := ⟨_, rfl⟩
  rw [hQ]
  have HQ := Lib.hid hQ
  have HA := Lib.hid (alive_any w)
  clear hQ
  have c1 : decide ((i : Int) < 0) = false := decide_eq_false (by omega)
  have c2 : decide ((13 : Int) ≤ (i : Int)) = false := decide_eq_false (by omega)
  have c3 : decide ((d : Int) < 1) = false := decide_eq_false (by omega)
  have c4 : decide ((50 : Int) < (d : Int)) = false := decide_eq_false (by omega)
  have c5 : decide ((40 : Int) < (s.size : Int)) = false := decide_eq_false (by omega)
  have n1 : ¬ (i : Int) < 0 := by omega
  have n2 : ¬ (13 : Int) ≤ (i : Int) := by omega
  have n3 : ¬ (d : Int) < 1 := by omega
  have n4 : ¬ (50 : Int) < (d : Int) := by omega
  have n5 : ¬ (40 : Int) < (s.size : Int) := by omega
  have hi0 : (0 : Int) ≤ (i : Int) := by omega
  have hi13 : (i : Int) < 13 := by omega
  have hol : ∀ o ∈ brOps, o.length ≤ 2 := by decide
  have hOs : O.size ≤ 2 := by rw [← dl]; exact hol _ hOm
  clear hol
  have HO := Lib.hid hO
  have HOM := Lib.hid hOm
  have HOE0 := Lib.hid hoe
  clear hO hOm hoe
  go_enter Try.func7, Try.ntmps7
  go_wp2_with (go_at_call 12; refine HA.out.mono ?_; rintro e w1 ⟨rfl, h1⟩; have H1 := Lib.hid h1; clear h1; simp only [])
  go_loopw [11] (fun iv wx => ∃ k : Nat, k ≤ s.size ∧ iv = .int .i64 k ∧ Hid (WB w wx w1.heap.size i O) ∧ Hid (LowTo s k)) (fun iv _ => s.size - (intOf iv).toNat)
  case atStart => exact ⟨0, Nat.zero_le _, rfl, ⟨H1.out.trans (((Below.refl w1.heap.size w1).alloc (Nat.le_refl _) _).mono H1.out.size), by rw [size_alloc]; omega, (Lib.cell_of_heap (heap_alloc_new w1 _) i).trans HO.out⟩, fun j hj => absurd hj (by omega)⟩
  case round =>
    obtain ⟨k, hk, rfl, HW, HL⟩ := hrel
    by_cases hlt : k < s.size
    · have hltI : (k : Int) < (s.size : Int) := by omega
      have hltd : decide ((k : Int) < (s.size : Int)) = true := decide_eq_true hltI
      have hk0 : (0 : Int) ≤ (k : Int) := by omega
      have hat := data_get s k hlt
      obtain ⟨d', hd'⟩ : ∃ d', s[k]'hlt = d' := ⟨_, rfl⟩
      rw [hd'] at hat
      have HAT := Lib.hid hat
      clear hat
      have h1 := ble 97 d'
      have h2 := ble d' 122
      rw [show ((97 : UInt8).toNat : Int) = 97 from rfl] at h1
      rw [show ((122 : UInt8).toNat : Int) = 122 from rfl] at h2
      obtain ⟨z1, hz1⟩ : ∃ z, decide ((97 : UInt8) ≤ d') = z := ⟨_, rfl⟩
      obtain ⟨z2, hz2⟩ : ∃ z, decide (d' ≤ (122 : UInt8)) = z := ⟨_, rfl⟩
      rw [hz1] at h1
      rw [hz2] at h2
      have HZ1 := Lib.hid hz1
      have HZ2 := Lib.hid hz2
      clear hz1 hz2
      cases z1 <;> cases z2
      all_goals go_wp2_with fail
      all_goals first
        | (rw [← HQ.out]; exact ⟨rfl, HW.out.below⟩)
        | (go_roundw
           case measure => simp [intOf]; omega
           case rel => exact ⟨k + 1, by omega, by go_num, HW.out, HL.out.succ HAT.out ⟨of_decide_eq_true HZ1.out, of_decide_eq_true HZ2.out⟩⟩)
    · obtain rfl : k = s.size := by omega
      have hltd : decide ((s.size : Int) < (s.size : Int)) = false := decide_eq_false (by omega)
      have HLOW := Lib.hid HL.out.all
      clear hlt
      by_cases hse : s.data.toList = []
      · have hE : s.toList.isEmpty = true := isE_of hse
        clear hse
        go_wp2_with fail
        rw [← HQ.out]; exact ⟨rfl, HW.out.below⟩
      have hE : s.toList.isEmpty = false := isE_ne hse
      have HSE := Lib.hid hse
      clear hse
      have hOE : O.toList.isEmpty = false := isE_ne HOE0.out
      have q0 := HW.out.cell
      have ad := addn w1.heap.size 0 i
      rw [Nat.zero_add] at ad
      go_wp2_with fail
      go_loopw [12, 13, 14] (fun a b c wx => ∃ k T1 T2, k ≤ d ∧ a = .string T1 ∧ b = .string T2 ∧ c = .int .i64 ((k : Nat) : Int) ∧ Hid (WB w wx w1.heap.size i O) ∧ Hid (T1.data.toList = preN s.data.toList O.data.toList k ∧ T2.data.toList = List.replicate k 125)) (fun a b c _ => d - (intOf c).toNat)
      case atStart => exact ⟨0, ⟨#[]⟩, ⟨#[]⟩, by omega, rfl, rfl, rfl, HW.out, rfl, rfl⟩
      case round =>
        obtain ⟨k, T1, T2, hk, rfl, rfl, rfl, HW2, HT⟩ := hrel
        obtain ⟨hT1, hT2⟩ := pre_size HT.out hsl hOs (by omega)
        by_cases hlt : k < d
        · have hltI : (k : Int) < (d : Int) := by omega
          have hltd : decide ((k : Int) < (d : Int)) = true := decide_eq_true hltI
          clear q0
          have q0 := HW2.out.cell
          go_wp2_with fail
          go_roundw
          case measure => simp [intOf]; omega
          case rel =>
            refine ⟨k + 1, _, _, by omega, rfl, rfl, by go_num, HW2.out, ?_, ?_⟩
            · simp [HT.out.1, preN]
            · simp [HT.out.2, List.replicate_succ']
        · obtain rfl : d = k := by omega
          have hltd : decide ((d : Int) < (d : Int)) = false := decide_eq_false (by omega)
          have hDD : ¬ (d : Int) < (d : Int) := by omega
          clear q0 hlt
          go_wp2_with fail
          obtain ⟨SS, hSS⟩ : ∃ SS : ByteArray, ((⟨#[34]⟩ : ByteArray) ++ (T1 ++ T2) ++ ⟨#[34]⟩) = SS := ⟨_, rfl⟩
          rw [hSS]
          have hSD : SS.data.toList = 34 :: (nestB s.data.toList O.data.toList d ++ [34]) := by rw [← hSS, nest_of]; simp [HT.out.1, HT.out.2]
          have hol : ∀ o ∈ brOps, o.length ≤ 2 := by decide
          have ho2 := hol _ HOM.out
          have hSL : SS.size ≤ 3000 ∧ 2 ≤ SS.size := by
            have e1 := congrArg List.length hSD
            have e2 := nestB_len (name := s.data.toList) (o := O.data.toList) d
            have e3 : d * (s.data.toList.length + O.data.toList.length + 3) ≤ 50 * 45 := Nat.mul_le_mul (by omega) (by rw [dl]; omega)
            have e4 : 1 * 3 ≤ d * (s.data.toList.length + O.data.toList.length + 3) := Nat.mul_le_mul (by omega) (by omega)
            rw [dl] at e1
            try simp at e1
            omega
          obtain ⟨m, hm⟩ : ∃ m, SS.size = m + 1 := ⟨SS.size - 1, by omega⟩
          have hmI : IntKind.i64.wrap ((SS.size : Int) - 1) = (m : Int) := by rw [IntWalk.i64_in _ (by omega)]; omega
          have hm1 : (m : Int) ≤ (SS.size : Int) := by omega
          have hm0 : (0 : Int) ≤ (m : Int) := by omega
          obtain ⟨X, hX⟩ : ∃ X, SS.extract 0 m = X := ⟨_, rfl⟩
          have HXD := Lib.hid (take_last hm hX)
          have hXl : X.size ≤ 3000 := by have := congrArg List.length HXD.out; rw [dl, List.length_take, dl] at this; omega
          have HALL := Lib.hid (braces_all (name := s.data.toList) (o := O.data.toList) HLOW.out HSE.out (by rw [dl]; exact hsl) HOM.out (d - 1) (fun e => absurd e HOE0.out) (by omega) true SS.data.toList X.data.toList (by rw [hSD, if_pos rfl, show d - 1 + 1 = d by omega]) (by
            have e : SS.data.toList = (34 :: nestB s.data.toList O.data.toList d) ++ [34] := by
              rw [hSD]; exact rfl
            have e2 : SS.data.toList.length = m + 1 := by rw [dl]; exact hm
            rw [HXD.out, e, if_pos rfl, show d - 1 + 1 = d by omega]
            rw [e, List.length_append] at e2
            simp only [List.length_singleton] at e2
            rw [show m = (34 :: nestB s.data.toList O.data.toList d).length by omega, take_end]))
          rw [show d - 1 + 1 = d by omega] at HALL
          have HSL := Lib.hid hSL
          clear hSD hSS hm hSL
          by_cases hd40 : 40 < d
          · have hdd : decide ((40 : Int) < (d : Int)) = true := decide_eq_true (by omega)
            have hdI : (40 : Int) < (d : Int) := by omega
            have HW1 : Hid (∀ w', Calls Try.prog 17 #[.string SS] w' fun e w'' => e = .returned (.tuple #[.slice none 0 0, .int .i64 3]) ∧ Below w'.heap.size w' w'') := fun w' => Word_err SS w' (by have := HSL.out; omega) (HALL.out.1 (by omega))
            have HW2' : Hid (∀ w', Calls Try.prog 17 #[.string X] w' fun e w'' => ∃ a n c x, e = .returned (.tuple #[.slice a n c, .int .i64 x]) ∧ Below w'.heap.size w' w'') := fun w' => Word_some X w' (by omega)
            go_wp2_with (first
              | (go_at_call 15; refine (num_any _ _).mono ?_; rintro e w9 ⟨rfl, h9⟩; obtain rfl := h9.symm; simp only [])
              | (go_at_call 17
                 (with_reducible refine (HW1.out _).mono ?_)
                 rintro e w5 ⟨rfl, h2⟩
                 have HWB5 := Lib.hid (HW2.out.under h2)
                 clear h2
                 simp only [])
              | (go_at_call 17
                 (with_reducible refine (HW2'.out _).mono ?_)
                 rintro e w6 ⟨ea, en, ec, ex, rfl, h2⟩
                 have HWB6 := Lib.hid (HWB5.out.under h2)
                 clear h2
                 simp only []))
            rw [← HQ.out]; exact ⟨rfl, HWB6.out.below⟩
          have hdd : decide ((40 : Int) < (d : Int)) = false := decide_eq_false (by omega)
          have hdI : ¬ (40 : Int) < (d : Int) := by omega
          have HW1 : Hid (∀ w', Calls Try.prog 17 #[.string SS] w' fun e w'' => ∃ wa wn wc, e = .returned (.tuple #[.slice wa wn wc, .int .i64 0]) ∧ (∃ F, Wd w'' F (.slice wa wn wc) (nestP s.data.toList O.data.toList true d)) ∧ Below w'.heap.size w' w'') := fun w' => by
            refine (Word_ok SS w' (by have := HSL.out; omega) (HALL.out.2 (by omega)).1).mono ?_
            rintro e w'' ⟨a, c, rfl, h1, h2⟩
            exact ⟨a, _, c, rfl, ⟨_, h1⟩, h2⟩
          have HW2' : Hid (∀ w', Calls Try.prog 17 #[.string X] w' fun e w'' => e = .returned (.tuple #[.slice none 0 0, .int .i64 2]) ∧ Below w'.heap.size w' w'') := fun w' => Word_err X w' (by omega) (HALL.out.2 (by omega)).2
          go_wp2_with (first
            | (go_at_call 15; refine (num_any _ _).mono ?_; rintro e w9 ⟨rfl, h9⟩; obtain rfl := h9.symm; simp only [])
            | (go_at_call 17
               (with_reducible refine (HW1.out _).mono ?_)
               rintro e w5 ⟨wa, wn, wc, rfl, ⟨F5, hwd⟩, h2⟩
               have H5 := Lib.hid h2
               have HWD := Lib.hid hwd
               have HWB5 := Lib.hid (HW2.out.under h2)
               clear hwd h2
               simp only [])
            | (go_at_call 17
               (with_reducible refine (HW2'.out _).mono ?_)
               rintro e w6 ⟨rfl, h2⟩
               have HWD6 := Lib.hid (HWD.out.under h2)
               have HWB6 := Lib.hid (HWB5.out.under h2)
               clear h2
               simp only []))
          go_loopw [15, 19] (fun wv iv wx => ∃ k a n c, k ≤ d ∧ wv = .slice a n c ∧ iv = .int .i64 ((k : Nat) : Int) ∧ Hid (WB w wx w1.heap.size i O ∧ ∃ F, Wd wx F (.slice a n c) (nestP s.data.toList O.data.toList true (d - k)))) (fun wv iv _ => d - (intOf iv).toNat)
          case atStart => exact ⟨0, _, _, _, by omega, rfl, rfl, HWB6.out, _, HWD6.out⟩
          case round =>
            obtain ⟨k, va, vn, vc, hk, rfl, rfl, HR⟩ := hrel
            by_cases hlt : k < d
            · have hltI : (k : Int) < (d : Int) := by omega
              have hltd : decide ((k : Int) < (d : Int)) = true := decide_eq_true hltI
              have q0 := HR.out.1.cell
              obtain ⟨j, hj⟩ : ∃ j, d - k = j + 1 := ⟨d - k - 1, by omega⟩
              have hnx : d - (k + 1) = j := by omega
              have HNX := Lib.hid hnx
              obtain ⟨hwb, F, hwd⟩ := HR.out
              rw [hj, nestP] at hwd
              have hvn : vn = 1 := wd_len hwd
              subst hvn
              obtain ⟨pb, off, kk, t, nm, o, ua, uc, q, rfl, hpb, p0, p1, p2, p3, p4, p5, i1, i2, i3, i4, i5, hw1⟩ := hwd.cells (i := 0) (by simp)
              simp only [List.getElem_cons_zero, Nat.zero_mul, Nat.add_zero, Prt.kind, Prt.name, Prt.op, Prt.quoted, Prt.word] at p0 p1 p2 p3 p4 p5 i1 i3 i4 i5 hw1
              have i1' : kk = 3 := i1
              subst i1'
              obtain rfl : nm = s := ba_ext i3
              obtain rfl : o = O := ba_ext i4
              subst i5
              have HWD7 := Lib.hid hw1
              have ad0 := addn pb off 0
              have hself : (nm.toList == nm.toList) = true := by simp
              have hselfO : (o.toList == o.toList) = true := by simp
              rw [Nat.add_zero] at ad0
              clear hwb hwd i1 i2 i3 i4 hw1 hnx hj
              go_wp2_with fail
              go_quiet (fail)
              have hbn := drew_below wr nq
              obtain ⟨w7, hw7⟩ : ∃ wv, World.drewN wr nq = wv := ⟨_, rfl⟩
              rw [hw7] at hbn ⊢
              have p4' := cell_under hbn hpb p4
              have HWB7 := Lib.hid (HR.out.1.under hbn)
              have HWD8 := Lib.hid (HWD7.out.under hbn)
              clear hw7 hbn p0 p1 p2 p3 p4 p5 q0
              go_wp2_with fail
              go_roundw
              case measure => simp [intOf]; omega
              case rel => exact ⟨k + 1, _, _, _, by omega, rfl, by go_num, HWB7.out, _, by rw [HNX.out]; exact HWD8.out⟩
            · obtain rfl : d = k := by omega
              obtain ⟨hwb, F, hwd⟩ := HR.out
              rw [Nat.sub_self] at hwd
              have hvn : vn = 0 := wd_len hwd
              subst hvn
              have HWB9 := Lib.hid hwb.below
              clear hwb hwd hlt
              go_wp2_with fail
              rw [← HQ.out]; exact ⟨rfl, HWB9.out⟩
set_option maxRecDepth 100000 in
set_option maxHeartbeats 8000000 in
theorem braces_ff (s : ByteArray) (i d : Nat) (O : ByteArray) (w : World) (hi : i < 13) (hd1 : 1 ≤ d) (hd50 : d ≤ 50) (hsl : s.size ≤ 40) (hO : brL[i]? = some (.string O)) (hOm : O.data.toList ∈ brOps) (hoe : O.data.toList ≠ []) :
    Calls Try.prog 7 #[.string s, .int .i64 i, .int .i64 d, .bool false] w (SayPq w) := by
  obtain ⟨Q, hQ⟩ : ∃ Q, SayPq w = Q := ⟨_, rfl⟩
  rw [hQ]
  have HQ := Lib.hid hQ
  have HA := Lib.hid (alive_any w)
  clear hQ
  have c1 : decide ((i : Int) < 0) = false := decide_eq_false (by omega)
  have c2 : decide ((13 : Int) ≤ (i : Int)) = false := decide_eq_false (by omega)
  have c3 : decide ((d : Int) < 1) = false := decide_eq_false (by omega)
  have c4 : decide ((50 : Int) < (d : Int)) = false := decide_eq_false (by omega)
  have c5 : decide ((40 : Int) < (s.size : Int)) = false := decide_eq_false (by omega)
  have n1 : ¬ (i : Int) < 0 := by omega
  have n2 : ¬ (13 : Int) ≤ (i : Int) := by omega
  have n3 : ¬ (d : Int) < 1 := by omega
  have n4 : ¬ (50 : Int) < (d : Int) := by omega
  have n5 : ¬ (40 : Int) < (s.size : Int) := by omega
  have hi0 : (0 : Int) ≤ (i : Int) := by omega
  have hi13 : (i : Int) < 13 := by omega
  have hol : ∀ o ∈ brOps, o.length ≤ 2 := by decide
  have hOs : O.size ≤ 2 := by rw [← dl]; exact hol _ hOm
  clear hol
  have HO := Lib.hid hO
  have HOM := Lib.hid hOm
  have HOE0 := Lib.hid hoe
  clear hO hOm hoe
  go_enter Try.func7, Try.ntmps7
  go_wp2_with (go_at_call 12; refine HA.out.mono ?_; rintro e w1 ⟨rfl, h1⟩; have H1 := Lib.hid h1; clear h1; simp only [])
  go_loopw [11] (fun iv wx => ∃ k : Nat, k ≤ s.size ∧ iv = .int .i64 k ∧ Hid (WB w wx w1.heap.size i O) ∧ Hid (LowTo s k)) (fun iv _ => s.size - (intOf iv).toNat)
  case atStart => exact ⟨0, Nat.zero_le _, rfl, ⟨H1.out.trans (((Below.refl w1.heap.size w1).alloc (Nat.le_refl _) _).mono H1.out.size), by rw [size_alloc]; omega, (Lib.cell_of_heap (heap_alloc_new w1 _) i).trans HO.out⟩, fun j hj => absurd hj (by omega)⟩
  case round =>
    obtain ⟨k, hk, rfl, HW, HL⟩ := hrel
    by_cases hlt : k < s.size
    · have hltI : (k : Int) < (s.size : Int) := by omega
      have hltd : decide ((k : Int) < (s.size : Int)) = true := decide_eq_true hltI
      have hk0 : (0 : Int) ≤ (k : Int) := by omega
      have hat := data_get s k hlt
      obtain ⟨d', hd'⟩ : ∃ d', s[k]'hlt = d' := ⟨_, rfl⟩
      rw [hd'] at hat
      have HAT := Lib.hid hat
      clear hat
      have h1 := ble 97 d'
      have h2 := ble d' 122
      rw [show ((97 : UInt8).toNat : Int) = 97 from rfl] at h1
      rw [show ((122 : UInt8).toNat : Int) = 122 from rfl] at h2
      obtain ⟨z1, hz1⟩ : ∃ z, decide ((97 : UInt8) ≤ d') = z := ⟨_, rfl⟩
      obtain ⟨z2, hz2⟩ : ∃ z, decide (d' ≤ (122 : UInt8)) = z := ⟨_, rfl⟩
      rw [hz1] at h1
      rw [hz2] at h2
      have HZ1 := Lib.hid hz1
      have HZ2 := Lib.hid hz2
      clear hz1 hz2
      cases z1 <;> cases z2
      all_goals go_wp2_with fail
      all_goals first
        | (rw [← HQ.out]; exact ⟨rfl, HW.out.below⟩)
        | (go_roundw
           case measure => simp [intOf]; omega
           case rel => exact ⟨k + 1, by omega, by go_num, HW.out, HL.out.succ HAT.out ⟨of_decide_eq_true HZ1.out, of_decide_eq_true HZ2.out⟩⟩)
    · obtain rfl : k = s.size := by omega
      have hltd : decide ((s.size : Int) < (s.size : Int)) = false := decide_eq_false (by omega)
      have HLOW := Lib.hid HL.out.all
      clear hlt
      by_cases hse : s.data.toList = []
      · have hE : s.toList.isEmpty = true := isE_of hse
        clear hse
        go_wp2_with fail
        rw [← HQ.out]; exact ⟨rfl, HW.out.below⟩
      have hE : s.toList.isEmpty = false := isE_ne hse
      have HSE := Lib.hid hse
      clear hse
      have hOE : O.toList.isEmpty = false := isE_ne HOE0.out
      have q0 := HW.out.cell
      have ad := addn w1.heap.size 0 i
      rw [Nat.zero_add] at ad
      go_wp2_with fail
      go_loopw [12, 13, 14] (fun a b c wx => ∃ k T1 T2, k ≤ d ∧ a = .string T1 ∧ b = .string T2 ∧ c = .int .i64 ((k : Nat) : Int) ∧ Hid (WB w wx w1.heap.size i O) ∧ Hid (T1.data.toList = preN s.data.toList O.data.toList k ∧ T2.data.toList = List.replicate k 125)) (fun a b c _ => d - (intOf c).toNat)
      case atStart => exact ⟨0, ⟨#[]⟩, ⟨#[]⟩, by omega, rfl, rfl, rfl, HW.out, rfl, rfl⟩
      case round =>
        obtain ⟨k, T1, T2, hk, rfl, rfl, rfl, HW2, HT⟩ := hrel
        obtain ⟨hT1, hT2⟩ := pre_size HT.out hsl hOs (by omega)
        by_cases hlt : k < d
        · have hltI : (k : Int) < (d : Int) := by omega
          have hltd : decide ((k : Int) < (d : Int)) = true := decide_eq_true hltI
          clear q0
          have q0 := HW2.out.cell
          go_wp2_with fail
          go_roundw
          case measure => simp [intOf]; omega
          case rel =>
            refine ⟨k + 1, _, _, by omega, rfl, rfl, by go_num, HW2.out, ?_, ?_⟩
            · simp [HT.out.1, preN]
            · simp [HT.out.2, List.replicate_succ']
        · obtain rfl : d = k := by omega
          have hltd : decide ((d : Int) < (d : Int)) = false := decide_eq_false (by omega)
          have hDD : ¬ (d : Int) < (d : Int) := by omega
          clear q0 hlt
          go_wp2_with fail
          obtain ⟨SS, hSS⟩ : ∃ SS : ByteArray, (T1 ++ T2) = SS := ⟨_, rfl⟩
          rw [hSS]
          have hSD : SS.data.toList = nestB s.data.toList O.data.toList d := by rw [← hSS, nest_of]; simp [HT.out.1, HT.out.2]
          have hol : ∀ o ∈ brOps, o.length ≤ 2 := by decide
          have ho2 := hol _ HOM.out
          have hSL : SS.size ≤ 3000 ∧ 2 ≤ SS.size := by
            have e1 := congrArg List.length hSD
            have e2 := nestB_len (name := s.data.toList) (o := O.data.toList) d
            have e3 : d * (s.data.toList.length + O.data.toList.length + 3) ≤ 50 * 45 := Nat.mul_le_mul (by omega) (by rw [dl]; omega)
            have e4 : 1 * 3 ≤ d * (s.data.toList.length + O.data.toList.length + 3) := Nat.mul_le_mul (by omega) (by omega)
            rw [dl] at e1
            try simp at e1
            omega
          obtain ⟨m, hm⟩ : ∃ m, SS.size = m + 1 := ⟨SS.size - 1, by omega⟩
          have hmI : IntKind.i64.wrap ((SS.size : Int) - 1) = (m : Int) := by rw [IntWalk.i64_in _ (by omega)]; omega
          have hm1 : (m : Int) ≤ (SS.size : Int) := by omega
          have hm0 : (0 : Int) ≤ (m : Int) := by omega
          obtain ⟨X, hX⟩ : ∃ X, SS.extract 0 m = X := ⟨_, rfl⟩
          have HXD := Lib.hid (take_last hm hX)
          have hXl : X.size ≤ 3000 := by have := congrArg List.length HXD.out; rw [dl, List.length_take, dl] at this; omega
          have HALL := Lib.hid (braces_all (name := s.data.toList) (o := O.data.toList) HLOW.out HSE.out (by rw [dl]; exact hsl) HOM.out (d - 1) (fun e => absurd e HOE0.out) (by omega) false SS.data.toList X.data.toList (by rw [hSD, if_neg (by decide), show d - 1 + 1 = d by omega]) (by
            have e : SS.data.toList = (36 :: 123 :: (s.data.toList ++ (O.data.toList ++ nestB s.data.toList O.data.toList (d - 1)))) ++ [125] := by
              rw [hSD]; exact by rw [show d = d - 1 + 1 by omega, nestB]; simp
            have e2 : SS.data.toList.length = m + 1 := by rw [dl]; exact hm
            rw [HXD.out, e, if_neg (by decide)]
            rw [e, List.length_append] at e2
            simp only [List.length_singleton] at e2
            rw [show m = (36 :: 123 :: (s.data.toList ++ (O.data.toList ++ nestB s.data.toList O.data.toList (d - 1)))).length by omega, take_end]))
          rw [show d - 1 + 1 = d by omega] at HALL
          have HSL := Lib.hid hSL
          clear hSD hSS hm hSL
          by_cases hd40 : 40 < d
          · have hdd : decide ((40 : Int) < (d : Int)) = true := decide_eq_true (by omega)
            have hdI : (40 : Int) < (d : Int) := by omega
            have HW1 : Hid (∀ w', Calls Try.prog 17 #[.string SS] w' fun e w'' => e = .returned (.tuple #[.slice none 0 0, .int .i64 3]) ∧ Below w'.heap.size w' w'') := fun w' => Word_err SS w' (by have := HSL.out; omega) (HALL.out.1 (by omega))
            have HW2' : Hid (∀ w', Calls Try.prog 17 #[.string X] w' fun e w'' => ∃ a n c x, e = .returned (.tuple #[.slice a n c, .int .i64 x]) ∧ Below w'.heap.size w' w'') := fun w' => Word_some X w' (by omega)
            go_wp2_with (first
              | (go_at_call 15; refine (num_any _ _).mono ?_; rintro e w9 ⟨rfl, h9⟩; obtain rfl := h9.symm; simp only [])
              | (go_at_call 17
                 (with_reducible refine (HW1.out _).mono ?_)
                 rintro e w5 ⟨rfl, h2⟩
                 have HWB5 := Lib.hid (HW2.out.under h2)
                 clear h2
                 simp only [])
              | (go_at_call 17
                 (with_reducible refine (HW2'.out _).mono ?_)
                 rintro e w6 ⟨ea, en, ec, ex, rfl, h2⟩
                 have HWB6 := Lib.hid (HWB5.out.under h2)
                 clear h2
                 simp only []))
            rw [← HQ.out]; exact ⟨rfl, HWB6.out.below⟩
          have hdd : decide ((40 : Int) < (d : Int)) = false := decide_eq_false (by omega)
          have hdI : ¬ (40 : Int) < (d : Int) := by omega
          have HW1 : Hid (∀ w', Calls Try.prog 17 #[.string SS] w' fun e w'' => ∃ wa wn wc, e = .returned (.tuple #[.slice wa wn wc, .int .i64 0]) ∧ (∃ F, Wd w'' F (.slice wa wn wc) (nestP s.data.toList O.data.toList false d)) ∧ Below w'.heap.size w' w'') := fun w' => by
            refine (Word_ok SS w' (by have := HSL.out; omega) (HALL.out.2 (by omega)).1).mono ?_
            rintro e w'' ⟨a, c, rfl, h1, h2⟩
            exact ⟨a, _, c, rfl, ⟨_, h1⟩, h2⟩
          have HW2' : Hid (∀ w', Calls Try.prog 17 #[.string X] w' fun e w'' => e = .returned (.tuple #[.slice none 0 0, .int .i64 2]) ∧ Below w'.heap.size w' w'') := fun w' => Word_err X w' (by omega) (HALL.out.2 (by omega)).2
          go_wp2_with (first
            | (go_at_call 15; refine (num_any _ _).mono ?_; rintro e w9 ⟨rfl, h9⟩; obtain rfl := h9.symm; simp only [])
            | (go_at_call 17
               (with_reducible refine (HW1.out _).mono ?_)
               rintro e w5 ⟨wa, wn, wc, rfl, ⟨F5, hwd⟩, h2⟩
               have H5 := Lib.hid h2
               have HWD := Lib.hid hwd
               have HWB5 := Lib.hid (HW2.out.under h2)
               clear hwd h2
               simp only [])
            | (go_at_call 17
               (with_reducible refine (HW2'.out _).mono ?_)
               rintro e w6 ⟨rfl, h2⟩
               have HWD6 := Lib.hid (HWD.out.under h2)
               have HWB6 := Lib.hid (HWB5.out.under h2)
               clear h2
               simp only []))
          go_loopw [15, 19] (fun wv iv wx => ∃ k a n c, k ≤ d ∧ wv = .slice a n c ∧ iv = .int .i64 ((k : Nat) : Int) ∧ Hid (WB w wx w1.heap.size i O ∧ ∃ F, Wd wx F (.slice a n c) (nestP s.data.toList O.data.toList false (d - k)))) (fun wv iv _ => d - (intOf iv).toNat)
          case atStart => exact ⟨0, _, _, _, by omega, rfl, rfl, HWB6.out, _, HWD6.out⟩
          case round =>
            obtain ⟨k, va, vn, vc, hk, rfl, rfl, HR⟩ := hrel
            by_cases hlt : k < d
            · have hltI : (k : Int) < (d : Int) := by omega
              have hltd : decide ((k : Int) < (d : Int)) = true := decide_eq_true hltI
              have q0 := HR.out.1.cell
              obtain ⟨j, hj⟩ : ∃ j, d - k = j + 1 := ⟨d - k - 1, by omega⟩
              have hnx : d - (k + 1) = j := by omega
              have HNX := Lib.hid hnx
              obtain ⟨hwb, F, hwd⟩ := HR.out
              rw [hj, nestP] at hwd
              have hvn : vn = 1 := wd_len hwd
              subst hvn
              obtain ⟨pb, off, kk, t, nm, o, ua, uc, q, rfl, hpb, p0, p1, p2, p3, p4, p5, i1, i2, i3, i4, i5, hw1⟩ := hwd.cells (i := 0) (by simp)
              simp only [List.getElem_cons_zero, Nat.zero_mul, Nat.add_zero, Prt.kind, Prt.name, Prt.op, Prt.quoted, Prt.word] at p0 p1 p2 p3 p4 p5 i1 i3 i4 i5 hw1
              have i1' : kk = 3 := i1
              subst i1'
              obtain rfl : nm = s := ba_ext i3
              obtain rfl : o = O := ba_ext i4
              subst i5
              have HWD7 := Lib.hid hw1
              have ad0 := addn pb off 0
              have hself : (nm.toList == nm.toList) = true := by simp
              have hselfO : (o.toList == o.toList) = true := by simp
              rw [Nat.add_zero] at ad0
              clear hwb hwd i1 i2 i3 i4 hw1 hnx hj
              go_wp2_with fail
              go_quiet (fail)
              have hbn := drew_below wr nq
              obtain ⟨w7, hw7⟩ : ∃ wv, World.drewN wr nq = wv := ⟨_, rfl⟩
              rw [hw7] at hbn ⊢
              have p4' := cell_under hbn hpb p4
              have HWB7 := Lib.hid (HR.out.1.under hbn)
              have HWD8 := Lib.hid (HWD7.out.under hbn)
              clear hw7 hbn p0 p1 p2 p3 p4 p5 q0
              go_wp2_with fail
              go_roundw
              case measure => simp [intOf]; omega
              case rel => exact ⟨k + 1, _, _, _, by omega, rfl, by go_num, HWB7.out, _, by rw [HNX.out]; exact HWD8.out⟩
            · obtain rfl : d = k := by omega
              obtain ⟨hwb, F, hwd⟩ := HR.out
              rw [Nat.sub_self] at hwd
              have hvn : vn = 0 := wd_len hwd
              subst hvn
              have HWB9 := Lib.hid hwb.below
              clear hwb hwd hlt
              go_wp2_with fail
              rw [← HQ.out]; exact ⟨rfl, HWB9.out⟩
set_option maxRecDepth 100000 in
set_option maxHeartbeats 8000000 in
theorem braces_walk (s : ByteArray) (z dz : Int) (q : Bool) (w : World) : Calls Try.prog 7 #[.string s, .int .i64 z, .int .i64 dz, .bool q] w (SayPq w) := by
  by_cases hin : 0 ≤ z ∧ z < 13 ∧ 1 ≤ dz ∧ dz ≤ 50 ∧ s.size ≤ 40
  · obtain ⟨h1, h2, h3, h4, h5⟩ := hin
    obtain ⟨i, rfl⟩ : ∃ i : Nat, z = i := ⟨z.toNat, by omega⟩
    obtain ⟨d, rfl⟩ : ∃ d : Nat, dz = d := ⟨dz.toNat, by omega⟩
    obtain ⟨O, hO, hOm⟩ := brL_at i (by omega)
    by_cases ho : O.data.toList = []
    · cases q
      · exact braces_tf s i d O w (by omega) (by omega) (by omega) h5 hO hOm ho
      · exact braces_tt s i d O w (by omega) (by omega) (by omega) h5 hO hOm ho
    · cases q
      · exact braces_ff s i d O w (by omega) (by omega) (by omega) h5 hO hOm ho
      · exact braces_ft s i d O w (by omega) (by omega) (by omega) h5 hO hOm ho
  obtain ⟨Q, hQ⟩ : ∃ Q, SayPq w = Q := ⟨_, rfl⟩
  rw [hQ]
  have HQ := Lib.hid hQ
  have HA := Lib.hid (alive_any w)
  clear hQ
  have hin' : z < 0 ∨ 13 ≤ z ∨ dz < 1 ∨ 50 < dz ∨ (40 : Int) < (s.size : Int) := by omega
  clear hin
  have HEND : Hid (∀ w1 A ta, Below w.heap.size w w1 → Below w.heap.size w (w1.alloc (.cells A ta))) := fun w1 A ta h => h.trans (((Below.refl w1.heap.size w1).alloc (Nat.le_refl _) _).mono h.size)
  obtain ⟨b1, hb1⟩ : ∃ b, decide (z < 0) = b := ⟨_, rfl⟩
  obtain ⟨b2, hb2⟩ : ∃ b, decide (13 ≤ z) = b := ⟨_, rfl⟩
  obtain ⟨b3, hb3⟩ : ∃ b, decide (dz < 1) = b := ⟨_, rfl⟩
  obtain ⟨b4, hb4⟩ : ∃ b, decide (50 < dz) = b := ⟨_, rfl⟩
  obtain ⟨b5, hb5⟩ : ∃ b, decide ((40 : Int) < (s.size : Int)) = b := ⟨_, rfl⟩
  have HIN : Hid (b1 = true ∨ b2 = true ∨ b3 = true ∨ b4 = true ∨ b5 = true) := by
    rw [Hid, ← hb1, ← hb2, ← hb3, ← hb4, ← hb5]; simpa using hin'
  clear hin'
  cases b1 with
  | true =>
    go_enter Try.func7, Try.ntmps7
    go_wp2_with (go_at_call 12; refine HA.out.mono ?_; rintro e w1 ⟨rfl, h1⟩; have H1 := Lib.hid h1; clear h1; simp only [])
    rw [← HQ.out]; exact ⟨rfl, HEND.out _ _ _ H1.out⟩
  | false =>
    cases b2 with
    | true =>
      go_enter Try.func7, Try.ntmps7
      go_wp2_with (go_at_call 12; refine HA.out.mono ?_; rintro e w1 ⟨rfl, h1⟩; have H1 := Lib.hid h1; clear h1; simp only [])
      rw [← HQ.out]; exact ⟨rfl, HEND.out _ _ _ H1.out⟩
    | false =>
      cases b3 with
      | true =>
        go_enter Try.func7, Try.ntmps7
        go_wp2_with (go_at_call 12; refine HA.out.mono ?_; rintro e w1 ⟨rfl, h1⟩; have H1 := Lib.hid h1; clear h1; simp only [])
        rw [← HQ.out]; exact ⟨rfl, HEND.out _ _ _ H1.out⟩
      | false =>
        cases b4 with
        | true =>
          go_enter Try.func7, Try.ntmps7
          go_wp2_with (go_at_call 12; refine HA.out.mono ?_; rintro e w1 ⟨rfl, h1⟩; have H1 := Lib.hid h1; clear h1; simp only [])
          rw [← HQ.out]; exact ⟨rfl, HEND.out _ _ _ H1.out⟩
        | false =>
          cases b5 with
          | true =>
            go_enter Try.func7, Try.ntmps7
            go_wp2_with (go_at_call 12; refine HA.out.mono ?_; rintro e w1 ⟨rfl, h1⟩; have H1 := Lib.hid h1; clear h1; simp only [])
            rw [← HQ.out]; exact ⟨rfl, HEND.out _ _ _ H1.out⟩
          | false => exact absurd HIN.out (by simp)
end Go.Proofs.Ytafbheplaheohaa
