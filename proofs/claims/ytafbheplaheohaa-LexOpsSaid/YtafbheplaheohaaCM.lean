import Derived.Test.YtafbheplaheohaaCK
import Derived.Test.YtafbheplaheohaaMF
import Derived.Laws.BitsLemmas
import Derived.ChangeSlices
import Derived.SliceStrings
import Derived.Carry
namespace Go.Proofs.Ytafbheplaheohaa
open Go.RowKit Go.ChangeShapes Go.WideShapes
set_option linter.unusedVariables false

theorem cells3 : Try.prog.cellsOf 3 = 1 := by kernel_rfl
def Ints (w : World) (A : Option Addr) (n : Nat) (zs : Nat → Int) : Prop := 0 < n → ∃ a, A = some a ∧ ∀ k, k < n → w.cell? (a.add k) = some (.int .i64 (zs k))
theorem bounds64 {z : Int} (h : (Lit.int .i64 z).wf = true) : -9223372036854775808 ≤ z ∧ z ≤ 9223372036854775807 := by
  simp [Lit.wf] at h
  have h1 : IntKind.i64.min = -9223372036854775808 := by decide
  have h2 : IntKind.i64.max = 9223372036854775807 := by decide
  omega
/-- A slice of numbers, opened for the walk. -/
theorem open_nums {H : Type} {enc : TypeId × Value → H} {W : World} {v : Value} {d : DataW H} {p : List MemPlace} {base : Nat}
    (hv : Value.okWide Try.prog W .any base 46 v) (h : DataW.Trod enc Try.prog W 0 (fun _ => true) true 46 v d p) :
    ∃ A n c zs, v = .slice A n c ∧ n ≤ maxLen ∧ (∀ k : Nat, -9223372036854775808 ≤ (zs k : Int) ∧ zs k ≤ 9223372036854775807) ∧ Ints W A n zs := by
  obtain ⟨a0, len, cap, rfl⟩ := okWide_slice Try.underlying46 hv
  obtain ⟨fuel, hf⟩ := h
  rcases open_ints Try.underlying46 Try.underlying3 cells3 hf with ⟨hcs, hx⟩ | ⟨a, len', cap', zs, hcs, _, hl, hm, hz, hx, hcell, hsz⟩
  · simp [Value.cells] at hcs
    obtain ⟨rfl, rfl, rfl⟩ := hcs
    exact ⟨none, 0, 0, fun _ => 0, rfl, by unfold maxLen; omega, fun _ => by simp, fun h => absurd h (by omega)⟩
  · simp [Value.cells] at hcs
    obtain ⟨rfl, rfl, rfl⟩ := hcs
    rw [if_pos rfl] at hz
    refine ⟨some a, len, cap, fun k => zs.getD k 0, rfl, by omega, fun k => ?_, fun _ => ⟨a, rfl, fun i hi => hcell i (by omega)⟩⟩
    by_cases hk : k < zs.length
    · have := bounds64 (hsz zs[k] (List.getElem_mem hk))
      simp only [List.getD_eq_getElem?_getD, List.getElem?_eq_getElem hk, Option.getD_some]
      exact this
    · simp only [List.getD_eq_getElem?_getD, List.getElem?_eq_none (Nat.le_of_not_lt hk), Option.getD_none]
      omega
theorem i64_and1023 (n : Int) : bits .and .i64 n 1023 = n % 1024 := by
  have h3 : (BitVec.ofInt 64 1023).toNat = 2 ^ 10 - 1 := by decide
  have key : (BitVec.ofInt 64 n &&& BitVec.ofInt 64 1023).toNat = (n % ((2 ^ 64 : Nat) : Int)).toNat % 2 ^ 10 := by
    rw [BitVec.toNat_and, BitVec.toNat_ofInt, h3, Nat.and_two_pow_sub_one_eq_mod]
  show IntKind.i64.wrap ((BitVec.ofInt 64 n &&& BitVec.ofInt 64 1023).toNat : Nat) = n % 1024
  rw [key, IntKind.wrap_i64]
  omega
def opA : Array Value := #[.string ⟨#[59, 59]⟩, .string ⟨#[38, 38]⟩, .string ⟨#[124, 124]⟩, .string ⟨#[62, 62]⟩, .string ⟨#[59]⟩, .string ⟨#[124]⟩, .string ⟨#[40]⟩, .string ⟨#[41]⟩, .string ⟨#[60]⟩, .string ⟨#[62]⟩, .string ⟨#[10]⟩]
theorem opA_at (i : Nat) (h : i < 11) : ∃ O : ByteArray, opA[i]? = some (.string O) ∧ O.data.toList ∈ opsL := by
  have hc : i = 0 ∨ i = 1 ∨ i = 2 ∨ i = 3 ∨ i = 4 ∨ i = 5 ∨ i = 6 ∨ i = 7 ∨ i = 8 ∨ i = 9 ∨ i = 10 := by omega
  rcases hc with rfl | rfl | rfl | rfl | rfl | rfl | rfl | rfl | rfl | rfl | rfl
  · exact ⟨⟨#[59, 59]⟩, rfl, by decide⟩
  · exact ⟨⟨#[38, 38]⟩, rfl, by decide⟩
  · exact ⟨⟨#[124, 124]⟩, rfl, by decide⟩
  · exact ⟨⟨#[62, 62]⟩, rfl, by decide⟩
  · exact ⟨⟨#[59]⟩, rfl, by decide⟩
  · exact ⟨⟨#[124]⟩, rfl, by decide⟩
  · exact ⟨⟨#[40]⟩, rfl, by decide⟩
  · exact ⟨⟨#[41]⟩, rfl, by decide⟩
  · exact ⟨⟨#[60]⟩, rfl, by decide⟩
  · exact ⟨⟨#[62]⟩, rfl, by decide⟩
  · exact ⟨⟨#[10]⟩, rfl, by decide⟩
/-- What has been made of the numbers so far. -/
structure OP (w wx : World) (lb : Nat) (Lk : List Bz) (v : Value) (TT : List Tk) : Prop where
  below : Below w.heap.size w wx
  le : w.heap.size ≤ lb
  ops : wx.heap[lb]? = some (.cells opA 9 (0, 0))
  row : TRow wx (lb + 1) v (opsW Lk) TT
  mem : ∀ o ∈ Lk, o ∈ opsL
theorem opsW_len (L : List Bz) : (opsW L).length ≤ 2 * L.length := by
  have h : ∀ L, (opsT L).length = 2 * L.length := fun L => by
    induction L with
    | nil => rfl
    | cons o L ih => simp [opsT, ih]; omega
  cases L with
  | nil => exact Nat.zero_le _
  | cons o L => simp [opsW, h]; omega
theorem OP.push {w wx : World} {lb : Nat} {Lk : List Bz} {v : Value} {TT : List Tk} (h : OP w wx lb Lk v TT) (h0 : Lk = []) {O : ByteArray} (hO : O.data.toList ∈ opsL) :
    ∃ (a : Option Addr) (c n : Nat) (TT' : List Tk) (w' : World), (Builtin.append_ #[23, 23] 23 #[v, .slice (some ⟨wx.heap.size, 0, none⟩) 1 1]).run Try.prog (wx.alloc (.cells #[.int .i64 2, .string O, .slice none 0 0] 34)) = .ok (.slice a n c) w' ∧ OP w w' lb (Lk ++ [O.data.toList]) (.slice a n c) TT' := by
  have hlt := (Array.getElem?_eq_some_iff.1 h.ops).1
  subst h0
  obtain ⟨a, c, w', r, hrow, hb, _⟩ := h.row.push (by omega) (by have := h.row.len; rw [show (opsW []).length = 0 from rfl] at this; omega) ⟨2, O, .slice none 0 0⟩ (.op O.data.toList) ⟨rfl, rfl⟩ (.nil 0)
  exact ⟨a, c, _, _, w', r, ⟨h.below.trans (hb.mono (by have := h.le; omega)), h.le, (hb.block lb (by omega)).trans h.ops, hrow, by simpa using hO⟩⟩
theorem OP.push2 {w wx : World} {lb : Nat} {Lk : List Bz} {v : Value} {TT : List Tk} (h : OP w wx lb Lk v TT) (h0 : Lk ≠ []) (hl : Lk.length ≤ 30) :
    ∃ (a1 : Option Addr) (c1 n1 : Nat) (w1 : World),
      (Builtin.append_ #[23, 23] 23 #[v, .slice (some ⟨wx.heap.size + 1, 0, none⟩) 1 1]).run Try.prog ((wx.alloc (.cells #[.int .i64 1, .string ⟨#[97]⟩, .string ⟨#[]⟩, .string ⟨#[]⟩, .slice none 0 0, .bool false] 39)).alloc (.cells #[.int .i64 1, .string ⟨#[]⟩, .slice (some ⟨wx.heap.size, 0, none⟩) 1 1] 34)) = .ok (.slice a1 n1 c1) w1 ∧
      Below w.heap.size w w1 ∧ w1.heap[lb]? = some (.cells opA 9 (0, 0)) ∧
      ∀ O : ByteArray, O.data.toList ∈ opsL → ∃ (a : Option Addr) (c n : Nat) (TT' : List Tk) (w' : World), (Builtin.append_ #[23, 23] 23 #[.slice a1 n1 c1, .slice (some ⟨w1.heap.size, 0, none⟩) 1 1]).run Try.prog (w1.alloc (.cells #[.int .i64 2, .string O, .slice none 0 0] 34)) = .ok (.slice a n c) w' ∧ OP w w' lb (Lk ++ [O.data.toList]) (.slice a n c) TT' := by
  have hlt := (Array.getElem?_eq_some_iff.1 h.ops).1
  have hle := h.le
  have hwl := opsW_len Lk
  have hbe := (Below.refl wx.heap.size wx).alloc (Nat.le_refl _) (.cells #[.int .i64 1, .string ⟨#[97]⟩, .string ⟨#[]⟩, .string ⟨#[]⟩, .slice none 0 0, .bool false] 39)
  have hsz := size_alloc wx (.cells #[.int .i64 1, .string ⟨#[97]⟩, .string ⟨#[]⟩, .string ⟨#[]⟩, .slice none 0 0, .bool false] 39)
  have hone : Wd (wx.alloc (.cells #[.int .i64 1, .string ⟨#[97]⟩, .string ⟨#[]⟩, .string ⟨#[]⟩, .slice none 0 0, .bool false] 39)) (fun k => lb + 1 ≤ k) (.slice (some ⟨wx.heap.size, 0, none⟩) 1 1) [txt 1 [97]] :=
    Wd.one (pt := ⟨1, ⟨#[97]⟩, ⟨#[]⟩, ⟨#[]⟩, .slice none 0 0, false⟩) (by omega) (heap_alloc_new wx _) ⟨rfl, rfl, rfl, rfl, rfl⟩ (.nil 0)
  obtain ⟨a1, c1, w1, r1, hrow1, hb1, _⟩ := (h.row.under hbe).push (by omega) (by have := h.row.len; omega) ⟨1, ⟨#[]⟩, .slice (some ⟨wx.heap.size, 0, none⟩) 1 1⟩ (.word [txt 1 [97]]) ⟨rfl, rfl⟩ hone
  rw [hsz] at r1
  have hB1 : Below (lb + 1) wx w1 := (hbe.mono (by omega)).trans hb1
  refine ⟨a1, c1, _, w1, r1, h.below.trans (hB1.mono (by omega)), (hB1.block lb (by omega)).trans h.ops, fun O hO => ?_⟩
  have hs1 := hB1.size
  obtain ⟨a, c, w', r, hrow, hb, _⟩ := hrow1.push (by omega) (by have := hrow1.len; simp at this; simp; omega) ⟨2, O, .slice none 0 0⟩ (.op O.data.toList) ⟨rfl, rfl⟩ (.nil 0)
  refine ⟨a, c, _, (TT ++ [⟨1, ⟨#[]⟩, .slice (some ⟨wx.heap.size, 0, none⟩) 1 1⟩]) ++ [⟨2, O, .slice none 0 0⟩], w', r, ⟨(h.below.trans (hB1.mono (by omega))).trans (hb.mono (by omega)), h.le, (hb.block lb (by omega)).trans ((hB1.block lb (by omega)).trans h.ops), ?_, fun o ho => ?_⟩⟩
  · rw [opsW_app _ _ h0]
    rw [List.append_assoc] at hrow
    exact hrow
  · rcases List.mem_append.1 ho with ho | ho
    · exact h.mem o ho
    · simp at ho; rw [ho]; exact hO
theorem OP.len {w wx : World} {lb : Nat} {Lk : List Bz} {a : Option Addr} {n c : Nat} {TT : List Tk} (h : OP w wx lb Lk (.slice a n c) TT) : n = (opsW Lk).length := by
  obtain ⟨a', c', e, _⟩ := h.row.tl
  injection e
theorem opsA_size {T : ByteArray} {bl : Bool} {Lk : List Bz} (h : T.data.toList = opsA bl Lk) (hm : ∀ o ∈ Lk, o ∈ opsL) (hl : Lk.length ≤ 30) : T.size ≤ 150 := by
  have h1 := congrArg List.length h
  have h2 := opsA_len bl Lk hm
  rw [dl] at h1
  omega
theorem ops_wsz (L : List Bz) : ∀ i (h : i < (opsW L).length), wsz (tokW (opsW L)[i]) ≤ 100000 := by
  have key : ∀ L, ∀ x ∈ opsT L, wsz (tokW x) ≤ 100000 := fun L => by
    induction L with
    | nil => intro x hx; cases hx
    | cons o L ih =>
      intro x hx
      simp [opsT] at hx
      rcases hx with rfl | rfl | hx
      · show wsz [txt 1 [97]] ≤ _; rw [wsz_txt]; decide
      · show wsz [] ≤ _; simp [wsz]
      · exact ih x hx
  have key2 : ∀ x ∈ opsW L, wsz (tokW x) ≤ 100000 := by
    cases L with
    | nil => intro x hx; cases hx
    | cons o L =>
      intro x hx
      simp [opsW] at hx
      rcases hx with rfl | hx
      · show wsz [] ≤ _; simp [wsz]
      · exact key L x hx
  exact fun i h => key2 _ (List.getElem_mem h)
set_option maxRecDepth 100000 in
set_option maxHeartbeats 8000000 in
theorem ops_t (A : Option Addr) (n c : Nat) (zs : Nat → Int) (w : World) (hn : n ≤ maxLen) (hI : Ints w A n zs) : Calls Try.prog 8 #[.slice A n c, .bool true] w (SayPq w) := by
  obtain ⟨Q, hQ⟩ : ∃ Q, SayPq w = Q := ⟨_, rfl⟩
  rw [hQ]
  have HQ := Lib.hid hQ
  have HA := Lib.hid (alive_any w)
  have HI := Lib.hid hI
  clear hQ hI
  have HEND : Hid (∀ w1 A ta, Below w.heap.size w w1 → Below w.heap.size w (w1.alloc (.cells A ta))) := fun w1 A ta h => h.trans (((Below.refl w1.heap.size w1).alloc (Nat.le_refl _) _).mono h.size)
  by_cases h30 : 30 < n
  · have h30I : (30 : Int) < (n : Int) := by omega
    have h30d : decide ((30 : Int) < (n : Int)) = true := decide_eq_true h30I
    go_enter Try.func8, Try.ntmps8
    go_wp2_with (go_at_call 12; refine HA.out.mono ?_; rintro e w1 ⟨rfl, h1⟩; have H1 := Lib.hid h1; clear h1; simp only [])
    rw [← HQ.out]; exact ⟨rfl, HEND.out _ _ _ H1.out⟩
  have h30I : ¬ (30 : Int) < (n : Int) := by omega
  have h30d : decide ((30 : Int) < (n : Int)) = false := decide_eq_false h30I
  have hn30 : n ≤ 30 := by omega
  go_enter Try.func8, Try.ntmps8
  go_wp2_with (go_at_call 12; refine HA.out.mono ?_; rintro e w1 ⟨rfl, h1⟩; have H1 := Lib.hid h1; clear h1; simp only [])
  go_loopw [7, 8, 9] (fun sv wv iv wx => ∃ k T va vn vc, k ≤ n ∧ sv = .string T ∧ wv = .slice va vn vc ∧ iv = .int .i64 ((k : Nat) : Int) ∧ Hid (∃ Lk TT, OP w wx w1.heap.size Lk (.slice va vn vc) TT ∧ Lk.length = k ∧ T.data.toList = opsA true Lk)) (fun sv wv iv _ => n - (intOf iv).toNat)
  case atStart => exact ⟨0, ⟨#[]⟩, none, 0, 0, Nat.zero_le _, rfl, rfl, rfl, [], [], ⟨HEND.out _ _ _ H1.out, H1.out.size, heap_alloc_new w1 _, TRow.nil _ _, fun o ho => by cases ho⟩, rfl, rfl⟩
  case round =>
    obtain ⟨k, T, va, vn, vc, hk, rfl, rfl, rfl, HOP⟩ := hrel
    obtain ⟨Lk, TT, hop, hlk, hT⟩ := HOP.out
    have HO := Lib.hid hop
    have HT := Lib.hid hT
    have hTs := opsA_size hT hop.mem (by omega)
    have HLK := Lib.hid hlk
    clear hop hT
    by_cases hlt : k < n
    · have hltI : (k : Int) < (n : Int) := by omega
      have hltd : decide ((k : Int) < (n : Int)) = true := decide_eq_true hltI
      have hk0 : (0 : Int) ≤ (k : Int) := by omega
      obtain ⟨ad, rfl, hcell⟩ := HI.out (by omega)
      have hck : wr.cell? (ad.add k) = some (.int .i64 (zs k)) := by
        have := hcell k hlt
        have hb := World.block_lt_of_cell? _ _ this
        unfold World.cell? at this ⊢
        rw [HO.out.below.block _ hb]; exact this
      obtain ⟨z, hz⟩ : ∃ z, zs k = z := ⟨_, rfl⟩
      rw [hz] at hck
      obtain ⟨j, hj, hj4⟩ : ∃ j : Nat, z % 1024 = j ∧ j < 1024 := ⟨(z % 1024).toNat, by omega, by omega⟩
      have hand : bits .and .i64 z 1023 = (j : Int) := by rw [i64_and1023, hj]
      have hr11 : j % 11 < 11 := by omega
      have hr0 : (0 : Int) ≤ (j : Int) % 11 := by omega
      have hrI : (j : Int) % 11 < 11 := by omega
      obtain ⟨O, hO, hOm⟩ := opA_at (j % 11) hr11
      have q0 : wr.cell? ⟨w1.heap.size, j % 11, none⟩ = some (.string O) := (Lib.cell_of_heap HO.out.ops _).trans hO
      have HOM := Lib.hid hOm
      have hol : ∀ o ∈ opsL, o.length ≤ 2 := by decide
      have hOs : O.size ≤ 2 := by rw [← dl]; exact hol _ hOm
      have ad2 := addn w1.heap.size 0 (j % 11)
      rw [Nat.zero_add] at ad2
      have HOA := Lib.hid hO
      clear hz hj hOm hol hcell hO
      by_cases hk1 : k = 0
      · subst hk1
        rw [show ad.add 0 = ad from rfl] at hck
        have hL0 : Lk = [] := List.length_eq_zero_iff.1 HLK.out
        obtain ⟨a2, c2, n2, TT2, w2, r2, hop2⟩ := HO.out.push hL0 HOM.out
        have HO2 := Lib.hid hop2
        have HL0 := Lib.hid hL0
        clear hop2 hL0 hlk
        go_wp2_with (at_builtin; refine wpList_run_append _ rfl _ _ 23 23 rfl _ _ rfl rfl r2 ?_)
        go_roundw
        case measure => simp [intOf]; omega
        case rel =>
          refine ⟨1, _, a2, n2, c2, by omega, rfl, rfl, by go_num, _, _, HO2.out, by rw [HL0.out]; rfl, ?_⟩
          rw [HL0.out]
          have hT0 := HT.out
          rw [HL0.out] at hT0
          simp [hT0, opsA, opsS, opB]
      · have hkp : (0 : Int) < (k : Int) := by omega
        have hkd : decide ((0 : Int) < (k : Int)) = true := decide_eq_true hkp
        have hL0 : Lk ≠ [] := fun e => hk1 (by rw [← hlk, e]; rfl)
        obtain ⟨a2, c2, n2, w2, r2, hb2, hops2, hnext⟩ := HO.out.push2 hL0 (by omega)
        obtain ⟨a3, c3, n3, TT3, w3, r3, hop3⟩ := hnext O HOM.out
        have q02 : w2.cell? ⟨w1.heap.size, j % 11, none⟩ = some (.string O) := (Lib.cell_of_heap hops2 _).trans HOA.out
        have hck2 : w2.cell? (ad.add k) = some (.int .i64 z) := by
          have hb : (ad.add k).block < w.heap.size := by
            obtain ⟨ad', e, hcell⟩ := HI.out (by omega)
            cases e
            exact World.block_lt_of_cell? _ _ (hcell k hlt)
          have e1 := HO.out.below.block _ hb
          have e2 := hb2.block _ hb
          unfold World.cell? at hck ⊢
          rw [e2, ← e1]; exact hck
        have HO3 := Lib.hid hop3
        have HL0 := Lib.hid hL0
        clear hop3 hL0 hb2 hops2 hnext hlk
        go_wp2_with (at_builtin; first
          | refine wpList_run_append _ rfl _ _ 23 23 rfl _ _ rfl rfl r2 ?_
          | refine wpList_run_append _ rfl _ _ 23 23 rfl _ _ rfl rfl r3 ?_)
        go_roundw
        case measure => simp [intOf]; omega
        case rel =>
          refine ⟨k + 1, _, a3, n3, c3, by omega, rfl, rfl, by go_num, _, _, HO3.out, by rw [List.length_append, HLK.out]; rfl, ?_⟩
          rw [opsA_app _ _ _ HL0.out]
          simp [HT.out, opB]
    · obtain rfl : n = k := by omega
      have hltd : decide ((n : Int) < (n : Int)) = false := decide_eq_false (by omega)
      have hvn := HO.out.len
      have HTK : Hid (∀ w', Calls Try.prog 13 #[.string T] w' fun e w'' => ∃ ta tn tc, e = .returned (.tuple #[.slice ta tn tc, .int .i64 0]) ∧ Tl w'' (.slice ta tn tc) (opsW Lk) ∧ Below w'.heap.size w' w'') := fun w' => by
        refine (Tokens_ok T w' (by omega) (by rw [HT.out]; exact ops_all true Lk HO.out.mem (by omega))).mono ?_
        rintro e w'' ⟨a, c, rfl, h1, h2⟩
        exact ⟨a, _, c, rfl, h1, h2⟩
      have HWT := Lib.hid HO.out.row.tl
      have hwl := opsW_len Lk
      have HWL : Hid ((opsW Lk).length ≤ 100000) := by rw [Hid]; omega
      clear hvn hlk hlt hwl
      go_wp2_with (first
        | (go_at_call 15; refine (num_any _ _).mono ?_; rintro e w9 ⟨rfl, h9⟩; obtain rfl := h9.symm; simp only [])
        | (go_at_call 13
           refine (HTK.out _).mono ?_
           rintro e w5 ⟨ta, tn, tc, rfl, ht, h2⟩
           have HS := Lib.hid (SameTokens_any _ _ (opsW Lk) w5 HWL.out (ops_wsz Lk) ht (HWT.out.under h2))
           have H5 := Lib.hid h2
           clear ht h2
           simp only [])
        | (go_at_call 16
           refine HS.out.mono ?_
           rintro e w6 ⟨rfl, h2⟩
           have H6 := Lib.hid h2
           clear h2
           simp only []))
      rw [← HQ.out]
      exact ⟨rfl, HO.out.below.trans ((H5.out.trans (H6.out.mono H5.out.size)).mono HO.out.below.size)⟩
set_option maxRecDepth 100000 in
set_option maxHeartbeats 8000000 in
theorem ops_f (A : Option Addr) (n c : Nat) (zs : Nat → Int) (w : World) (hn : n ≤ maxLen) (hI : Ints w A n zs) : Calls Try.prog 8 #[.slice A n c, .bool false] w (SayPq w) := by
  obtain ⟨Q, hQ⟩ : ∃ Q, SayPq w = Q := ⟨_, rfl⟩
  rw [hQ]
  have HQ := Lib.hid hQ
  have HA := Lib.hid (alive_any w)
  have HI := Lib.hid hI
  clear hQ hI
  have HEND : Hid (∀ w1 A ta, Below w.heap.size w w1 → Below w.heap.size w (w1.alloc (.cells A ta))) := fun w1 A ta h => h.trans (((Below.refl w1.heap.size w1).alloc (Nat.le_refl _) _).mono h.size)
  by_cases h30 : 30 < n
  · have h30I : (30 : Int) < (n : Int) := by omega
    have h30d : decide ((30 : Int) < (n : Int)) = true := decide_eq_true h30I
    go_enter Try.func8, Try.ntmps8
    go_wp2_with (go_at_call 12; refine HA.out.mono ?_; rintro e w1 ⟨rfl, h1⟩; have H1 := Lib.hid h1; clear h1; simp only [])
    rw [← HQ.out]; exact ⟨rfl, HEND.out _ _ _ H1.out⟩
  have h30I : ¬ (30 : Int) < (n : Int) := by omega
  have h30d : decide ((30 : Int) < (n : Int)) = false := decide_eq_false h30I
  have hn30 : n ≤ 30 := by omega
  go_enter Try.func8, Try.ntmps8
  go_wp2_with (go_at_call 12; refine HA.out.mono ?_; rintro e w1 ⟨rfl, h1⟩; have H1 := Lib.hid h1; clear h1; simp only [])
  go_loopw [7, 8, 9] (fun sv wv iv wx => ∃ k T va vn vc, k ≤ n ∧ sv = .string T ∧ wv = .slice va vn vc ∧ iv = .int .i64 ((k : Nat) : Int) ∧ Hid (∃ Lk TT, OP w wx w1.heap.size Lk (.slice va vn vc) TT ∧ Lk.length = k ∧ T.data.toList = opsA false Lk)) (fun sv wv iv _ => n - (intOf iv).toNat)
  case atStart => exact ⟨0, ⟨#[]⟩, none, 0, 0, Nat.zero_le _, rfl, rfl, rfl, [], [], ⟨HEND.out _ _ _ H1.out, H1.out.size, heap_alloc_new w1 _, TRow.nil _ _, fun o ho => by cases ho⟩, rfl, rfl⟩
  case round =>
    obtain ⟨k, T, va, vn, vc, hk, rfl, rfl, rfl, HOP⟩ := hrel
    obtain ⟨Lk, TT, hop, hlk, hT⟩ := HOP.out
    have HO := Lib.hid hop
    have HT := Lib.hid hT
    have hTs := opsA_size hT hop.mem (by omega)
    have HLK := Lib.hid hlk
    clear hop hT
    by_cases hlt : k < n
    · have hltI : (k : Int) < (n : Int) := by omega
      have hltd : decide ((k : Int) < (n : Int)) = true := decide_eq_true hltI
      have hk0 : (0 : Int) ≤ (k : Int) := by omega
      obtain ⟨ad, rfl, hcell⟩ := HI.out (by omega)
      have hck : wr.cell? (ad.add k) = some (.int .i64 (zs k)) := by
        have := hcell k hlt
        have hb := World.block_lt_of_cell? _ _ this
        unfold World.cell? at this ⊢
        rw [HO.out.below.block _ hb]; exact this
      obtain ⟨z, hz⟩ : ∃ z, zs k = z := ⟨_, rfl⟩
      rw [hz] at hck
      obtain ⟨j, hj, hj4⟩ : ∃ j : Nat, z % 1024 = j ∧ j < 1024 := ⟨(z % 1024).toNat, by omega, by omega⟩
      have hand : bits .and .i64 z 1023 = (j : Int) := by rw [i64_and1023, hj]
      have hr11 : j % 11 < 11 := by omega
      have hr0 : (0 : Int) ≤ (j : Int) % 11 := by omega
      have hrI : (j : Int) % 11 < 11 := by omega
      obtain ⟨O, hO, hOm⟩ := opA_at (j % 11) hr11
      have q0 : wr.cell? ⟨w1.heap.size, j % 11, none⟩ = some (.string O) := (Lib.cell_of_heap HO.out.ops _).trans hO
      have HOM := Lib.hid hOm
      have hol : ∀ o ∈ opsL, o.length ≤ 2 := by decide
      have hOs : O.size ≤ 2 := by rw [← dl]; exact hol _ hOm
      have ad2 := addn w1.heap.size 0 (j % 11)
      rw [Nat.zero_add] at ad2
      have HOA := Lib.hid hO
      clear hz hj hOm hol hcell hO
      by_cases hk1 : k = 0
      · subst hk1
        rw [show ad.add 0 = ad from rfl] at hck
        have hL0 : Lk = [] := List.length_eq_zero_iff.1 HLK.out
        obtain ⟨a2, c2, n2, TT2, w2, r2, hop2⟩ := HO.out.push hL0 HOM.out
        have HO2 := Lib.hid hop2
        have HL0 := Lib.hid hL0
        clear hop2 hL0 hlk
        go_wp2_with (at_builtin; refine wpList_run_append _ rfl _ _ 23 23 rfl _ _ rfl rfl r2 ?_)
        go_roundw
        case measure => simp [intOf]; omega
        case rel =>
          refine ⟨1, _, a2, n2, c2, by omega, rfl, rfl, by go_num, _, _, HO2.out, by rw [HL0.out]; rfl, ?_⟩
          rw [HL0.out]
          have hT0 := HT.out
          rw [HL0.out] at hT0
          simp [hT0, opsA, opsS, opB]
      · have hkp : (0 : Int) < (k : Int) := by omega
        have hkd : decide ((0 : Int) < (k : Int)) = true := decide_eq_true hkp
        have hL0 : Lk ≠ [] := fun e => hk1 (by rw [← hlk, e]; rfl)
        obtain ⟨a2, c2, n2, w2, r2, hb2, hops2, hnext⟩ := HO.out.push2 hL0 (by omega)
        obtain ⟨a3, c3, n3, TT3, w3, r3, hop3⟩ := hnext O HOM.out
        have q02 : w2.cell? ⟨w1.heap.size, j % 11, none⟩ = some (.string O) := (Lib.cell_of_heap hops2 _).trans HOA.out
        have hck2 : w2.cell? (ad.add k) = some (.int .i64 z) := by
          have hb : (ad.add k).block < w.heap.size := by
            obtain ⟨ad', e, hcell⟩ := HI.out (by omega)
            cases e
            exact World.block_lt_of_cell? _ _ (hcell k hlt)
          have e1 := HO.out.below.block _ hb
          have e2 := hb2.block _ hb
          unfold World.cell? at hck ⊢
          rw [e2, ← e1]; exact hck
        have HO3 := Lib.hid hop3
        have HL0 := Lib.hid hL0
        clear hop3 hL0 hb2 hops2 hnext hlk
        go_wp2_with (at_builtin; first
          | refine wpList_run_append _ rfl _ _ 23 23 rfl _ _ rfl rfl r2 ?_
          | refine wpList_run_append _ rfl _ _ 23 23 rfl _ _ rfl rfl r3 ?_)
        go_roundw
        case measure => simp [intOf]; omega
        case rel =>
          refine ⟨k + 1, _, a3, n3, c3, by omega, rfl, rfl, by go_num, _, _, HO3.out, by rw [List.length_append, HLK.out]; rfl, ?_⟩
          rw [opsA_app _ _ _ HL0.out]
          simp [HT.out, opB]
    · obtain rfl : n = k := by omega
      have hltd : decide ((n : Int) < (n : Int)) = false := decide_eq_false (by omega)
      have hvn := HO.out.len
      have HTK : Hid (∀ w', Calls Try.prog 13 #[.string T] w' fun e w'' => ∃ ta tn tc, e = .returned (.tuple #[.slice ta tn tc, .int .i64 0]) ∧ Tl w'' (.slice ta tn tc) (opsW Lk) ∧ Below w'.heap.size w' w'') := fun w' => by
        refine (Tokens_ok T w' (by omega) (by rw [HT.out]; exact ops_all false Lk HO.out.mem (by omega))).mono ?_
        rintro e w'' ⟨a, c, rfl, h1, h2⟩
        exact ⟨a, _, c, rfl, h1, h2⟩
      have HWT := Lib.hid HO.out.row.tl
      have hwl := opsW_len Lk
      have HWL : Hid ((opsW Lk).length ≤ 100000) := by rw [Hid]; omega
      clear hvn hlk hlt hwl
      go_wp2_with (first
        | (go_at_call 15; refine (num_any _ _).mono ?_; rintro e w9 ⟨rfl, h9⟩; obtain rfl := h9.symm; simp only [])
        | (go_at_call 13
           refine (HTK.out _).mono ?_
           rintro e w5 ⟨ta, tn, tc, rfl, ht, h2⟩
           have HS := Lib.hid (SameTokens_any _ _ (opsW Lk) w5 HWL.out (ops_wsz Lk) ht (HWT.out.under h2))
           have H5 := Lib.hid h2
           clear ht h2
           simp only [])
        | (go_at_call 16
           refine HS.out.mono ?_
           rintro e w6 ⟨rfl, h2⟩
           have H6 := Lib.hid h2
           clear h2
           simp only []))
      rw [← HQ.out]
      exact ⟨rfl, HO.out.below.trans ((H5.out.trans (H6.out.mono H5.out.size)).mono HO.out.below.size)⟩
theorem ops_walk (A : Option Addr) (n c : Nat) (zs : Nat → Int) (bl : Bool) (w : World) (hn : n ≤ maxLen) (hI : Ints w A n zs) : Calls Try.prog 8 #[.slice A n c, .bool bl] w (SayPq w) := by
  cases bl
  · exact ops_f A n c zs w hn hI
  · exact ops_t A n c zs w hn hI
end Go.Proofs.Ytafbheplaheohaa
