import Derived.Test.YtafbheplaheohaaEW
import Derived.Deep.CutRange
namespace Go.Proofs.Ytafbheplaheohaa
open Go.RowKit
set_option linter.unusedVariables false

theorem Below.up {B C : Nat} {w w' : World} (hb : Below B w w') (hk : ∀ k, k < C → w'.heap[k]? = w.heap[k]?) : Below C w w' := ⟨hb.os, hb.tape, hb.output, hb.size, hk⟩
theorem TRow.fresh2 {w : World} {B : Nat} (hB : B ≤ w.heap.size) (tk : Tk) (x : Tok) (hx : tk.is x) (hw : Wd w (fun k => B ≤ k) tk.wv (tokW x)) : TRow (w.alloc (.cells tk.cs.toArray 34)) B (.slice (some ⟨w.heap.size, 0, none⟩) 1 1) [x] [tk] := by
  refine ⟨⟨by rw [tcs_len], .inr ⟨w.heap.size, 1, tk.cs.toArray, rfl, hB, heap_alloc_new w _, Nat.le_refl _, by unfold maxLen; omega, rfl, ?_⟩⟩, rfl, fun i h1 h2 => ?_, fun i h1 h2 => ?_⟩
  · show tk.cs.take 3 = tcs [tk]
    rfl
  · have : i = 0 := by simp at h1; omega
    subst this; exact hx
  · have : i = 0 := by simp at h1; omega
    subst this
    exact hw.under ((Below.refl _ _).alloc (Nat.le_refl _) _)
def No10 (s : Bz) : Prop := ∀ x ∈ s, x ≠ 10 ∧ x ≠ 0
set_option maxRecDepth 100000 in
set_option maxHeartbeats 16000000 in
theorem comments_walk (a b : ByteArray) (w : World) (ha0 : a.size ≤ maxLen) (hb0 : b.size ≤ maxLen) : Calls Try.prog 9 #[.string a, .string b] w (SayT w) := by
  obtain ⟨Q, hQ⟩ : ∃ Q, SayT w = Q := ⟨_, rfl⟩
  rw [hQ]
  have HQ := Lib.hid hQ
  have HA := Lib.hid (alive_any w)
  unfold maxLen at ha0 hb0
  clear hQ
  by_cases h1 : 200 < a.size
  · as_aux_lemma =>
      have h1I : (200 : Int) < (a.size : Int) := by omega
      have h1d : decide ((200 : Int) < (a.size : Int)) = true := decide_eq_true h1I
      go_enter Try.func9, Try.ntmps9
      go_wp2_with (first
        | (go_at_call 12; refine HA.out.mono ?_; rintro e w1 ⟨rfl, h1⟩; have H1 := Lib.hid h1; clear h1; simp only []))
      rw [← HQ.out]; exact ⟨rfl, H1.out⟩
  have h1I : ¬ (200 : Int) < (a.size : Int) := by omega
  have h1d : decide ((200 : Int) < (a.size : Int)) = false := decide_eq_false h1I
  by_cases h2 : 200 < b.size
  · as_aux_lemma =>
      have h2I : (200 : Int) < (b.size : Int) := by omega
      have h2d : decide ((200 : Int) < (b.size : Int)) = true := decide_eq_true h2I
      go_enter Try.func9, Try.ntmps9
      go_wp2_with (first
        | (go_at_call 12; refine HA.out.mono ?_; rintro e w1 ⟨rfl, h1⟩; have H1 := Lib.hid h1; clear h1; simp only []))
      rw [← HQ.out]; exact ⟨rfl, H1.out⟩
  have h2I : ¬ (200 : Int) < (b.size : Int) := by omega
  have h2d : decide ((200 : Int) < (b.size : Int)) = false := decide_eq_false h2I
  go_enter Try.func9, Try.ntmps9
  go_wp2_with (first
    | (go_at_call 12; refine HA.out.mono ?_; rintro e w1 ⟨rfl, h1⟩; have H1 := Lib.hid h1; clear h1; simp only []))
  go_loopw [6] (fun i wx => ∃ k : Nat, k ≤ a.size ∧ i = .int .i64 k ∧ wx = w1 ∧ Hid (No10 (a.data.toList.take k))) (fun i _ => a.size - (intOf i).toNat)
  case atStart => exact ⟨0, Nat.zero_le _, rfl, rfl, fun x hx => by simp at hx⟩
  case round =>
    obtain ⟨k, hk, rfl, hwr, HN⟩ := hrel
    subst hwr
    by_cases hlt : k < a.size
    · have hltI : (k : Int) < (a.size : Int) := by omega
      have hltd : decide ((k : Int) < (a.size : Int)) = true := decide_eq_true hltI
      have hk0 : (0 : Int) ≤ (k : Int) := by omega
      have hat := data_get a k hlt
      obtain ⟨d, hd⟩ : ∃ d, a[k]'hlt = d := ⟨_, rfl⟩
      rw [hd] at hat
      have HAT := Lib.hid hat
      clear hat
      by_cases e10 : d = 10
      · as_aux_lemma =>
          have n10 : (d.toNat : Int) = 10 := by rw [e10]; rfl
          have z10 : ((d.toNat : Int) == 10) = true := by rw [n10]; rfl
          clear e10
          go_wp2_with fail
          rw [← HQ.out]; exact ⟨rfl, H1.out⟩
      have n10 : ¬ ((d.toNat : Int) = 10) := fun e => e10 (UInt8.toNat_inj.1 (by have : ((10 : UInt8).toNat : Int) = 10 := rfl; omega))
      have z10 : ((d.toNat : Int) == 10) = false := beq_eq_false_iff_ne.2 n10
      by_cases e0 : d = 0
      · as_aux_lemma =>
          have n0 : (d.toNat : Int) = 0 := by rw [e0]; rfl
          have z0 : ((d.toNat : Int) == 0) = true := by rw [n0]; rfl
          clear e0 e10
          go_wp2_with fail
          rw [← HQ.out]; exact ⟨rfl, H1.out⟩
      have n0 : ¬ ((d.toNat : Int) = 0) := fun e => e0 (UInt8.toNat_inj.1 (by have : ((0 : UInt8).toNat : Int) = 0 := rfl; omega))
      have z0 : ((d.toNat : Int) == 0) = false := beq_eq_false_iff_ne.2 n0
      as_aux_lemma =>
        have HNN : Hid (No10 (a.data.toList.take (k + 1))) := by
          rw [Hid, List.take_add_one, HAT.out]
          intro y hy
          rcases List.mem_append.1 hy with hy | hy
          · exact HN.out y hy
          · have : y = d := by simpa using hy
            rw [this]; exact ⟨e10, e0⟩
        clear e10 e0
        go_wp2_with fail
        go_roundw
        case measure => simp [intOf]; omega
        case rel => exact ⟨k + 1, by omega, by go_num, by trivial, HNN.out⟩
    · have hkk : k = a.size := by omega
      subst hkk
      have hltd : decide ((a.size : Int) < (a.size : Int)) = false := decide_eq_false (by omega)
      have HNO : Hid (No10 a.data.toList) := by
        have := HN.out
        rw [List.take_of_length_le (by rw [dl]; exact Nat.le_refl _)] at this; exact this
      have HR0 := Lib.hid (fun w' => RTokens_un b w' (by omega))
      cases hrb : tokensF b.data.toList with
      | error x =>
        as_aux_lemma =>
          rw [hrb] at HR0
          have HR : Hid (∀ w', Calls Try.prog 14 #[.string b] w' fun e w'' => ∃ va n c, e = .returned (.tuple #[.slice va n c, .int .i64 x]) ∧ x ≠ 0 ∧ Below w'.heap.size w' w'') := fun w' => (HR0.out w').mono (by
            rintro e w'' ⟨va, c, L, h1, h2, h3, h4, h5⟩
            exact ⟨va, _, c, h1, fun e => (by obtain ⟨l, h⟩ := h5.1 e; cases h), h3⟩)
          clear HR0 hrb hlt
          go_wp2_with (go_at_call 14; refine (HR.out _).mono ?_; rintro e w2 ⟨va, n, c, rfl, hx0, h3⟩; have H2 := Lib.hid h3; have hxn : ¬ ((x : Int) = 0) := (by omega); have hxz : ((x : Int) == 0) = false := beq_eq_false_iff_ne.2 hxn; clear h3; simp only [])
          rw [← HQ.out]; exact ⟨rfl, H1.out.trans (H2.out.mono H1.out.size)⟩
      | ok lb =>
        skip
        · skip
          have hal : a.data.toList.length ≤ 300 := by rw [dl]; omega
          have hbl : b.data.toList.length ≤ 300 := by rw [dl]; omega
          have HK1 : Hid (tokensF (35 :: (a.data.toList ++ 10 :: b.data.toList)) = .ok (.op [10] :: lb)) := comm_one hrb hal hbl HNO.out
          have HK2 : Hid (tokensF (120 :: 32 :: 35 :: a.data.toList) = .ok [.word [txt 1 [120]]]) := comm_two hal HNO.out
          rw [hrb] at HR0
          obtain ⟨Nb, hNb⟩ : ∃ N, lb.length = N := ⟨_, rfl⟩
          have HR : Hid (∀ w', Calls Try.prog 14 #[.string b] w' fun e w'' => ∃ va c L, e = .returned (.tuple #[.slice va Nb c, .int .i64 0]) ∧ TRow w'' w'.heap.size (.slice va Nb c) lb L ∧ Below w'.heap.size w' w'' ∧ Nb ≤ 20000) := fun w' => (HR0.out w').mono (by
            rintro e w'' ⟨va, c, L, h1, h2, h3, h4, h5⟩
            have e1 : (toksL (.ok lb)).length = Nb := hNb
            have e2 : toksX (.ok lb : Res (List Tok)) = 0 := rfl
            rw [e1, e2] at h1
            rw [e1] at h2 h4
            exact ⟨va, c, L, h1, h2, h3, h4⟩)
          have HT1 : Hid (∀ (S : ByteArray) w', S.data.toList = 35 :: (a.data.toList ++ 10 :: b.data.toList) → Calls Try.prog 13 #[.string S] w' fun e w'' => ∃ va c, e = .returned (.tuple #[.slice va (Nb + 1) c, .int .i64 0]) ∧ Tl w'' (.slice va (Nb + 1) c) (.op [10] :: lb) ∧ Below w'.heap.size w' w'') := fun S w' hS => by
            have hsz : S.size ≤ 700 := by have := congrArg List.length hS; rw [dl] at this; simp at this; omega
            rw [← hNb]
            exact Tokens_ok S w' (by omega) (by rw [hS]; exact HK1.out)
          have HT2 : Hid (∀ (S : ByteArray) w', S.data.toList = 120 :: 32 :: 35 :: a.data.toList → Calls Try.prog 13 #[.string S] w' fun e w'' => ∃ va c, e = .returned (.tuple #[.slice va 1 c, .int .i64 0]) ∧ Tl w'' (.slice va 1 c) [.word [txt 1 [120]]] ∧ Below w'.heap.size w' w'') := fun S w' hS => by
            have hsz : S.size ≤ 700 := by have := congrArg List.length hS; rw [dl] at this; simp at this; omega
            exact Tokens_ok S w' (by omega) (by rw [hS]; exact HK2.out)
          have HT3 : Hid (∀ w', Calls Try.prog 13 #[.string ⟨#[120, 35, 121]⟩] w' fun e w'' => ∃ va c, e = .returned (.tuple #[.slice va 1 c, .int .i64 0]) ∧ Tl w'' (.slice va 1 c) [.word [txt 1 [120, 35, 121]]] ∧ Below w'.heap.size w' w'') := fun w' => Tokens_ok ⟨#[120, 35, 121]⟩ w' (by decide) comm_three
          have HSM : Hid (∀ i (h : i < (Tok.op [10] :: lb).length), wsz (tokW (Tok.op [10] :: lb)[i]) ≤ 100000) := small_toks HK1.out (by simp; omega)
          have HNB := Lib.hid hNb
          clear HR0 hrb hlt hNb
          go_upto_region 15 with (first
            | (go_at_call 14; refine (HR.out _).mono ?_; rintro e w2 ⟨va2, c2, L2, rfl, h2, h3, h4⟩; have HY := Lib.hid h2; have H2 := Lib.hid h3; have HYN := Lib.hid h4; clear h2 h3 h4; simp only [])
            | (go_at_call 13; (with_reducible refine (HT3.out _).mono ?_); rintro e w5 ⟨va5, c5, rfl, h2, h3⟩; have HV := Lib.hid h2; have H5 := Lib.hid h3; clear h2 h3; simp only [])
            | (go_at_call 13
               refine (HT1.out _ _ ?_).mono ?_
               · simp
               rintro e w3 ⟨va3, c3, rfl, h2, h3⟩
               have HTT := Lib.hid h2
               have H3 := Lib.hid h3
               clear h2 h3
               simp only [])
            | (go_at_call 13
               refine (HT2.out _ _ ?_).mono ?_
               · simp
               rintro e w4 ⟨va4, c4, rfl, h2, h3⟩
               have HU := Lib.hid h2
               have H4 := Lib.hid h3
               clear h2 h3
               simp only []))
          have HB5 : Hid (Below w.heap.size w w5) := H1.out.trans ((H2.out.trans ((H3.out.trans ((H4.out.trans (H5.out.mono H4.out.size)).mono H3.out.size)).mono H2.out.size)).mono H1.out.size)
          go_cut [15] from 72 to 74 (fun v15 wx => v15 = .pointer (some ⟨w5.heap.size + 1, 0, none⟩) ∧ wx = (w5.alloc (.cells #[.int .i64 1, .string ⟨#[120]⟩, .string ⟨#[]⟩, .string ⟨#[]⟩, .slice none 0 0, .bool false] 39)).alloc (.cells #[.int .i64 1, .string ⟨#[]⟩, .slice (some ⟨w5.heap.size, 0, none⟩) 1 1] 34))
          case first =>
            skip
            · skip
              go_wp2_with fail
              go_meet
              exact ⟨rfl, rfl⟩
          case rest =>
          obtain ⟨rfl, rfl⟩ := hcut
          obtain ⟨g1, hg1⟩ : ∃ g, w5.heap.size = g := ⟨_, rfl⟩
          obtain ⟨W6, hW6⟩ : ∃ W6, (w5.alloc (.cells #[.int .i64 1, .string ⟨#[120]⟩, .string ⟨#[]⟩, .string ⟨#[]⟩, .slice none 0 0, .bool false] 39)).alloc (.cells #[.int .i64 1, .string ⟨#[]⟩, .slice (some ⟨w5.heap.size, 0, none⟩) 1 1] 34) = W6 := ⟨_, rfl⟩
          rw [hW6]
          have hs1 : (w5.alloc (.cells #[.int .i64 1, .string ⟨#[120]⟩, .string ⟨#[]⟩, .string ⟨#[]⟩, .slice none 0 0, .bool false] 39)).heap.size = w5.heap.size + 1 := by simp
          have hs6 : W6.heap.size = g1 + 2 := by rw [← hW6, ← hg1]; simp
          have b1 : Below w5.heap.size w5 (w5.alloc (.cells #[.int .i64 1, .string ⟨#[120]⟩, .string ⟨#[]⟩, .string ⟨#[]⟩, .slice none 0 0, .bool false] 39)) := (Below.refl _ _).alloc (Nat.le_refl _) _
          have b2 : Below (w5.heap.size + 1) (w5.alloc (.cells #[.int .i64 1, .string ⟨#[120]⟩, .string ⟨#[]⟩, .string ⟨#[]⟩, .slice none 0 0, .bool false] 39)) W6 := by
            rw [← hW6, ← hs1]
            exact (Below.refl _ _).alloc (Nat.le_refl _) _
          have hb6 : Below w5.heap.size w5 W6 := b1.trans (b2.mono (by omega))
          have hn1 : W6.heap[g1]? = some (.cells #[.int .i64 1, .string ⟨#[120]⟩, .string ⟨#[]⟩, .string ⟨#[]⟩, .slice none 0 0, .bool false] 39 (0, 0)) := by
            rw [← hg1]
            exact (b2.block _ (by omega)).trans (heap_alloc_new w5 _)
          have hn2 : W6.heap[g1 + 1]? = some (.cells [.int .i64 1, .string ⟨#[]⟩, .slice (some ⟨g1, 0, none⟩) 1 1].toArray 34 (0, 0)) := by
            rw [← hW6, ← hg1, ← hs1]
            exact heap_alloc_new _ _
          have hwd : Wd W6 (fun k => w.heap.size ≤ k) (.slice (some ⟨g1, 0, none⟩) 1 1) [txt 1 [120]] := Wd.one (pt := ⟨1, ⟨#[120]⟩, ⟨#[]⟩, ⟨#[]⟩, .slice none 0 0, false⟩) (by rw [← hg1]; exact HB5.out.size) hn1 ⟨rfl, rfl, rfl, rfl, rfl⟩ (.nil 0)
          simp only [hg1, hs1]
          have HB6 : Hid (Below w.heap.size w W6) := HB5.out.trans (hb6.mono HB5.out.size)
          have hT6 : Tl W6 (.slice va3 (Nb + 1) c3) (.op [10] :: lb) := ((HTT.out.under H4.out).under H5.out).under hb6
          have hU6 : Tl W6 (.slice va4 1 c4) [.word [txt 1 [120]]] := (HU.out.under H5.out).under hb6
          have hV6 : Tl W6 (.slice va5 1 c5) [.word [txt 1 [120, 35, 121]]] := HV.out.under hb6
          have hY6 : TRow W6 w.heap.size (.slice va2 Nb c2) lb L2 := ((((HY.out.under H3.out).under H4.out).under H5.out).under hb6).mono H1.out.size
          -- the line end, and b's tokens behind it
          have hfr := TRow.fresh2 (w := W6) HB6.out.size ⟨2, ⟨#[10]⟩, .slice none 0 0⟩ (.op [10]) ⟨rfl, rfl⟩ (.nil 0)
          have hbel : Below W6.heap.size W6 (W6.alloc (.cells (Tk.cs ⟨2, ⟨#[10]⟩, .slice none 0 0⟩).toArray 34)) := (Below.refl _ _).alloc (Nat.le_refl _) _
          have hL2 : L2.length = Nb := HY.out.len.trans HNB.out
          have hNb2 := HYN.out
          obtain ⟨a7, c7, w7, r7, hx7, hb7, hk7⟩ := TRow.cat (n := Nb + 1) (by rw [hL2]; simp; omega) hfr (hY6.under hbel) (Nat.le_trans HB6.out.size hbel.size) (by simp) (by rw [hL2]; omega)
          have hb67 : Below W6.heap.size W6 w7 := hbel.trans (Below.up hb7 (fun k hk => hk7 k (by simp; omega) (by intro e; injection e with e; have e : W6.heap.size = k := e; omega)))
          have HX7 : Hid (Tl w7 (.slice a7 (Nb + 1) c7) (.op [10] :: lb)) := hx7.tl
          have HT7 := Lib.hid (hT6.under hb67)
          have HB7 := Lib.hid hb67
          have HU6 := Lib.hid hU6
          -- the word alone
          have HS2 : Hid (∀ w8, Below W6.heap.size W6 w8 → Calls Try.prog 16 #[.slice va4 1 c4, .slice (some ⟨w8.heap.size, 0, none⟩) 1 1] (w8.alloc (.cells #[.int .i64 1, .string ⟨#[]⟩, .slice (some ⟨g1, 0, none⟩) 1 1] 34)) fun e w'' => e = .returned (.bool true) ∧ Below w8.heap.size w8 w'') := fun w8 h8 => by
            have hf8 := TRow.fresh2 (w := w8) (Nat.le_trans HB6.out.size h8.size) ⟨1, ⟨#[]⟩, .slice (some ⟨g1, 0, none⟩) 1 1⟩ (.word [txt 1 [120]]) ⟨rfl, rfl⟩ (hwd.under h8)
            have hb8 : Below w8.heap.size w8 (w8.alloc (.cells #[.int .i64 1, .string ⟨#[]⟩, .slice (some ⟨g1, 0, none⟩) 1 1] 34)) := (Below.refl _ _).alloc (Nat.le_refl _) _
            refine (SameTokens_any _ _ [.word [txt 1 [120]]] _ (by simp) (fun i hi => ?_) ((HU6.out.under h8).under hb8) hf8.tl).mono ?_
            · have : i = 0 := by simp at hi; omega
              subst this
              simp [tokW, wsz, psz, txt]
            · rintro e w'' ⟨rfl, h9⟩
              exact ⟨rfl, hb8.trans (h9.mono hb8.size)⟩
          have hg1w : g1 + 1 < W6.heap.size := by omega
          have HBX : Hid (∀ w', Below W6.heap.size W6 w' → w'.cell? ⟨g1 + 1, 0, none⟩ = some (.int .i64 1) ∧ w'.cell? ⟨g1 + 1, 1, none⟩ = some (.string ⟨#[]⟩) ∧ w'.cell? ⟨g1 + 1, 2, none⟩ = some (.slice (some ⟨g1, 0, none⟩) 1 1)) := fun w' hb => by
            have h2 : w'.heap[g1 + 1]? = _ := (hb.block _ hg1w).trans hn2
            exact ⟨cell_of h2 0, cell_of h2 1, cell_of h2 2⟩
          -- the word x#y
          obtain ⟨-, vb, vo, vk, vt, wa, wc, F, hva, hvb, v0, v1, v2, -, -, hvw⟩ := hV6.cells (i := 0) (by simp)
          simp only [List.getElem_cons_zero, tokW, Nat.zero_mul, Nat.add_zero] at v0 v1 v2 hvw
          obtain ⟨pb, po, pk, pt', pn, pq, pwa, pwc, pqd, hpa, hpb, p0, p1, p2, p3, p4, p5, i1, i2, -, -, -, -⟩ := hvw.cells (i := 0) (by simp)
          simp only [List.getElem_cons_zero, Nat.zero_mul, Nat.add_zero] at p0 p1 p2 p3 p4 p5 i1 i2
          subst hva
          subst hpa
          have i2' : (pt'.toList == [120, 35, 121]) = true := by rw [Lib.toList_data, i2]; rfl
          have HVX : Hid (∀ w', Below W6.heap.size W6 w' → w'.cell? ⟨vb, vo + 2, none⟩ = some (.slice (some ⟨pb, po, none⟩) 1 wc) ∧ w'.cell? ⟨pb, po + 1, none⟩ = some (.string pt')) := fun w' hb => ⟨cell_under hb hvb v2, cell_under hb hpb p1⟩
          have adv := addn vb vo 0
          have adp := addn pb po 0
          rw [Nat.add_zero] at adv adp
          clear hW6 hs6 b1 b2 hb6 hn1 hn2 hwd hT6 hU6 hV6 hY6 hfr hbel hL2 hx7 hb7 hk7 hb67 hg1w v0 v1 v2 p0 p1 p2 p3 p4 p5 i1 i2 hvw hvb hpb hg1 hs1
          go_wp2_with (first
            | (go_at_call 15; refine (num_any _ _).mono ?_; rintro e wn ⟨rfl, hn⟩; obtain rfl := hn.symm; simp only [])
            | (at_builtin; refine wpList_run_append_g _ rfl _ _ 23 23 rfl _ _ rfl rfl r7 ?_)
            | (go_at_call 16; first
                | ((with_reducible refine (SameTokens_any _ _ (Tok.op [10] :: lb) _ (by rw [List.length_cons, HNB.out]; omega) HSM.out HT7.out HX7.out).mono ?_); rintro e w8 ⟨rfl, h8⟩
                   have H8 := Lib.hid (HB7.out.trans (h8.mono HB7.out.size))
                   obtain ⟨x0, x1, x2⟩ := HBX.out _ H8.out
                   clear h8
                   simp only [])
                | ((with_reducible refine (HS2.out _ H8.out).mono ?_); rintro e w9 ⟨rfl, h9⟩
                   have H9 := Lib.hid (H8.out.trans (h9.mono H8.out.size))
                   obtain ⟨y0, y1⟩ := HVX.out _ H9.out
                   clear h9
                   simp only [])))
          rw [← HQ.out]; exact ⟨rfl, HB6.out.trans (H9.out.mono HB6.out.size)⟩
end Go.Proofs.Ytafbheplaheohaa
