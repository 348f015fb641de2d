import Derived.Test.YtafbheplaheohaaCC
import Derived.Deep.RegionHeld3
namespace Go.Proofs.Ytafbheplaheohaa
open Go.RowKit
set_option linter.unusedVariables false

theorem SameParts_any (l m : List Prt) (a1 : Option Addr) (c1 : Nat) (a2 : Option Addr) (c2 : Nat) (w : World) (F G : Nat → Prop) (hn : wsz m ≤ 100000) (h1 : Wd w F (.slice a1 l.length c1) l) (h2 : Wd w G (.slice a2 m.length c2) m) :
    Calls Try.prog 18 #[.slice a1 l.length c1, .slice a2 m.length c2] w (SPq w (sames l m)) := by
  have key : ∀ n, n ≤ 100000 → ∀ l m : List Prt, ∀ a1 c1 a2 c2 (w : World) (F G : Nat → Prop), wsz m = n → Wd w F (.slice a1 l.length c1) l → Wd w G (.slice a2 m.length c2) m → Calls Try.prog 18 #[.slice a1 l.length c1, .slice a2 m.length c2] w (SPq w (sames l m)) := by
    intro n
    induction n using Nat.strongRecOn with
    | _ n ih =>
      intro hn l m a1 c1 a2 c2 w F G h0 h1 h2
      exact SameParts_step n (fun l m a1 c1 a2 c2 w F G hl h1 h2 => ih _ hl (by omega) l m a1 c1 a2 c2 w F G rfl h1 h2) hn l m a1 c1 a2 c2 w F G h0 h1 h2
  exact key _ hn l m a1 c1 a2 c2 w F G rfl h1 h2
/-- Tokens to be read behind a value. -/
def Tl (w : World) (v : Value) (l : List Tok) : Prop := ∃ a c, v = .slice a l.length c ∧ ∀ i (h : i < l.length), ∃ b off cur tk F, a = some ⟨b, off, none⟩ ∧ w.heap[b]? = some (.cells cur 34 (0, 0)) ∧ (∀ q, q < 3 → cur[off + i * 3 + q]? = (Tk.cs tk)[q]?) ∧ tk.is l[i] ∧ Wd w F tk.wv (tokW l[i])
theorem Tl.under {w w' : World} {v : Value} {l : List Tok} (h : Tl w v l) (hb : Below w.heap.size w w') : Tl w' v l := by
  obtain ⟨a, c, h1, h2⟩ := h
  refine ⟨a, c, h1, fun i hi => ?_⟩
  obtain ⟨b, off, cur, tk, F, g1, g2, g3, g4, g5⟩ := h2 i hi
  exact ⟨b, off, cur, tk, F, g1, (hb.block b (Array.getElem?_eq_some_iff.1 g2).1).trans g2, g3, g4, g5.under hb⟩
theorem TRow.tl {w : World} {B : Nat} {v : Value} {l : List Tok} {L : List Tk} (h : TRow w B v l L) : Tl w v l := by
  have hlen := h.len
  rcases h.own.2 with ⟨rfl, h0⟩ | ⟨g, cap, cur, e, h2, h3, h4, h5, h6, h7⟩
  · have : l = [] := List.eq_nil_of_length_eq_zero (by omega)
    subst this
    exact ⟨none, 0, rfl, fun i hi => absurd hi (by simp)⟩
  · rw [hlen] at e
    refine ⟨_, cap, e, fun i hi => ⟨g, 0, cur, L[i]'(by omega), _, rfl, h3, fun q hq => ?_, h.is i (by omega) hi, h.word i (by omega) hi⟩⟩
    rw [Nat.zero_add, ← tcs_at L i q (by omega) hq, ← h7, List.getElem?_take, if_pos (by omega)]
    simp
theorem addo3 (b off k : Nat) : (⟨b, off, none⟩ : Addr).add (k * 3) = ⟨b, off + k * 3, none⟩ := addn b off _
theorem Tl.cells {w : World} {a : Option Addr} {n c : Nat} {l : List Tok} (h : Tl w (.slice a n c) l) {i : Nat} (hi : i < l.length) :
    n = l.length ∧ ∃ b off k t wa wc F, a = some ⟨b, off, none⟩ ∧ b < w.heap.size ∧ w.cell? ⟨b, off + i * 3, none⟩ = some (.int .i64 k) ∧ w.cell? ⟨b, off + i * 3 + 1, none⟩ = some (.string t) ∧ w.cell? ⟨b, off + i * 3 + 2, none⟩ = some (.slice wa (tokW l[i]).length wc) ∧
      k = (tokK l[i] : Int) ∧ t.data.toList = tokT l[i] ∧ Wd w F (.slice wa (tokW l[i]).length wc) (tokW l[i]) := by
  obtain ⟨a', c', e, h2⟩ := h
  obtain ⟨b, off, cur, ⟨k, t, wv⟩, F, g1, g2, g3, ⟨g4, g5⟩, g6⟩ := h2 i hi
  injection e with e1 e2 e3
  obtain ⟨wa, wc, hf⟩ := g6.form
  simp only at g4 g5 g6 hf
  subst hf
  have hlt := (Array.getElem?_eq_some_iff.1 g2).1
  have hcell : ∀ j u, j < 3 → (Tk.cs ⟨k, t, .slice wa (tokW l[i]).length wc⟩)[j]? = some u → w.cell? ⟨b, off + i * 3 + j, none⟩ = some u := fun j u hj hu => by
    rw [Lib.cell_of_heap g2]
    exact (g3 j hj).trans hu
  exact ⟨e2, b, off, k, t, wa, wc, F, e1.trans g1, hlt, hcell 0 _ (by decide) rfl, hcell 1 _ (by decide) rfl, hcell 2 _ (by decide) rfl, g4, g5, g6⟩
set_option maxHeartbeats 400000 in
theorem num_any (x : Int) (w : World) : Calls Try.prog 15 #[.int .i64 x] w fun e w' => e = .returned (.int .i64 x) ∧ w' = w := by
  go_enter Try.func15, Try.ntmps15
  go_wp2_with fail
  go_ret
  exact ⟨rfl, rfl⟩
set_option maxRecDepth 100000 in
set_option maxHeartbeats 8000000 in
theorem SameTokens_any (u v : Value) (l : List Tok) (w : World) (hl : l.length ≤ 100000) (hz : ∀ i (h : i < l.length), wsz (tokW l[i]) ≤ 100000) (h1 : Tl w u l) (h2 : Tl w v l) :
    Calls Try.prog 16 #[u, v] w fun e w' => e = .returned (.bool true) ∧ Below w.heap.size w w' := by
  obtain ⟨a1, c1, hu, _⟩ := id h1
  obtain ⟨a2, c2, hv, _⟩ := id h2
  subst hu
  subst hv
  have H1 := Lib.hid h1
  have H2 := Lib.hid h2
  have HZ := Lib.hid hz
  obtain ⟨N, hN⟩ : ∃ N, l.length = N := ⟨_, rfl⟩
  have hNI : (N : Int) ≤ 100000 := by omega
  have HN := Lib.hid hN
  rw [hN] at H1 H2 ⊢
  clear h1 h2 hN hl hz
  go_enter Try.func16, Try.ntmps16
  go_wp2_with fail
  go_loopw [5] (fun i wx => ∃ k : Nat, k ≤ N ∧ i = .int .i64 k ∧ Hid (Below w.heap.size w wx)) (fun i _ => N - (intOf i).toNat)
  case atStart => exact ⟨0, by omega, rfl, Below.refl _ _⟩
  case round =>
    obtain ⟨k, hk, rfl, HD⟩ := hrel
    by_cases hlt : k < N
    · have hltI : (k : Int) < (N : Int) := by omega
      have hltd : decide ((k : Int) < (N : Int)) = true := decide_eq_true hltI
      have hk0 : (0 : Int) ≤ (k : Int) := by omega
      have hkl : k < l.length := by rw [HN.out]; exact hlt
      obtain ⟨-, b, off, kk, t, wa, wc, F, e1, hb, q0, q1, q2, i1, i2, hw1⟩ := (H1.out.under HD.out).cells hkl
      obtain ⟨-, b', off', kk', t', wa', wc', F', e1', hb', q0', q1', q2', j1, j2, hw2⟩ := (H2.out.under HD.out).cells hkl
      obtain rfl : kk = kk' := i1.trans j1.symm
      obtain rfl : t = t' := ba_ext (i2.trans j2.symm)
      obtain ⟨m, hm⟩ : ∃ m, tokW l[k] = m := ⟨_, rfl⟩
      have hzm := HZ.out k hkl
      rw [hm] at q2 q2' hw1 hw2 hzm
      have HSP : Hid (∀ w', Below wr.heap.size wr w' → Calls Try.prog 18 #[.slice wa m.length wc, .slice wa' m.length wc'] w' fun e w'' => e = .returned (.bool true) ∧ Below wr.heap.size wr w'') := fun w' hw => (SameParts_any m m wa wc wa' wc' w' _ _ hzm (hw1.under hw) (hw2.under hw)).mono (by
        rintro e w'' ⟨rfl, h⟩
        rw [(sames_eq m m).2 rfl]
        exact ⟨rfl, hw.trans (h.mono hw.size)⟩)
      have HCK : Hid (∀ w', Below wr.heap.size wr w' → w'.cell? ⟨b, off + k * 3, none⟩ = some (.int .i64 kk) ∧ w'.cell? ⟨b, off + k * 3 + 1, none⟩ = some (.string t) ∧ w'.cell? ⟨b, off + k * 3 + 2, none⟩ = some (.slice wa m.length wc) ∧
        w'.cell? ⟨b', off' + k * 3, none⟩ = some (.int .i64 kk) ∧ w'.cell? ⟨b', off' + k * 3 + 1, none⟩ = some (.string t) ∧ w'.cell? ⟨b', off' + k * 3 + 2, none⟩ = some (.slice wa' m.length wc')) := fun w' hw => by
        have key : ∀ g o u, g < wr.heap.size → wr.cell? ⟨g, o, none⟩ = some u → w'.cell? ⟨g, o, none⟩ = some u := fun g o u hg hu => by
          unfold World.cell? at hu ⊢; rw [hw.block g hg]; exact hu
        exact ⟨key _ _ _ hb q0, key _ _ _ hb q1, key _ _ _ hb q2, key _ _ _ hb' q0', key _ _ _ hb' q1', key _ _ _ hb' q2'⟩
      obtain ⟨mn, hmn⟩ : ∃ mn, m.length = mn := ⟨_, rfl⟩
      rw [hmn] at q2 q2' HSP HCK
      have HB0 : Hid (Below wr.heap.size wr wr) := Below.refl _ _
      clear hm i1 i2 j1 j2 hw1 hw2 hkl hzm hmn
      subst e1
      subst e1'
      have ad := addo3 b off k
      have ad' := addo3 b' off' k
      go_wp2_with fail
      go_region_held3 (fun w' => w'.cell? ⟨b, off + k * 3, none⟩ = some (.int .i64 kk) ∧ w'.cell? ⟨b, off + k * 3 + 1, none⟩ = some (.string t) ∧ w'.cell? ⟨b, off + k * 3 + 2, none⟩ = some (.slice wa mn wc) ∧ w'.cell? ⟨b', off' + k * 3, none⟩ = some (.int .i64 kk) ∧ w'.cell? ⟨b', off' + k * 3 + 1, none⟩ = some (.string t) ∧ w'.cell? ⟨b', off' + k * 3 + 2, none⟩ = some (.slice wa' mn wc')) (first | exact HCK.out _ hbz | exact HCK.out _ (Below.refl _ _).drew | exact HCK.out _ hbz.drew) (first
        | (go_at_call 18; refine (HSP.out _ (Below.refl _ _).drew).mono ?_; rintro e wz ⟨rfl, hbz⟩))
      all_goals
        have HB1 := Lib.hid (HD.out.trans (hbz.mono HD.out.size))
        clear hbz
        go_wp2_with fail

        go_roundw
        case measure => simp [intOf]; omega
        case rel => exact ⟨k + 1, by omega, by go_num, by first | exact HB1.out | exact HB1.out.drew⟩
    · obtain rfl : k = N := by omega
      have hltd : decide ((k : Int) < (k : Int)) = false := decide_eq_false (by omega)
      go_wp2_with fail
      go_ret
      exact ⟨rfl, HD.out⟩
end Go.Proofs.Ytafbheplaheohaa
