import Derived.Test.YtdkkfcpnfhfjdaaR
namespace Go.Proofs.Ytdkkfcpnfhfjdaa
open Go.RowKit
set_option linter.unusedVariables false

/-- One part under the walk: its six cells. -/
theorem Sl.at {w : World} {a : Option Addr} {n c : Nat} {L : List Pt} (h : Sl w (.slice a n c) L) {k : Nat} (hk : k < L.length) :
    ∃ b off wa wc, a = some ⟨b, off, none⟩ ∧ n = L.length ∧ b < w.heap.size ∧ w.cell? ⟨b, off + k * 6, none⟩ = some (.int .i64 L[k].k) ∧ w.cell? ⟨b, off + k * 6 + 1, none⟩ = some (.string L[k].t) ∧ w.cell? ⟨b, off + k * 6 + 2, none⟩ = some (.string ⟨#[]⟩) ∧
      w.cell? ⟨b, off + k * 6 + 3, none⟩ = some (.string ⟨#[]⟩) ∧ w.cell? ⟨b, off + k * 6 + 4, none⟩ = some (.slice wa 0 wc) ∧ w.cell? ⟨b, off + k * 6 + 5, none⟩ = some (.bool false) := by
  obtain ⟨a', c', e1, e2⟩ := h.form
  obtain ⟨b, off, e3, hb, hc⟩ := e2 k hk
  injection e1 with e4 e5 e6
  subst e4
  subst e3
  obtain ⟨wa, wc, hwv⟩ := h.ok L[k] (List.getElem_mem hk)
  refine ⟨b, off, wa, wc, rfl, e5, hb, hc 0 _ rfl, hc 1 _ rfl, hc 2 _ rfl, hc 3 _ rfl, ?_, hc 5 _ rfl⟩
  rw [← hwv]; exact hc 4 _ rfl
/-- The same under a later world. -/
theorem Sl.drewN {w : World} {v : Value} {L : List Pt} (h : Sl w v L) (n : Nat) : Sl (w.drewN n) v L := h.below (drew_below w n)
theorem p2_at {L M : List Pt} (h : p2s L = p2s M) {k : Nat} (hl : k < L.length) (hm : k < M.length) : L[k].k = M[k].k ∧ L[k].t = M[k].t := by
  have e : (p2s L)[k]'(by simpa [p2s] using hl) = (p2s M)[k]'(by simpa [p2s] using hm) := by simp [h]
  have e2 : L[k].p2 = M[k].p2 := by simpa [p2s] using e
  unfold Pt.p2 at e2
  injection e2 with e3 e4
  exact ⟨e3, ByteArray.ext (Array.toList_inj.1 e4)⟩
theorem p2_len {L M : List Pt} (h : p2s L = p2s M) : L.length = M.length := by
  have := congrArg List.length h
  simpa [p2s] using this
set_option maxRecDepth 100000 in
set_option maxHeartbeats 8000000 in
theorem SameParts_any (u v : Value) (L M : List Pt) (w : World) (hL : L.length ≤ 100000) (h1 : Sl w u L) (h2 : Sl w v M) (he : p2s L = p2s M) :
    Calls Try.prog 15 #[u, v] w fun e w' => e = .returned (.bool true) ∧ ∃ n, w' = w.drewN n := by
  obtain ⟨a1, c1, hu, _⟩ := h1.form
  obtain ⟨a2, c2, hv, _⟩ := h2.form
  subst hu
  subst hv
  have H1 := Lib.hid h1
  have H2 := Lib.hid h2
  have HE := Lib.hid he
  have hlen := p2_len he
  have hlI : (L.length : Int) ≤ 100000 := by omega
  rw [← hlen] at H2 ⊢
  have HL := Lib.hid hlen
  clear h1 h2 he hlen
  go_enter Try.func15, Try.ntmps15
  go_wp2_with fail
  go_loopw [5] (fun i wx => ∃ k : Nat, k ≤ L.length ∧ i = .int .i64 k ∧ Hid (∃ n, wx = w.drewN n)) (fun i _ => L.length - (intOf i).toNat)
  case atStart => exact ⟨0, by omega, rfl, 0, (World.drewN_zero _).symm⟩
  case round =>
    obtain ⟨k, hk, rfl, HD⟩ := hrel
    by_cases hlt : k < L.length
    · have hltI : (k : Int) < (L.length : Int) := by omega
      have hltd : decide ((k : Int) < (L.length : Int)) = true := decide_eq_true hltI
      have hk0 : (0 : Int) ≤ (k : Int) := by omega
      have hB : Below w.heap.size w wr := by obtain ⟨n, hn⟩ := HD.out; rw [hn]; exact drew_below _ _
      obtain ⟨b, off, wa, wc, e1, e8, hb, q0, q1, q2, q3, q4, q5⟩ := (H1.out.below hB).at hlt
      obtain ⟨b', off', wa', wc', e1', e9, hb', q0', q1', q2', q3', q4', q5'⟩ := (H2.out.below hB).at (k := k) (HL.out ▸ hlt)
      obtain ⟨g1, g2⟩ := p2_at HE.out hlt (HL.out ▸ hlt)
      rw [← g1] at q0'
      rw [← g2] at q1'
      obtain ⟨kd, hkd⟩ : ∃ kd, L[k].k = kd := ⟨_, rfl⟩
      obtain ⟨t, ht⟩ : ∃ t, L[k].t = t := ⟨_, rfl⟩
      rw [hkd] at q0 q0'
      rw [ht] at q1 q1'
      clear g1 g2 hkd ht e8 e9
      subst e1
      subst e1'
      have ad := add6 b off k
      have ad' := add6 b' off' k
      have HD2 : ∀ n, Hid (∃ m, wr.drewN n = w.drewN m) := fun n => by
        obtain ⟨m, hm⟩ := HD.out
        exact ⟨m + n, by rw [hm, World.drewN_drewN]⟩
      have HDD := Lib.hid HD2
      clear HD2 hB
      go_wp2_with fail
      go_quiet (fail)
      go_wp2_with fail
      go_roundw
      case measure => simp [intOf]; omega
      case rel => exact ⟨k + 1, by omega, by go_num, (HDD.out _).out⟩
    · obtain rfl : k = L.length := by omega
      have hltd : decide ((L.length : Int) < (L.length : Int)) = false := decide_eq_false (by omega)
      go_wp2_with fail
      go_ret
      exact ⟨rfl, HD.out⟩
end Go.Proofs.Ytdkkfcpnfhfjdaa
