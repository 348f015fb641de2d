import Derived.Test.YtpgaeldjiiaoiaaD
namespace Go.Proofs.Ytpgaeldjiiaoiaa
open Go.RowKit
theorem info39 : (Try.prog.info? 39).map (fun i => (i.zero, i.size, i.bytes)) = some (some (.slice none 0 0), 1, 24) := by kernel_rfl

/-- The runs of pieces before, between and behind the stars. -/
def runs : List Pc → List (List Pc)
  | [] => [[]]
  | p :: ps => if p.kind = 3 then [] :: runs ps else match runs ps with
    | [] => [[p]]
    | r :: rs => (p :: r) :: rs

theorem runs_ne (ps : List Pc) : runs ps ≠ [] := by
  cases ps with
  | nil => simp [runs]
  | cons p ps => unfold runs; split; simp; split <;> simp

theorem runs_none : ∀ (a : List Pc), (∀ p ∈ a, p.kind ≠ 3) → runs a = [a]
  | [], _ => rfl
  | p :: ps, h => by
    rw [runs, if_neg (h p (by simp)), runs_none ps (fun q hq => h q (by simp [hq]))]

theorem runs_star : ∀ (a : List Pc) (x : Pc) (b : List Pc), (∀ p ∈ a, p.kind ≠ 3) → x.kind = 3 → runs (a ++ x :: b) = a :: runs b
  | [], x, b, _, hx => by rw [List.nil_append, runs, if_pos hx]
  | p :: ps, x, b, h, hx => by
    rw [List.cons_append, runs, if_neg (h p (by simp)), runs_star ps x b (fun q hq => h q (by simp [hq])) hx]

def nilV : Value := .slice none 0 0

/-- The runs rs lie in w where the slices vs say. -/
def RunsAt (w : World) (vs : List Value) (rs : List (List Pc)) : Prop :=
  vs.length = rs.length ∧ ∀ i, i < rs.length → Sl w (vs.getD i nilV) (rs.getD i [])

/-- What split leaves. -/
def SplitPost (w : World) (ps : List Pc) (e : Ending) (w' : World) : Prop :=
  ∃ rv vs, e = .returned rv ∧ w'.ownsRow w.heap.size 39 1 rv vs.length vs ∧ RunsAt w vs (runs ps) ∧ Below w.heap.size w w'

/-- The relation of split's loop. -/
def SplitRel (w wr : World) (ps : List Pc) (k : Nat) (rv : Value) (frm : Nat) : Prop :=
  k ≤ ps.length ∧ frm ≤ k ∧ ∃ (vs : List Value) (done : List (List Pc)), wr.ownsRow w.heap.size 39 1 rv vs.length vs ∧ RunsAt w vs done ∧ vs.length ≤ k ∧ Below w.heap.size w wr ∧
    runs ps = done ++ runs (ps.drop frm) ∧ (∀ j (h : j < ps.length), frm ≤ j → j < k → ps[j].kind ≠ 3)

theorem sub_sl {w : World} {g off cap : Nat} {ps : List Pc} {frm k : Nat} (hcap : ps.length ≤ cap) (hcm : cap ≤ 9223372036854775807)
    (hp : ∀ j (h : j < ps.length), PcAt w g (off + j * 6) ps[j]) (hf : frm ≤ k) (hk : k ≤ ps.length) :
    Sl w (.slice (some ⟨g, off + frm * 6, none⟩) (k - frm) (cap - frm)) ((ps.drop frm).take (k - frm)) := by
  have hl : ((ps.drop frm).take (k - frm)).length = k - frm := by simp; omega
  refine ⟨_, cap - frm, by rw [hl], by rw [hl]; omega, by unfold maxLen; omega, ?_⟩
  right
  refine ⟨g, off + frm * 6, rfl, fun j hj => ?_⟩
  rw [hl] at hj
  have := hp (frm + j) (by omega)
  rw [show off + (frm + j) * 6 = off + frm * 6 + j * 6 from by omega] at this
  simpa using this

theorem RunsAt.snoc {w : World} {vs : List Value} {rs : List (List Pc)} (h : RunsAt w vs rs) {v : Value} {r : List Pc} (hv : Sl w v r) : RunsAt w (vs ++ [v]) (rs ++ [r]) := by
  obtain ⟨h1, h2⟩ := h
  refine ⟨by simp [h1], fun i hi => ?_⟩
  simp only [List.length_append, List.length_cons, List.length_nil] at hi
  by_cases hlt : i < rs.length
  · have := h2 i hlt
    simp only [List.getD_eq_getElem?_getD, List.getElem?_append_left hlt, List.getElem?_append_left (h1 ▸ hlt : i < vs.length)] at this ⊢
    exact this
  · have hi' : i = rs.length := by omega
    subst hi'
    simp only [List.getD_eq_getElem?_getD]
    rw [List.getElem?_append_right (by omega), List.getElem?_append_right (by omega), h1]
    simpa using hv

theorem take_no {ps : List Pc} {frm k : Nat} (hno : ∀ j (h : j < ps.length), frm ≤ j → j < k → ps[j].kind ≠ 3) : ∀ p ∈ (ps.drop frm).take (k - frm), p.kind ≠ 3 := by
  intro p hp
  obtain ⟨j, hj, rfl⟩ := List.mem_iff_getElem.1 hp
  have hl : j < k - frm ∧ frm + j < ps.length := by simp at hj; omega
  have := hno (frm + j) hl.2 (by omega) (by omega)
  simpa using this

theorem runs_at_star {ps : List Pc} {frm k : Nat} (hf : frm ≤ k) (hk : k < ps.length) (h3 : ps[k].kind = 3)
    (hno : ∀ j (h : j < ps.length), frm ≤ j → j < k → ps[j].kind ≠ 3) : runs (ps.drop frm) = (ps.drop frm).take (k - frm) :: runs (ps.drop (k + 1)) := by
  have e : ps.drop frm = (ps.drop frm).take (k - frm) ++ ps[k] :: ps.drop (k + 1) := by
    rw [← List.drop_eq_getElem_cons hk]
    have := (List.take_append_drop (k - frm) (ps.drop frm)).symm
    rw [List.drop_drop, show frm + (k - frm) = k from by omega] at this
    exact this
  have h := runs_star ((ps.drop frm).take (k - frm)) ps[k] (ps.drop (k + 1)) (take_no hno) h3
  rw [← e] at h
  exact h

theorem SplitRel.skip {w wr : World} {ps : List Pc} {k frm : Nat} {rv : Value} (hk : k < ps.length) (hf : frm ≤ k) {vs : List Value} {done : List (List Pc)}
    (hown : wr.ownsRow w.heap.size 39 1 rv vs.length vs) (hra : RunsAt w vs done) (hvk : vs.length ≤ k) (hB : Below w.heap.size w wr)
    (hruns : runs ps = done ++ runs (ps.drop frm)) (hno : ∀ j (h : j < ps.length), frm ≤ j → j < k → ps[j].kind ≠ 3) (h3 : ps[k].kind ≠ 3) (o : Obj) :
    SplitRel w (wr.alloc o) ps (k + 1) rv frm :=
  ⟨hk, by omega, vs, done, hown.alloc o, hra, by omega, hB.alloc hB.size o, hruns, fun j h h1 h2 => by
    by_cases e : j = k
    · subst e; exact h3
    · exact hno j h h1 (by omega)⟩

theorem SplitRel.star {w wr w1 : World} {g off cap : Nat} {ps : List Pc} {k frm : Nat} {rv v' : Value} (hcap : ps.length ≤ cap) (hcm : cap ≤ 9223372036854775807)
    (hp : ∀ j (h : j < ps.length), PcAt w g (off + j * 6) ps[j]) (hk : k < ps.length) (hf : frm ≤ k) {vs : List Value} {done : List (List Pc)}
    (hown : wr.ownsRow w.heap.size 39 1 rv vs.length vs) (hra : RunsAt w vs done) (hvk : vs.length ≤ k) (hB : Below w.heap.size w wr)
    (hruns : runs ps = done ++ runs (ps.drop frm)) (hno : ∀ j (h : j < ps.length), frm ≤ j → j < k → ps[j].kind ≠ 3) (h3 : ps[k].kind = 3) (o o2 : Obj)
    (hown' : w1.ownsRow w.heap.size 39 1 v' (vs.length + 1) (vs ++ [.slice (some ⟨g, off + frm * 6, none⟩) (k - frm) (cap - frm)]))
    (hg : ((wr.alloc o).alloc o2).grownBy w1 rv.ownBlock) : SplitRel w w1 ps (k + 1) v' (k + 1) := by
  refine ⟨hk, Nat.le_refl _, vs ++ [.slice (some ⟨g, off + frm * 6, none⟩) (k - frm) (cap - frm)], done ++ [(ps.drop frm).take (k - frm)], by simpa using hown', hra.snoc (sub_sl hcap hcm hp hf (by omega)), by simp; omega, ?_, ?_, fun j h h1 h2 => by omega⟩
  · have hs := hB.size
    exact ((hB.alloc hs o).alloc (by simp; omega) o2).grown hg (by simp; omega) (fun j hj => (hown.lt j hj).1)
  · rw [hruns, runs_at_star hf hk h3 hno]; simp

theorem SplitPost.fin {w wr w1 : World} {ps : List Pc} {frm : Nat} {rv v' sv : Value} (hsv : Sl w sv (ps.drop frm)) {vs : List Value} {done : List (List Pc)} {k : Nat} (hk : ps.length ≤ k)
    (hown : wr.ownsRow w.heap.size 39 1 rv vs.length vs) (hra : RunsAt w vs done) (hB : Below w.heap.size w wr)
    (hruns : runs ps = done ++ runs (ps.drop frm)) (hno : ∀ j (h : j < ps.length), frm ≤ j → j < k → ps[j].kind ≠ 3) (o : Obj)
    (hown' : w1.ownsRow w.heap.size 39 1 v' (vs.length + 1) (vs ++ [sv])) (hg : (wr.alloc o).grownBy w1 rv.ownBlock) : SplitPost w ps (.returned v') w1 := by
  refine ⟨v', vs ++ [sv], rfl, by simpa using hown', ?_, ?_⟩
  · have e : runs (ps.drop frm) = [ps.drop frm] := by
      refine runs_none _ (fun p hp => ?_)
      obtain ⟨j, hj, rfl⟩ := List.mem_iff_getElem.1 hp
      have hl : frm + j < ps.length := by simp at hj; omega
      have := hno (frm + j) hl (by omega) (by omega)
      simpa using this
    rw [hruns, e]
    exact hra.snoc hsv
  · have hs := hB.size
    exact (hB.alloc hs o).grown hg (by simp; omega) (fun j hj => (hown.lt j hj).1)

theorem last_sl {w : World} {g off cap : Nat} {ps : List Pc} {frm : Nat} (hcap : ps.length ≤ cap) (hcm : cap ≤ 9223372036854775807)
    (hp : ∀ j (h : j < ps.length), PcAt w g (off + j * 6) ps[j]) (hf : frm ≤ ps.length) :
    Sl w (.slice (some ⟨g, off + frm * 6, none⟩) (ps.length - frm) (cap - frm)) (ps.drop frm) := by
  have := sub_sl hcap hcm hp hf (Nat.le_refl _)
  rwa [show (ps.drop frm).take (ps.length - frm) = ps.drop frm from List.take_of_length_le (by simp)] at this

set_option maxRecDepth 100000 in
set_option maxHeartbeats 2000000 in
theorem split_some (g off cap : Nat) (ps : List Pc) (w : World) (hcap : ps.length ≤ cap) (hcm : cap ≤ 9223372036854775807) (hlen : ps.length ≤ 100000) (hp : ∀ j (h : j < ps.length), PcAt w g (off + j * 6) ps[j]) :
    Calls Try.prog 32 #[.slice (some ⟨g, off, none⟩) ps.length cap] w (SplitPost w ps) := by
  obtain ⟨i0, hi, hz0, hz1, hz2⟩ := info_parts info39
  have HP := Lib.hid hp
  clear hp
  go_enter Try.func32, Try.ntmps32
  go_wp2
  go_loopw [3, 4, 9] (fun a b c wr => ∃ k frm : Nat, c = .int .i64 k ∧ b = .int .i64 frm ∧ SplitRel w wr ps k a frm) (fun _ _ c _ => ps.length - (intOf c).toNat)
  case atStart => exact ⟨0, 0, rfl, rfl, Nat.zero_le _, Nat.le_refl _, [], [], World.ownsRow_nil _ _ _ _, ⟨rfl, fun i h => by simp at h⟩, Nat.zero_le _, Below.refl _ _, rfl, fun j h h1 h2 => by omega⟩
  case round =>
    obtain ⟨k, frm, rfl, rfl, hk, hfk, vs, done, hown, hra, hvk, hB, hruns, hno⟩ := hrel
    have HRA := Lib.hid hra
    have HRU := Lib.hid hruns
    have HNO := Lib.hid hno
    clear hra hruns hno
    by_cases hlt : k < ps.length
    · have hpk := HP.out k hlt
      have hgl : g < w.heap.size := World.block_lt_of_cell? w _ hpk.c0
      have c0 := (hB.cell (p := ⟨g, off + k * 6, none⟩) hgl).trans hpk.c0
      have c1 := (hB.cell (p := ⟨g, off + k * 6 + 1, none⟩) hgl).trans hpk.c1
      have c2 := (hB.cell (p := ⟨g, off + k * 6 + 2, none⟩) hgl).trans (hpk.c2 0 (by decide))
      have c3 := (hB.cell (p := ⟨g, off + k * 6 + 3, none⟩) hgl).trans (hpk.c2 1 (by decide))
      have c4 := (hB.cell (p := ⟨g, off + k * 6 + 4, none⟩) hgl).trans (hpk.c2 2 (by decide))
      have c5 := (hB.cell (p := ⟨g, off + k * 6 + 5, none⟩) hgl).trans (hpk.c2 3 (by decide))
      by_cases h3 : ps[k].kind = 3
      · have h3' : ((ps[k].kind : Int) == 3) = true := by simp [h3]
        have H3 := Lib.hid h3
        clear h3
        go_wp2_with (at_builtin; refine wpList_append_own _ rfl _ _ 61 rfl w.heap.size 39 i0 (.slice none 0 0) 1 24 Try.underlying61 hi hz0 hz1 hz2 rfl (by decide) _ _ _ rfl ((hown.alloc _).alloc _) ⟨wr.heap.size + 1, 0, none⟩ 1 1 [.slice (some ⟨g, off + frm * 6, none⟩) (k - frm) (cap - frm)] rfl rfl ?c1 ?c2 ?c3 ?c4 ?c5 ?_)
        case c1 =>
          intro j u hj
          match j, hj with
          | 0, hj => simp at hj; subst hj; simp [Addr.add]
        case c2 => intro u hu; simp at hu; subst hu; rfl
        case c3 => unfold maxLen; omega
        case c4 => omega
        case c5 => have := hB.size; simp; omega
        intro v' w1 hown' hgrow _
        have HR := Lib.hid (SplitRel.star hcap hcm HP.out hlt hfk hown HRA.out hvk hB HRU.out HNO.out H3.out _ _ hown' hgrow)
        clear hown' hgrow
        go_wp2
        go_roundw
        case rel => exact ⟨k + 1, k + 1, by go_num, by go_num, HR.out⟩
        case measure => simp [intOf]; omega
      · have h3' : ((ps[k].kind : Int) == 3) = false := by rw [beq_eq_false_iff_ne]; omega
        have H3 := Lib.hid h3
        clear h3
        go_wp2
        go_roundw
        case rel => exact ⟨k + 1, frm, by go_num, rfl, SplitRel.skip hlt hfk hown HRA.out hvk hB HRU.out HNO.out H3.out _⟩
        case measure => simp [intOf]; omega
    · by_cases hcf : cap = frm
      · have HSV : Hid (Sl w (.slice (some ⟨g, off, none⟩) 0 0) (ps.drop frm)) := by
          have hd : ps.drop frm = [] := List.drop_eq_nil_of_le (by omega)
          rw [hd]
          exact ⟨_, 0, rfl, Nat.le_refl _, by unfold maxLen; omega, .inl rfl⟩
        subst hcf
        go_wp2_with (at_builtin; refine wpList_append_own _ rfl _ _ 61 rfl w.heap.size 39 i0 (.slice none 0 0) 1 24 Try.underlying61 hi hz0 hz1 hz2 rfl (by decide) _ _ _ rfl (hown.alloc _) ⟨wr.heap.size, 0, none⟩ 1 1 [.slice (some ⟨g, off, none⟩) 0 0] rfl rfl ?c1 ?c2 ?c3 ?c4 ?c5 ?_)
        case c1 =>
          intro j u hj
          match j, hj with
          | 0, hj => simp at hj; subst hj; simp [Addr.add]
        case c2 => intro u hu; simp at hu; subst hu; rfl
        case c3 => unfold maxLen; omega
        case c4 => omega
        case c5 => have := hB.size; simp; omega
        intro v' w1 hown' hgrow _
        have HR := Lib.hid (SplitPost.fin HSV.out (by omega : ps.length ≤ k) hown HRA.out hB HRU.out HNO.out _ hown' hgrow)
        clear hown' hgrow
        go_wp2
        go_ret
        exact HR.out
      · have hcf' : ((cap : Int) == frm) = false := by rw [beq_eq_false_iff_ne]; omega
        have HSV := Lib.hid (last_sl hcap hcm HP.out (by omega : frm ≤ ps.length))
        go_wp2_with (at_builtin; refine wpList_append_own _ rfl _ _ 61 rfl w.heap.size 39 i0 (.slice none 0 0) 1 24 Try.underlying61 hi hz0 hz1 hz2 rfl (by decide) _ _ _ rfl (hown.alloc _) ⟨wr.heap.size, 0, none⟩ 1 1 [.slice (some ⟨g, off + frm * 6, none⟩) (ps.length - frm) (cap - frm)] rfl rfl ?c1 ?c2 ?c3 ?c4 ?c5 ?_)
        case c1 =>
          intro j u hj
          match j, hj with
          | 0, hj => simp at hj; subst hj; simp [Addr.add]
        case c2 => intro u hu; simp at hu; subst hu; rfl
        case c3 => unfold maxLen; omega
        case c4 => omega
        case c5 => have := hB.size; simp; omega
        intro v' w1 hown' hgrow _
        have HR := Lib.hid (SplitPost.fin HSV.out (by omega : ps.length ≤ k) hown HRA.out hB HRU.out HNO.out _ hown' hgrow)
        clear hown' hgrow
        go_wp2
        go_ret
        exact HR.out

set_option maxRecDepth 100000 in
set_option maxHeartbeats 2000000 in
theorem split_nil (a : Option Addr) (cap : Nat) (w : World) (hcap : cap ≤ maxLen) :
    Calls Try.prog 32 #[.slice a 0 cap] w (SplitPost w []) := by
  obtain ⟨i0, hi, hz0, hz1, hz2⟩ := info_parts info39
  go_enter Try.func32, Try.ntmps32
  go_wp2_with fail
  refine wp_loop_rounds 1 ?_
  rw [rounds_succ]
  go_wp2_with (at_builtin; refine wpList_append_own _ rfl _ _ 61 rfl w.heap.size 39 i0 (.slice none 0 0) 1 24 Try.underlying61 hi hz0 hz1 hz2 rfl (by decide) _ _ _ rfl (World.ownsRow_nil _ _ _ _) ⟨w.heap.size, 0, none⟩ 1 1 [.slice a 0 cap] rfl rfl ?c1 ?c2 ?c3 ?c4 ?c5 ?_)
  case c1 =>
    intro j u hj
    match j, hj with
    | 0, hj => simp at hj; subst hj; simp [Addr.add]
  case c2 => intro u hu; simp at hu; subst hu; rfl
  case c3 => unfold maxLen; omega
  case c4 => omega
  case c5 => simp
  intro v' w1 hown' hgrow _
  have HR : Hid (SplitPost w [] (.returned v') w1) :=
    ⟨v', [.slice a 0 cap], rfl, by simpa using hown', RunsAt.snoc (vs := []) (rs := []) ⟨rfl, fun i h => by simp at h⟩ ⟨a, cap, rfl, Nat.zero_le _, hcap, .inl rfl⟩, ((Below.refl _ _).alloc (Nat.le_refl _) _).grown hgrow (by simp) (fun j hj => by simp [Value.ownBlock] at hj)⟩
  clear hown' hgrow
  go_wp2
  go_ret
  exact HR.out

theorem split_any (v : Value) (ps : List Pc) (w : World) (hlen : ps.length ≤ 100000) (h : Sl w v ps) : Calls Try.prog 32 #[v] w (SplitPost w ps) := by
  obtain ⟨a, cap, rfl, hcap, hcm, hc⟩ := h
  rcases hc with rfl | ⟨g, off, rfl, hp⟩
  · exact split_nil a cap w hcm
  · unfold maxLen at hcm
    exact split_some g off cap ps w hcap hcm hlen hp
end Go.Proofs.Ytpgaeldjiiaoiaa
