import Derived.Test.YtcmjpkfinbakkaaGreatDoorGC
import Derived.Lib.Strings
namespace Go.Proofs.YtcmjpkfinbakkaaGreatDoor.Gb
open Go.RowKit
theorem info128 : (Tryz.prog.info? 128).map (fun i => (i.zero, i.size, i.bytes)) = some (some (.slice none 0 0), 1, 24) := by kernel_rfl

/-- The runs of pieces before, between and behind the stars. -/
def runs : List Pc → List (List Pc)
  | [] => [[]]
  | p :: ps => if p.kind = 3 then [] :: runs ps else match runs ps with
    | [] => [[p]]
    | r :: rs => (p :: r) :: rs

theorem runs_ne (ps : List Pc) : runs ps ≠ [] := by
  cases ps with
  | nil => simp [runs]
  | cons p ps => unfold runs; split; simp; split <;> simp

theorem runs_none : ∀ (a : List Pc), (∀ p ∈ a, p.kind ≠ 3) → runs a = [a]
  | [], _ => rfl
  | p :: ps, h => by
    rw [runs, if_neg (h p (by simp)), runs_none ps (fun q hq => h q (by simp [hq]))]

theorem runs_star : ∀ (a : List Pc) (x : Pc) (b : List Pc), (∀ p ∈ a, p.kind ≠ 3) → x.kind = 3 → runs (a ++ x :: b) = a :: runs b
  | [], x, b, _, hx => by rw [List.nil_append, runs, if_pos hx]
  | p :: ps, x, b, h, hx => by
    rw [List.cons_append, runs, if_neg (h p (by simp)), runs_star ps x b (fun q hq => h q (by simp [hq])) hx]

def nilV : Value := .slice none 0 0

/-- The runs rs lie in w where the slices vs say. -/
def RunsAt (w : World) (vs : List Value) (rs : List (List Pc)) : Prop :=
  vs.length = rs.length ∧ ∀ i, i < rs.length → Sl w (vs.getD i nilV) (rs.getD i [])

/-- What split leaves. -/
def SplitPost (w : World) (ps : List Pc) (e : Ending) (w' : World) : Prop :=
  ∃ rv vs, e = .returned rv ∧ w'.ownsRow w.heap.size 128 1 rv vs.length vs ∧ RunsAt w vs (runs ps) ∧ Below w.heap.size w w'

/-- The relation of split's loop. -/
def SplitRel (w wr : World) (ps : List Pc) (k : Nat) (rv : Value) (frm : Nat) : Prop :=
  k ≤ ps.length ∧ frm ≤ k ∧ ∃ (vs : List Value) (done : List (List Pc)), wr.ownsRow w.heap.size 128 1 rv vs.length vs ∧ RunsAt w vs done ∧ vs.length ≤ k ∧ Below w.heap.size w wr ∧
    runs ps = done ++ runs (ps.drop frm) ∧ (∀ j (h : j < ps.length), frm ≤ j → j < k → ps[j].kind ≠ 3)

theorem sub_sl {w : World} {g off cap : Nat} {ps : List Pc} {frm k : Nat} (hcap : ps.length ≤ cap) (hcm : cap ≤ 9223372036854775807)
    (hp : ∀ j (h : j < ps.length), PcAt w g (off + j * 6) ps[j]) (hf : frm ≤ k) (hk : k ≤ ps.length) :
    Sl w (.slice (some ⟨g, off + frm * 6, none⟩) (k - frm) (cap - frm)) ((ps.drop frm).take (k - frm)) := by
  have hl : ((ps.drop frm).take (k - frm)).length = k - frm := by simp; omega
  refine ⟨_, cap - frm, by rw [hl], by rw [hl]; omega, by unfold maxLen; omega, ?_⟩
  right
  refine ⟨g, off + frm * 6, rfl, fun j hj => ?_⟩
  rw [hl] at hj
  have := hp (frm + j) (by omega)
  rw [show off + (frm + j) * 6 = off + frm * 6 + j * 6 from by omega] at this
  simpa using this

theorem RunsAt.snoc {w : World} {vs : List Value} {rs : List (List Pc)} (h : RunsAt w vs rs) {v : Value} {r : List Pc} (hv : Sl w v r) : RunsAt w (vs ++ [v]) (rs ++ [r]) := by
  obtain ⟨h1, h2⟩ := h
  refine ⟨by simp [h1], fun i hi => ?_⟩
  simp only [List.length_append, List.length_cons, List.length_nil] at hi
  by_cases hlt : i < rs.length
  · have := h2 i hlt
    simp only [List.getD_eq_getElem?_getD, List.getElem?_append_left hlt, List.getElem?_append_left (h1 ▸ hlt : i < vs.length)] at this ⊢
    exact this
  · have hi' : i = rs.length := by omega
    subst hi'
    simp only [List.getD_eq_getElem?_getD]
    rw [List.getElem?_append_right (by omega), List.getElem?_append_right (by omega), h1]
    simpa using hv

theorem take_no {ps : List Pc} {frm k : Nat} (hno : ∀ j (h : j < ps.length), frm ≤ j → j < k → ps[j].kind ≠ 3) : ∀ p ∈ (ps.drop frm).take (k - frm), p.kind ≠ 3 := by
  intro p hp
  obtain ⟨j, hj, rfl⟩ := List.mem_iff_getElem.1 hp
  have hl : j < k - frm ∧ frm + j < ps.length := by simp at hj; omega
  have := hno (frm + j) hl.2 (by omega) (by omega)
  simpa using this

theorem runs_at_star {ps : List Pc} {frm k : Nat} (hf : frm ≤ k) (hk : k < ps.length) (h3 : ps[k].kind = 3)
    (hno : ∀ j (h : j < ps.length), frm ≤ j → j < k → ps[j].kind ≠ 3) : runs (ps.drop frm) = (ps.drop frm).take (k - frm) :: runs (ps.drop (k + 1)) := by
  have e : ps.drop frm = (ps.drop frm).take (k - frm) ++ ps[k] :: ps.drop (k + 1) := by
    rw [← List.drop_eq_getElem_cons hk]
    have := (List.take_append_drop (k - frm) (ps.drop frm)).symm
    rw [List.drop_drop, show frm + (k - frm) = k from by omega] at this
    exact this
  have h := runs_star ((ps.drop frm).take (k - frm)) ps[k] (ps.drop (k + 1)) (take_no hno) h3
  rw [← e] at h
  exact h

theorem SplitRel.skip {w wr : World} {ps : List Pc} {k frm : Nat} {rv : Value} (hk : k < ps.length) (hf : frm ≤ k) {vs : List Value} {done : List (List Pc)}
    (hown : wr.ownsRow w.heap.size 128 1 rv vs.length vs) (hra : RunsAt w vs done) (hvk : vs.length ≤ k) (hB : Below w.heap.size w wr)
    (hruns : runs ps = done ++ runs (ps.drop frm)) (hno : ∀ j (h : j < ps.length), frm ≤ j → j < k → ps[j].kind ≠ 3) (h3 : ps[k].kind ≠ 3) (o : Obj) :
    SplitRel w (wr.alloc o) ps (k + 1) rv frm :=
  ⟨hk, by omega, vs, done, hown.alloc o, hra, by omega, hB.alloc hB.size o, hruns, fun j h h1 h2 => by
    by_cases e : j = k
    · subst e; exact h3
    · exact hno j h h1 (by omega)⟩

theorem SplitRel.star {w wr w1 : World} {g off cap : Nat} {ps : List Pc} {k frm : Nat} {rv v' : Value} (hcap : ps.length ≤ cap) (hcm : cap ≤ 9223372036854775807)
    (hp : ∀ j (h : j < ps.length), PcAt w g (off + j * 6) ps[j]) (hk : k < ps.length) (hf : frm ≤ k) {vs : List Value} {done : List (List Pc)}
    (hown : wr.ownsRow w.heap.size 128 1 rv vs.length vs) (hra : RunsAt w vs done) (hvk : vs.length ≤ k) (hB : Below w.heap.size w wr)
    (hruns : runs ps = done ++ runs (ps.drop frm)) (hno : ∀ j (h : j < ps.length), frm ≤ j → j < k → ps[j].kind ≠ 3) (h3 : ps[k].kind = 3) (o o2 : Obj)
    (hown' : w1.ownsRow w.heap.size 128 1 v' (vs.length + 1) (vs ++ [.slice (some ⟨g, off + frm * 6, none⟩) (k - frm) (cap - frm)]))
    (hg : ((wr.alloc o).alloc o2).grownBy w1 rv.ownBlock) : SplitRel w w1 ps (k + 1) v' (k + 1) := by
  refine ⟨hk, Nat.le_refl _, vs ++ [.slice (some ⟨g, off + frm * 6, none⟩) (k - frm) (cap - frm)], done ++ [(ps.drop frm).take (k - frm)], by simpa using hown', hra.snoc (sub_sl hcap hcm hp hf (by omega)), by simp; omega, ?_, ?_, fun j h h1 h2 => by omega⟩
  · have hs := hB.size
    exact ((hB.alloc hs o).alloc (by simp; omega) o2).grown hg (by simp; omega) (fun j hj => (hown.lt j hj).1)
  · rw [hruns, runs_at_star hf hk h3 hno]; simp

theorem SplitPost.fin {w wr w1 : World} {ps : List Pc} {frm : Nat} {rv v' sv : Value} (hsv : Sl w sv (ps.drop frm)) {vs : List Value} {done : List (List Pc)} {k : Nat} (hk : ps.length ≤ k)
    (hown : wr.ownsRow w.heap.size 128 1 rv vs.length vs) (hra : RunsAt w vs done) (hB : Below w.heap.size w wr)
    (hruns : runs ps = done ++ runs (ps.drop frm)) (hno : ∀ j (h : j < ps.length), frm ≤ j → j < k → ps[j].kind ≠ 3) (o : Obj)
    (hown' : w1.ownsRow w.heap.size 128 1 v' (vs.length + 1) (vs ++ [sv])) (hg : (wr.alloc o).grownBy w1 rv.ownBlock) : SplitPost w ps (.returned v') w1 := by
  refine ⟨v', vs ++ [sv], rfl, by simpa using hown', ?_, ?_⟩
  · have e : runs (ps.drop frm) = [ps.drop frm] := by
      refine runs_none _ (fun p hp => ?_)
      obtain ⟨j, hj, rfl⟩ := List.mem_iff_getElem.1 hp
      have hl : frm + j < ps.length := by simp at hj; omega
      have := hno (frm + j) hl (by omega) (by omega)
      simpa using this
    rw [hruns, e]
    exact hra.snoc hsv
  · have hs := hB.size
    exact (hB.alloc hs o).grown hg (by simp; omega) (fun j hj => (hown.lt j hj).1)

theorem last_sl {w : World} {g off cap : Nat} {ps : List Pc} {frm : Nat} (hcap : ps.length ≤ cap) (hcm : cap ≤ 9223372036854775807)
    (hp : ∀ j (h : j < ps.length), PcAt w g (off + j * 6) ps[j]) (hf : frm ≤ ps.length) :
    Sl w (.slice (some ⟨g, off + frm * 6, none⟩) (ps.length - frm) (cap - frm)) (ps.drop frm) := by
  have := sub_sl hcap hcm hp hf (Nat.le_refl _)
  rwa [show (ps.drop frm).take (ps.length - frm) = ps.drop frm from List.take_of_length_le (by simp)] at this

set_option maxRecDepth 100000 in
set_option maxHeartbeats 2000000 in
theorem split_some (g off cap : Nat) (ps : List Pc) (w : World) (hcap : ps.length ≤ cap) (hcm : cap ≤ 9223372036854775807) (hlen : ps.length ≤ 100000) (hp : ∀ j (h : j < ps.length), PcAt w g (off + j * 6) ps[j]) :
    Calls Tryz.prog 190 #[.slice (some ⟨g, off, none⟩) ps.length cap] w (SplitPost w ps) := by
  obtain ⟨i0, hi, hz0, hz1, hz2⟩ := info_parts info128
  have HP := Lib.hid hp
  clear hp
  go_enter Tryz.func190, Tryz.ntmps190
  go_wp2
  go_loopw [3, 4, 9] (fun a b c wr => ∃ k frm : Nat, c = .int .i64 k ∧ b = .int .i64 frm ∧ SplitRel w wr ps k a frm) (fun _ _ c _ => ps.length - (intOf c).toNat)
  case atStart => exact ⟨0, 0, rfl, rfl, Nat.zero_le _, Nat.le_refl _, [], [], World.ownsRow_nil _ _ _ _, ⟨rfl, fun i h => by simp at h⟩, Nat.zero_le _, Below.refl _ _, rfl, fun j h h1 h2 => by omega⟩
  case round =>
    obtain ⟨k, frm, rfl, rfl, hk, hfk, vs, done, hown, hra, hvk, hB, hruns, hno⟩ := hrel
    have HRA := Lib.hid hra
    have HRU := Lib.hid hruns
    have HNO := Lib.hid hno
    clear hra hruns hno
    by_cases hlt : k < ps.length
    · have hpk := HP.out k hlt
      have hgl : g < w.heap.size := World.block_lt_of_cell? w _ hpk.c0
      have c0 := (hB.cell (p := ⟨g, off + k * 6, none⟩) hgl).trans hpk.c0
      have c1 := (hB.cell (p := ⟨g, off + k * 6 + 1, none⟩) hgl).trans hpk.c1
      have c2 := (hB.cell (p := ⟨g, off + k * 6 + 2, none⟩) hgl).trans (hpk.c2 0 (by decide))
      have c3 := (hB.cell (p := ⟨g, off + k * 6 + 3, none⟩) hgl).trans (hpk.c2 1 (by decide))
      have c4 := (hB.cell (p := ⟨g, off + k * 6 + 4, none⟩) hgl).trans (hpk.c2 2 (by decide))
      have c5 := (hB.cell (p := ⟨g, off + k * 6 + 5, none⟩) hgl).trans (hpk.c2 3 (by decide))
      by_cases h3 : ps[k].kind = 3
      · have h3' : ((ps[k].kind : Int) == 3) = true := by simp [h3]
        have H3 := Lib.hid h3
        clear h3
        go_wp2_with (at_builtin; refine wpList_append_own _ rfl _ _ 214 rfl w.heap.size 128 i0 (.slice none 0 0) 1 24 Tryz.underlying214 hi hz0 hz1 hz2 rfl (by decide) _ _ _ rfl ((hown.alloc _).alloc _) ⟨wr.heap.size + 1, 0, none⟩ 1 1 [.slice (some ⟨g, off + frm * 6, none⟩) (k - frm) (cap - frm)] rfl rfl ?c1 ?c2 ?c3 ?c4 ?c5 ?_)
        case c1 =>
          intro j u hj
          match j, hj with
          | 0, hj => simp at hj; subst hj; simp [Addr.add]
        case c2 => intro u hu; simp at hu; subst hu; rfl
        case c3 => unfold maxLen; omega
        case c4 => omega
        case c5 => have := hB.size; simp; omega
        intro v' w1 hown' hgrow _
        have HR := Lib.hid (SplitRel.star hcap hcm HP.out hlt hfk hown HRA.out hvk hB HRU.out HNO.out H3.out _ _ hown' hgrow)
        clear hown' hgrow
        go_wp2
        go_roundw
        case rel => exact ⟨k + 1, k + 1, by go_num, by go_num, HR.out⟩
        case measure => simp [intOf]; omega
      · have h3' : ((ps[k].kind : Int) == 3) = false := by rw [beq_eq_false_iff_ne]; omega
        have H3 := Lib.hid h3
        clear h3
        go_wp2
        go_roundw
        case rel => exact ⟨k + 1, frm, by go_num, rfl, SplitRel.skip hlt hfk hown HRA.out hvk hB HRU.out HNO.out H3.out _⟩
        case measure => simp [intOf]; omega
    · by_cases hcf : cap = frm
      · have HSV : Hid (Sl w (.slice (some ⟨g, off, none⟩) 0 0) (ps.drop frm)) := by
          have hd : ps.drop frm = [] := List.drop_eq_nil_of_le (by omega)
          rw [hd]
          exact ⟨_, 0, rfl, Nat.le_refl _, by unfold maxLen; omega, .inl rfl⟩
        subst hcf
        go_wp2_with (at_builtin; refine wpList_append_own _ rfl _ _ 214 rfl w.heap.size 128 i0 (.slice none 0 0) 1 24 Tryz.underlying214 hi hz0 hz1 hz2 rfl (by decide) _ _ _ rfl (hown.alloc _) ⟨wr.heap.size, 0, none⟩ 1 1 [.slice (some ⟨g, off, none⟩) 0 0] rfl rfl ?c1 ?c2 ?c3 ?c4 ?c5 ?_)
        case c1 =>
          intro j u hj
          match j, hj with
          | 0, hj => simp at hj; subst hj; simp [Addr.add]
        case c2 => intro u hu; simp at hu; subst hu; rfl
        case c3 => unfold maxLen; omega
        case c4 => omega
        case c5 => have := hB.size; simp; omega
        intro v' w1 hown' hgrow _
        have HR := Lib.hid (SplitPost.fin HSV.out (by omega : ps.length ≤ k) hown HRA.out hB HRU.out HNO.out _ hown' hgrow)
        clear hown' hgrow
        go_wp2
        go_ret
        exact HR.out
      · have hcf' : ((cap : Int) == frm) = false := by rw [beq_eq_false_iff_ne]; omega
        have HSV := Lib.hid (last_sl hcap hcm HP.out (by omega : frm ≤ ps.length))
        go_wp2_with (at_builtin; refine wpList_append_own _ rfl _ _ 214 rfl w.heap.size 128 i0 (.slice none 0 0) 1 24 Tryz.underlying214 hi hz0 hz1 hz2 rfl (by decide) _ _ _ rfl (hown.alloc _) ⟨wr.heap.size, 0, none⟩ 1 1 [.slice (some ⟨g, off + frm * 6, none⟩) (ps.length - frm) (cap - frm)] rfl rfl ?c1 ?c2 ?c3 ?c4 ?c5 ?_)
        case c1 =>
          intro j u hj
          match j, hj with
          | 0, hj => simp at hj; subst hj; simp [Addr.add]
        case c2 => intro u hu; simp at hu; subst hu; rfl
        case c3 => unfold maxLen; omega
        case c4 => omega
        case c5 => have := hB.size; simp; omega
        intro v' w1 hown' hgrow _
        have HR := Lib.hid (SplitPost.fin HSV.out (by omega : ps.length ≤ k) hown HRA.out hB HRU.out HNO.out _ hown' hgrow)
        clear hown' hgrow
        go_wp2
        go_ret
        exact HR.out

set_option maxRecDepth 100000 in
set_option maxHeartbeats 2000000 in
theorem split_nil (a : Option Addr) (cap : Nat) (w : World) (hcap : cap ≤ maxLen) :
    Calls Tryz.prog 190 #[.slice a 0 cap] w (SplitPost w []) := by
  obtain ⟨i0, hi, hz0, hz1, hz2⟩ := info_parts info128
  go_enter Tryz.func190, Tryz.ntmps190
  go_wp2_with fail
  refine wp_loop_rounds 1 ?_
  rw [rounds_succ]
  go_wp2_with (at_builtin; refine wpList_append_own _ rfl _ _ 214 rfl w.heap.size 128 i0 (.slice none 0 0) 1 24 Tryz.underlying214 hi hz0 hz1 hz2 rfl (by decide) _ _ _ rfl (World.ownsRow_nil _ _ _ _) ⟨w.heap.size, 0, none⟩ 1 1 [.slice a 0 cap] rfl rfl ?c1 ?c2 ?c3 ?c4 ?c5 ?_)
  case c1 =>
    intro j u hj
    match j, hj with
    | 0, hj => simp at hj; subst hj; simp [Addr.add]
  case c2 => intro u hu; simp at hu; subst hu; rfl
  case c3 => unfold maxLen; omega
  case c4 => omega
  case c5 => simp
  intro v' w1 hown' hgrow _
  have HR : Hid (SplitPost w [] (.returned v') w1) :=
    ⟨v', [.slice a 0 cap], rfl, by simpa using hown', RunsAt.snoc (vs := []) (rs := []) ⟨rfl, fun i h => by simp at h⟩ ⟨a, cap, rfl, Nat.zero_le _, hcap, .inl rfl⟩, ((Below.refl _ _).alloc (Nat.le_refl _) _).grown hgrow (by simp) (fun j hj => by simp [Value.ownBlock] at hj)⟩
  clear hown' hgrow
  go_wp2
  go_ret
  exact HR.out

theorem split_any (v : Value) (ps : List Pc) (w : World) (hlen : ps.length ≤ 100000) (h : Sl w v ps) : Calls Tryz.prog 190 #[v] w (SplitPost w ps) := by
  obtain ⟨a, cap, rfl, hcap, hcm, hc⟩ := h
  rcases hc with rfl | ⟨g, off, rfl, hp⟩
  · exact split_nil a cap w hcm
  · unfold maxLen at hcm
    exact split_some g off cap ps w hcap hcm hlen hp
end Go.Proofs.YtcmjpkfinbakkaaGreatDoor.Gb

namespace Go.Proofs.YtcmjpkfinbakkaaGreatDoor.Gb
open Go.RowKit

theorem PcAt.below {w w' : World} {g off : Nat} {p : Pc} (h : PcAt w g off p) (hB : Below w.heap.size w w') : PcAt w' g off p := by
  have hgl : g < w.heap.size := World.block_lt_of_cell? w _ h.c0
  exact ⟨(hB.cell hgl).trans h.c0, (hB.cell hgl).trans h.c1, fun q hq => (hB.cell hgl).trans (h.c2 q hq), h.lt⟩

theorem Sl.below {w w' : World} {v : Value} {ps : List Pc} (h : Sl w v ps) (hB : Below w.heap.size w w') : Sl w' v ps := by
  obtain ⟨a, cap, rfl, h1, h2, h3⟩ := h
  refine ⟨a, cap, rfl, h1, h2, ?_⟩
  rcases h3 with h3 | ⟨g, off, rfl, hp⟩
  · exact .inl h3
  · exact .inr ⟨g, off, rfl, fun j hj => (hp j hj).below hB⟩

theorem Sl.drewN {w : World} {v : Value} {ps : List Pc} (h : Sl w v ps) (n : Nat) : Sl (w.drewN n) v ps := by
  obtain ⟨a, cap, rfl, h1, h2, h3⟩ := h
  refine ⟨a, cap, rfl, h1, h2, ?_⟩
  rcases h3 with h3 | ⟨g, off, rfl, hp⟩
  · exact .inl h3
  · exact .inr ⟨g, off, rfl, fun j hj => (hp j hj).drewN n⟩

def findRun (s : ByteArray) (e : Nat) (r : List Pc) : Nat → Nat → Option Nat
  | 0, _ => none
  | f + 1, o => if o + r.length ≤ e then if fitsB s o r = true then some (o + r.length) else findRun s e r f (o + 1) else none

def mids (s : ByteArray) (e : Nat) : List (List Pc) → Nat → Bool
  | [], _ => true
  | r :: rs, o => match findRun s e r (e + 1 - o) o with
    | none => false
    | some o' => mids s e rs o'

def hd (rs : List (List Pc)) : List Pc := rs.getD 0 []
def tl (rs : List (List Pc)) : List Pc := rs.getD (rs.length - 1) []

/-- What match answers. -/
def gm (s : ByteArray) (ps : List Pc) : Bool :=
  if (runs ps).length = 1 then decide ((hd (runs ps)).length = s.size) && fitsB s 0 (hd (runs ps))
  else if (hd (runs ps)).length + (tl (runs ps)).length ≤ s.size then
    fitsB s 0 (hd (runs ps)) && fitsB s (s.size - (tl (runs ps)).length) (tl (runs ps)) && mids s (s.size - (tl (runs ps)).length) (((runs ps).drop 1).take ((runs ps).length - 2)) (hd (runs ps)).length
  else false

theorem runs_len : ∀ (ps : List Pc), (runs ps).length ≤ ps.length + 1
  | [] => by simp [runs]
  | p :: ps => by
    have := runs_len ps
    rw [runs]
    split
    · simp; exact this
    · split
      · simp
      · next h => rw [h] at this; simp at this ⊢; omega

theorem runs_each : ∀ (ps : List Pc), ∀ r ∈ runs ps, r.length ≤ ps.length
  | [], r, h => by simp [runs] at h; simp [h]
  | p :: ps, r, h => by
    have ih := runs_each ps
    rw [runs] at h
    split at h
    · rcases List.mem_cons.1 h with rfl | h
      · simp
      · have := ih r h; simp; omega
    · split at h
      · simp at h; subst h; simp
      · next q qs hq =>
        rw [hq] at ih
        rcases List.mem_cons.1 h with rfl | h
        · have := ih q (by simp); simp; omega
        · have := ih r (by simp [h]); simp; omega

theorem runs_getD (ps : List Pc) (i : Nat) : ((runs ps).getD i []).length ≤ ps.length := by
  by_cases h : i < (runs ps).length
  · have := runs_each ps ((runs ps)[i]) (List.getElem_mem h)
    rw [List.getD_eq_getElem?_getD, List.getElem?_eq_getElem h]; exact this
  · rw [List.getD_eq_getElem?_getD, List.getElem?_eq_none (by omega)]; simp

theorem gb_extract (s : ByteArray) (o i : Nat) : gb (s.extract o s.size) i = gb s (o + i) := by
  unfold gb
  have : (s.extract o s.size).data.toList = s.data.toList.drop o := by
    rw [Lib.extract_data, List.take_of_length_le (by simp)]
  rw [this]; simp

theorem fitsB_extract (s : ByteArray) (o : Nat) : ∀ (r : List Pc) (i : Nat), fitsB (s.extract o s.size) i r = fitsB s (o + i) r
  | [], _ => rfl
  | p :: r, i => by rw [fitsB, fitsB, gb_extract, fitsB_extract s o r (i + 1)]; rfl

theorem mids_step {s : ByteArray} {e : Nat} {r : List Pc} {rs : List (List Pc)} {o : Nat} {M : Bool} {FR : Option Nat} (h : mids s e (r :: rs) o = M) (hf : findRun s e r (e + 1 - o) o = FR) :
    (FR = none → M = false) ∧ ∀ o', FR = some o' → mids s e rs o' = M := by
  rw [mids, hf] at h
  refine ⟨fun h0 => by rw [h0] at h; exact h.symm, fun o' h0 => by rw [h0] at h; exact h⟩

theorem findRun_no {s : ByteArray} {e : Nat} {r : List Pc} {o n : Nat} {FR : Option Nat} (h : findRun s e r n o = FR) (hc : ¬ o + r.length ≤ e) : FR = none := by
  cases n with
  | zero => exact h.symm
  | succ n => rw [findRun, if_neg hc] at h; exact h.symm

theorem findRun_hit {s : ByteArray} {e : Nat} {r : List Pc} {o : Nat} {FR : Option Nat} (h : findRun s e r (e + 1 - o) o = FR) (hc : o + r.length ≤ e) (hf : fitsB s o r = true) : FR = some (o + r.length) := by
  rw [show e + 1 - o = (e - o) + 1 from by omega, findRun, if_pos hc, if_pos hf] at h; exact h.symm

theorem findRun_miss {s : ByteArray} {e : Nat} {r : List Pc} {o : Nat} {FR : Option Nat} (h : findRun s e r (e + 1 - o) o = FR) (hc : o + r.length ≤ e) (hf : fitsB s o r = false) : findRun s e r (e + 1 - (o + 1)) (o + 1) = FR := by
  rw [show e + 1 - o = (e - o) + 1 from by omega, findRun, if_pos hc, if_neg (by simp [hf])] at h
  rw [show e + 1 - (o + 1) = e - o from by omega]; exact h

theorem mid_drop {rs : List (List Pc)} {k : Nat} (hk : k + 2 < rs.length) : ((rs.drop 1).take (rs.length - 2)).drop k = rs.getD (k + 1) [] :: ((rs.drop 1).take (rs.length - 2)).drop (k + 1) := by
  have hl : k < ((rs.drop 1).take (rs.length - 2)).length := by simp; omega
  rw [List.drop_eq_getElem_cons hl]
  congr 1
  simp only [List.getElem_take, List.getElem_drop]
  rw [List.getD_eq_getElem?_getD, List.getElem?_eq_getElem (by omega)]
  simp [Nat.add_comm]

set_option maxRecDepth 100000 in
set_option maxHeartbeats 4000000 in
theorem match_core (v : Value) (ps : List Pc) (s : ByteArray) (w : World) (hs : s.size ≤ 100000) (hlen : ps.length ≤ 100000) (h : Sl w v ps) (F : Bool) (HF : Hid (F = gm s ps)) :
    Calls Tryz.prog 133 #[v, .string s] w fun e w' => e = .returned (.bool F) ∧ Below w.heap.size w w' := by
  have HSL := Lib.hid h
  obtain ⟨a, cap, rfl, hx⟩ := h
  clear hx
  go_enter Tryz.func133, Tryz.ntmps133
  go_wp2_with fail
  go_step3
  go_wp2_with fail
  refine (split_any _ ps _ hlen HSL.out).mono ?_
  rintro e w1 ⟨rv, vs, rfl, hown, hra, hB⟩
  obtain ⟨rs, hrs⟩ : ∃ rs, rs = runs ps := ⟨_, rfl⟩
  rw [← hrs] at hra
  have hpos : 0 < rs.length := by rw [hrs]; exact List.length_pos_iff.2 (runs_ne ps)
  obtain ⟨hvl, hsl⟩ := hra
  rcases hown.2 with ⟨rfl, h0⟩ | ⟨gr, cap, cur, rfl, hgr, hcur, hncap, hcapm, hcs, htk⟩
  · omega
  · have hcells : ∀ i, i < rs.length → w1.cell? ⟨gr, i, none⟩ = some (vs.getD i nilV) := by
      intro i hi
      have hc := World.ownsRow.cells hown (g := gr) rfl i (vs.getD i nilV) (by rw [List.getD_eq_getElem?_getD, List.getElem?_eq_getElem (by omega)]; rfl)
      simpa [Addr.add_lit] using hc
    have hc0 := hcells 0 hpos
    have hcl := hcells (rs.length - 1) (by omega)
    have hs0 := hsl 0 hpos
    have hsL := hsl (rs.length - 1) (by omega)
    have HC := Lib.hid hcells
    have HS := Lib.hid hsl
    clear hcells hsl htk hown
    obtain ⟨a0, cap0, hv0, hx0⟩ := id hs0
    obtain ⟨aL, capL, hvL, hxL⟩ := id hsL
    rw [hv0] at hc0 hs0
    rw [hvL] at hcl hsL
    have H0 := Lib.hid hs0
    have HL := Lib.hid hsL
    clear hv0 hvL hs0 hsL hcur hx0 hxL
    have hhlen : (rs.getD 0 []).length ≤ 100000 := by rw [hrs]; exact Nat.le_trans (runs_getD ps _) hlen
    have htlen : (rs.getD (rs.length - 1) []).length ≤ 100000 := by rw [hrs]; exact Nat.le_trans (runs_getD ps _) hlen
    have HLEN : Hid (∀ i, (rs.getD i []).length ≤ 100000) := by rw [hrs]; exact fun i => Nat.le_trans (runs_getD ps i) hlen
    have hrl : rs.length ≤ 100001 := by rw [hrs]; exact Nat.le_trans (runs_len ps) (by omega)
    rw [hvl]
    generalize hhd : rs.getD 0 [] = head at *
    generalize htl : rs.getD (rs.length - 1) [] = tail at *
    obtain ⟨m, hm⟩ : ∃ m, rs.length - 1 = m := ⟨_, rfl⟩
    rw [hm] at hcl htl
    have hw1 : IntKind.i64.wrap ((rs.length : Int) - 1) = (m : Int) := by rw [IntWalk.i64_in _ (by omega)]; omega
    have hml : m < rs.length := by omega
    have hmi : (m : Int) < (rs.length : Int) := by omega
    have hm0 : (0 : Int) ≤ (m : Int) := by omega
    have hp0 : (0 : Int) < (rs.length : Int) := by omega
    have hw2 : (rs.length : Int) - 1 = (m : Int) := by omega
    have HM := Lib.hid hm
    have HRS := Lib.hid hrs
    have HHD := Lib.hid hhd
    have HTL := Lib.hid htl
    have HVL := Lib.hid hvl
    clear hrs hhd htl hvl hm
    go_wp2_with fail
    go_quiet (fail)
    clear hw1
    by_cases h1 : rs.length = 1
    · have h1' : ((rs.length : Int) == 1) = true := by simp [h1]
      have HG : Hid (gm s ps = (decide (head.length = s.size) && fitsB s 0 head)) := by
        unfold Hid gm hd
        rw [← HRS.out, if_pos h1, HHD.out]
      clear h1
      by_cases hl : head.length = s.size
      · have hl' : ((head.length : Int) == s.size) = true := by simp [hl]
        have HLL := Lib.hid hl
        have hle : head.length ≤ s.size := by omega
        clear hl
        go_wp2_with (go_at_call 191; refine (fits_any _ head s _ hs hle ((H0.out.below hB).drewN _)).mono ?_; rintro e w' ⟨rfl, n, rfl⟩)
        rw [Exit.noGoto_ret]
        go_ret
        refine ⟨?_, below_drewN hB _⟩
        rw [HF.out, HG.out, HLL.out]; simp
      · have hl' : ((head.length : Int) == s.size) = false := by rw [beq_eq_false_iff_ne]; omega
        have HLL := Lib.hid hl
        clear hl
        go_wp2_with fail
        rw [Exit.noGoto_ret]
        go_ret
        refine ⟨?_, below_drewN hB _⟩
        rw [HF.out, HG.out]; simp [HLL.out]
    · have h1' : ((rs.length : Int) == 1) = false := by rw [beq_eq_false_iff_ne]; omega
      have HG : Hid (gm s ps = if head.length + tail.length ≤ s.size then
          fitsB s 0 head && fitsB s (s.size - tail.length) tail && mids s (s.size - tail.length) ((rs.drop 1).take (rs.length - 2)) head.length else false) := by
        unfold Hid gm hd tl
        rw [← HRS.out, if_neg h1, HHD.out, HM.out, HTL.out]
      have h2 : 2 ≤ rs.length := by omega
      clear h1
      by_cases hfit : head.length + tail.length ≤ s.size
      · obtain ⟨e, he⟩ : ∃ e, s.size - tail.length = e := ⟨_, rfl⟩
        have heI : (s.size : Int) - (tail.length : Int) = (e : Int) := by omega
        have HE := Lib.hid he
        have HG2 := Lib.hid HG.out
        rw [if_pos hfit, he] at HG
        have hle : head.length ≤ s.size := by omega
        have hhe : head.length ≤ e := by omega
        have hes : e ≤ s.size := by omega
        have hdc : decide (e < head.length) = false := by simp; omega
        have hdi : decide ((e : Int) < (head.length : Int)) = false := by simp; omega
        clear HG2 he hfit
        cases hf1 : fitsB s 0 head
        · have HF1 := Lib.hid hf1
          go_wp2_with (go_at_call 191; refine (fits_any _ head s _ hs hle ((H0.out.below hB).drewN _)).mono ?_; rintro e w' ⟨rfl, n, rfl⟩)
          rw [Exit.noGoto_ret]
          go_ret
          refine ⟨?_, below_drewN hB _⟩
          rw [HF.out, HG.out, HF1.out]; rfl
        · have hxs : (s.extract e s.size).size = s.size - e := by simp
          have HXS := Lib.hid hxs
          clear hxs
          have HHT : Hid (tail.length = s.size - e) := by unfold Hid; rw [← HE.out]; omega
          have hfx := fitsB_extract s e tail 0
          rw [Nat.add_zero] at hfx
          cases hf2 : fitsB s e tail
          · rw [hf2] at hfx
            have HF2 := Lib.hid hf2
            have HF1 := Lib.hid hf1
            clear hf2
            go_wp2_with fail
            refine (fits_any _ head s _ hs hle ((H0.out.below hB).drewN _)).mono ?_
            rintro e' w' ⟨rfl, n, rfl⟩
            go_wp2_with fail
            refine (fits_any _ tail (s.extract e s.size) _ (by rw [HXS.out]; omega) (by rw [HXS.out, HHT.out]; omega) ((HL.out.below hB).drewN _)).mono ?_
            rintro e' w' ⟨rfl, n', rfl⟩
            go_wp2_with fail
            rw [Exit.noGoto_ret]
            go_ret
            refine ⟨?_, below_drewN hB _⟩
            rw [HF.out, HG.out, HF1.out, HF2.out]; rfl
          · rw [hf2] at hfx
            have HF2 := Lib.hid hf2
            have HF1 := Lib.hid hf1
            clear hf2
            go_wp2_with fail
            refine (fits_any _ head s _ hs hle ((H0.out.below hB).drewN _)).mono ?_
            rintro e' w' ⟨rfl, n, rfl⟩
            go_wp2_with fail
            refine (fits_any _ tail (s.extract e s.size) _ (by rw [HXS.out]; omega) (by rw [HXS.out, HHT.out]; omega) ((HL.out.below hB).drewN _)).mono ?_
            rintro e' w' ⟨rfl, n', rfl⟩
            have hm1 : 1 ≤ m := by have := HM.out; omega
            have hcap2 : rs.length ≤ cap := by have := HVL.out; omega
            have hcap1 : ((cap : Int) == 1) = false := by rw [beq_eq_false_iff_ne]; omega
            go_wp2_with fail
            go_step3
            go_wp2_with fail
            obtain ⟨q, hq⟩ : ∃ q, m - 1 = q := ⟨_, rfl⟩
            rw [hq]
            have HQ : Hid (rs.length = q + 2) := by unfold Hid; have := HM.out; omega
            have hqle : q ≤ 100000 := by have := HQ.out; omega
            obtain ⟨M, hM⟩ : ∃ M, mids s e ((rs.drop 1).take (rs.length - 2)) head.length = M := ⟨_, rfl⟩
            have HFM : Hid (F = M) := by unfold Hid; rw [HF.out, HG.out, HF1.out, HF2.out, hM]; rfl
            have HMM := Lib.hid hM
            clear hM hq hf1 hfx HF HG HRS
            go_loopg [9, 67] q (fun g s9 s67 wx => ∃ (k o nn : Nat), k + g = q ∧ s67 = .int .i64 k ∧ s9 = .int .i64 o ∧ o ≤ e ∧ wx = w1.drewN nn ∧ Hid (mids s e (((rs.drop 1).take (rs.length - 2)).drop k) o = M))
            case atStart => exact ⟨0, head.length, _, by omega, rfl, rfl, hhe, rfl, HMM.out⟩
            case round =>
              obtain ⟨k, o, nn, hkg, rfl, rfl, hoe, rfl, HK⟩ := hrel
              cases gk with
              | zero =>
                have hkz : ¬ ((k : Int) < (q : Int)) := by omega
                have HMT : Hid (M = true) := by
                  have := HK.out
                  rw [List.drop_eq_nil_of_le (by have := HQ.out; simp; omega)] at this
                  exact this.symm
                go_wp2_with fail
                try rw [Exit.noGoto_ret]
                go_ret
                refine ⟨?_, below_drewN hB _⟩
                rw [HFM.out, HMT.out]; rfl
              | succ g =>
                have hkq : (k : Int) < (q : Int) := by omega
                have hkn : k < q := by omega
                have hck := HC.out (k + 1) (by have := HQ.out; omega)
                have hsk := HS.out (k + 1) (by have := HQ.out; omega)
                have hrlen : (rs.getD (k + 1) []).length ≤ 100000 := HLEN.out (k + 1)
                have HKD := HK.out
                rw [mid_drop (by have := HQ.out; omega)] at HKD
                generalize rs.getD (k + 1) [] = r at *
                obtain ⟨ar, capr, hvr, hxr⟩ := id hsk
                rw [hvr] at hck hsk
                have HSK := Lib.hid hsk
                clear hsk hvr hxr HK
                rw [show k + 1 = 1 + k from Nat.add_comm _ _] at hck
                obtain ⟨FR, hFR⟩ : ∃ FR, findRun s e r (e + 1 - o) o = FR := ⟨_, rfl⟩
                have HST := Lib.hid (mids_step HKD hFR)
                have HFR := Lib.hid hFR
                clear HKD hFR
                go_wp2_with fail
                go_loopg [9] (e + 1 - o) (fun g2 s9 wx => ∃ (o' nn' : Nat), g2 = e + 1 - o' ∧ s9 = .int .i64 o' ∧ o' ≤ e + 1 ∧ wx = w1.drewN nn' ∧ Hid (findRun s e r (e + 1 - o') o' = FR))
                case atStart => exact ⟨o, nn, rfl, rfl, by omega, rfl, HFR.out⟩
                case round =>
                  obtain ⟨o', nn', hg2, rfl, ho', rfl, HFR'⟩ := hrel
                  have HG2 := Lib.hid hg2
                  clear hg2
                  by_cases hc : o' + r.length ≤ e
                  · have hcI : (o' : Int) + (r.length : Int) ≤ (e : Int) := by omega
                    have ho's : o' ≤ s.size := by omega
                    have hxs : (s.extract o' s.size).size = s.size - o' := by simp
                    have HXS' := Lib.hid hxs
                    clear hxs
                    have hfx := fitsB_extract s o' r 0
                    rw [Nat.add_zero] at hfx
                    cases hf : fitsB s o' r
                    · rw [hf] at hfx
                      have HFB := Lib.hid hf
                      clear hf
                      go_wp2_with fail
                      refine (fits_any _ r (s.extract o' s.size) _ (by rw [HXS'.out]; omega) (by rw [HXS'.out]; omega) ((HSK.out.below hB).drewN _)).mono ?_
                      rintro e' w' ⟨rfl, n2, rfl⟩
                      go_wp2_with fail
                      go_roundg (e + 1 - (o' + 1))
                      case measure => have := HG2.out; omega
                      case rel => exact ⟨o' + 1, _, rfl, by go_num, by omega, rfl, findRun_miss HFR'.out hc HFB.out⟩
                    · rw [hf] at hfx
                      have HFB := Lib.hid hf
                      clear hf
                      go_wp2_with fail
                      refine (fits_any _ r (s.extract o' s.size) _ (by rw [HXS'.out]; omega) (by rw [HXS'.out]; omega) ((HSK.out.below hB).drewN _)).mono ?_
                      rintro e' w' ⟨rfl, n2, rfl⟩
                      go_wp2_with fail
                      go_roundg g
                      case measure => omega
                      case rel => exact ⟨k + 1, o' + r.length, _, by omega, by go_num, by go_num, by omega, rfl, HST.out.2 _ (findRun_hit HFR'.out hc HFB.out)⟩
                  · have hcI : (e : Int) < (o' : Int) + (r.length : Int) := by omega
                    have HMF : Hid (M = false) := HST.out.1 (findRun_no HFR'.out hc)
                    clear hc
                    go_wp2_with fail
                    try rw [Exit.noGoto_ret]
                    go_ret
                    refine ⟨?_, below_drewN hB _⟩
                    rw [HFM.out, HMF.out]; rfl
      · have hfit' : (s.size : Int) - (tail.length : Int) < (head.length : Int) := by omega
        rw [if_neg hfit] at HG
        clear hfit
        go_wp2_with fail
        rw [Exit.noGoto_ret]
        go_ret
        refine ⟨?_, below_drewN hB _⟩
        rw [HF.out, HG.out]; rfl
end Go.Proofs.YtcmjpkfinbakkaaGreatDoor.Gb
