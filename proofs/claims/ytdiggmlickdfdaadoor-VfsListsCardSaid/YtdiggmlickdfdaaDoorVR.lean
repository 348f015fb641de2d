import Derived.Test.YtdiggmlickdfdaaDoorVP
namespace Go.Proofs.YtdiggmlickdfdaaDoor
open Go.RowKit Go.Maps Go.ChangeMaps
set_option linter.unusedVariables false
section
variable {f : Nat} {p : ByteArray} {w : World} {B N : Nat} {tl : List Value} {T : Tr} {A : Pth → Nat} {M : Pth → Option Nat} {V : Pth → Value} {r0 : Nd}
theorem present_err (hT : TreeAt w B N f 49 tl T A M V) (h0 : T [] = some r0) (hr0 : r0.file = false) (hp : PathOk p) (hE : presE T p ≠ 0) :
    Calls Tryd.prog 24 #[.pointer (some ⟨f, 0, none⟩), .string p] w fun e w' => (∃ a b c d l, e = .returned (.tuple #[.agg #[.pointer a, .string b, .pointer none, .slice c l d], .int .i64 (presE T p)])) ∧ Below w.heap.size w w' := by
  by_cases h : findE T p = 0
  · cases hx : T (findL p) with
    | some n => exact absurd (by rw [presE, if_neg (fun e => e h), hx]; rfl) hE
    | none =>
      have : presE T p = 6 := by rw [presE, if_neg (fun e => e h), hx]; rfl
      rw [this]
      exact present_none hT h0 hr0 hp h hx
  · have : presE T p = findE T p := by rw [presE, if_pos h]
    rw [this]
    refine (present_bad1 hT h0 hr0 hp h).mono ?_
    rintro e w' ⟨rfl, h2⟩
    exact ⟨⟨none, ⟨#[]⟩, none, 0, 0, rfl⟩, h2⟩
theorem present_ok {n : Nd} (hT : TreeAt w B N f 49 tl T A M V) (h0 : T [] = some r0) (hr0 : r0.file = false) (hp : PathOk p) (hE : findE T p = 0) (hn : T (findL p) = some n) :
    Calls Tryd.prog 24 #[.pointer (some ⟨f, 0, none⟩), .string p] w fun e w' => (∃ a b c d l, e = .returned (.tuple #[.agg #[.pointer a, .string b, .pointer (some ⟨A (findL p), 0, none⟩), .slice c l d], .int .i64 0])) ∧ Below w.heap.size w w' := by
  rcases List.eq_nil_or_concat (findL p) with hL | ⟨d, k, hL⟩
  · refine (present_root hT h0 hr0 hp hE hL).mono ?_
    rintro e w' ⟨rfl, h2⟩
    rw [hL, hT.a0]
    exact ⟨⟨none, ⟨#[]⟩, none, 0, 0, rfl⟩, h2⟩
  · have hL : findL p = d ++ [k] := by rw [hL]; simp
    rw [hL] at hn
    refine (present_good hT h0 hr0 hp hE hL hn).mono ?_
    rintro e w' ⟨⟨g, c, l, rfl⟩, h2⟩
    rw [hL]
    exact ⟨⟨_, _, _, _, _, rfl⟩, h2⟩
set_option maxRecDepth 100000 in
set_option maxHeartbeats 4000000 in
theorem List_err (hT : TreeAt w B N f 49 tl T A M V) (h0 : T [] = some r0) (hr0 : r0.file = false) (hp : PathOk p) (hE : presE T p ≠ 0) :
    Calls Tryd.prog 10 #[.pointer (some ⟨f, 0, none⟩), .string p] w fun e w' => e = .returned (.tuple #[.slice none 0 0, .int .i64 (presE T p)]) ∧ Below w.heap.size w w' := by
  have HB := Lib.hid (present_err hT h0 hr0 hp hE)
  obtain ⟨er, her⟩ : ∃ er, presE T p = er := ⟨_, rfl⟩
  rw [her] at HB hE ⊢
  have hne : (er != 0) = true := by simpa using hE
  clear hT h0 hr0 hp hE her
  go_enter Tryd.func10, Tryd.ntmps10
  go_wp2_with (go_at_call 24; refine HB.out.mono ?_; rintro e w1 ⟨⟨a, b, c, d, l, rfl⟩, h1⟩; have H1 := Lib.hid h1; clear h1; simp only [])
  go_ret2
  exact ⟨rfl, H1.out.alloc H1.out.size _⟩
set_option maxRecDepth 100000 in
set_option maxHeartbeats 4000000 in
theorem Read_err (hT : TreeAt w B N f 49 tl T A M V) (h0 : T [] = some r0) (hr0 : r0.file = false) (hp : PathOk p) (hE : presE T p ≠ 0) :
    Calls Tryd.prog 9 #[.pointer (some ⟨f, 0, none⟩), .string p] w fun e w' => e = .returned (.tuple #[.slice none 0 0, .int .i64 (presE T p)]) ∧ Below w.heap.size w w' := by
  have HB := Lib.hid (present_err hT h0 hr0 hp hE)
  obtain ⟨er, her⟩ : ∃ er, presE T p = er := ⟨_, rfl⟩
  rw [her] at HB hE ⊢
  have hne : (er != 0) = true := by simpa using hE
  clear hT h0 hr0 hp hE her
  go_enter Tryd.func9, Tryd.ntmps9
  go_wp2_with (go_at_call 24; refine HB.out.mono ?_; rintro e w1 ⟨⟨a, b, c, d, l, rfl⟩, h1⟩; have H1 := Lib.hid h1; clear h1; simp only [])
  go_ret2
  exact ⟨rfl, H1.out.alloc H1.out.size _⟩
set_option maxRecDepth 100000 in
set_option maxHeartbeats 4000000 in
theorem List_file {n : Nd} (hT : TreeAt w B N f 49 tl T A M V) (h0 : T [] = some r0) (hr0 : r0.file = false) (hp : PathOk p) (hE : findE T p = 0) (hn : T (findL p) = some n) (hnf : n.file = true) :
    Calls Tryd.prog 10 #[.pointer (some ⟨f, 0, none⟩), .string p] w fun e w' => e = .returned (.tuple #[.slice none 0 0, .int .i64 11]) ∧ Below w.heap.size w w' := by
  have HB := Lib.hid (present_ok hT h0 hr0 hp hE hn)
  have HT := Lib.hid hT
  have HN := Lib.hid hn
  obtain ⟨L, hL⟩ : ∃ L, findL p = L := ⟨_, rfl⟩
  rw [hL] at HB HN
  clear hT h0 hr0 hp hE hn hL
  go_enter Tryd.func10, Tryd.ntmps10
  go_wp2_with (go_at_call 24; refine HB.out.mono ?_; rintro e w1 ⟨⟨a, b, c, d, l, rfl⟩, h1⟩; have H1 := Lib.hid h1; have h2 := (HT.out.only (X := fun _ => False) (Only.of_below (h1.alloc h1.size (.cells #[.pointer a, .string b, .pointer (some ⟨A L, 0, none⟩), .slice c l d] 52))) (fun _ h => h.elim)).blk _ n HN.out; have q0 : (w1.alloc (.cells #[.pointer a, .string b, .pointer (some ⟨A L, 0, none⟩), .slice c l d] 52)).cell? ⟨A L, 0, none⟩ = some (.bool n.file) := cell_of h2 0; rw [hnf] at q0; clear h1 h2; simp only [])
  go_ret2
  exact ⟨rfl, H1.out.alloc H1.out.size _⟩
set_option maxRecDepth 100000 in
set_option maxHeartbeats 4000000 in
theorem Read_dir {n : Nd} (hT : TreeAt w B N f 49 tl T A M V) (h0 : T [] = some r0) (hr0 : r0.file = false) (hp : PathOk p) (hE : findE T p = 0) (hn : T (findL p) = some n) (hnf : n.file = false) :
    Calls Tryd.prog 9 #[.pointer (some ⟨f, 0, none⟩), .string p] w fun e w' => e = .returned (.tuple #[.slice none 0 0, .int .i64 10]) ∧ Below w.heap.size w w' := by
  have HB := Lib.hid (present_ok hT h0 hr0 hp hE hn)
  have HT := Lib.hid hT
  have HN := Lib.hid hn
  obtain ⟨L, hL⟩ : ∃ L, findL p = L := ⟨_, rfl⟩
  rw [hL] at HB HN
  clear hT h0 hr0 hp hE hn hL
  go_enter Tryd.func9, Tryd.ntmps9
  go_wp2_with (go_at_call 24; refine HB.out.mono ?_; rintro e w1 ⟨⟨a, b, c, d, l, rfl⟩, h1⟩; have H1 := Lib.hid h1; have h2 := (HT.out.only (X := fun _ => False) (Only.of_below (h1.alloc h1.size (.cells #[.pointer a, .string b, .pointer (some ⟨A L, 0, none⟩), .slice c l d] 52))) (fun _ h => h.elim)).blk _ n HN.out; have q0 : (w1.alloc (.cells #[.pointer a, .string b, .pointer (some ⟨A L, 0, none⟩), .slice c l d] 52)).cell? ⟨A L, 0, none⟩ = some (.bool n.file) := cell_of h2 0; rw [hnf] at q0; clear h1 h2; simp only [])
  go_ret2
  exact ⟨rfl, H1.out.alloc H1.out.size _⟩
/-- What List answers at a directory. -/
def ListP (T : Tr) (L : Pth) (w : World) (e : Ending) (w' : World) : Prop :=
  ∃ (v : Value) (l : List Bz), e = .returned (.tuple #[v, .int .i64 0]) ∧ w'.ownsRow w.heap.size 9 1 v l.length (l.map encStr) ∧ Ris l ∧ (∀ x, x ∈ l ↔ (T (L ++ [x])).isSome = true) ∧ Below w.heap.size w w'
set_option maxRecDepth 100000 in
set_option maxHeartbeats 4000000 in
theorem List_dir {n : Nd} (hT : TreeAt w B N f 49 tl T A M V) (h0 : T [] = some r0) (hr0 : r0.file = false) (hp : PathOk p) (hE : findE T p = 0) (hn : T (findL p) = some n) (hnf : n.file = false) (hN : N ≤ 1000000) :
    Calls Tryd.prog 10 #[.pointer (some ⟨f, 0, none⟩), .string p] w (ListP T (findL p) w) := by
  have HB := Lib.hid (present_ok hT h0 hr0 hp hE hn)
  have HT := Lib.hid hT
  have HN := Lib.hid hn
  obtain ⟨L, hL⟩ : ∃ L, findL p = L := ⟨_, rfl⟩
  rw [hL] at HB HN ⊢
  obtain ⟨Q, hQ⟩ : ∃ Q, ListP T L w = Q := ⟨_, rfl⟩
  rw [hQ]
  have HQ := Lib.hid hQ
  have HNM := Lib.hid (fun (w : World) hc hk => names_any (A L) N (M L) (kidsOf T A L) w hc hk hN)
  clear hT h0 hr0 hp hE hn hL hQ
  go_enter Tryd.func10, Tryd.ntmps10
  go_wp2_with (first
    | (go_at_call 24; refine HB.out.mono ?_; rintro e w1 ⟨⟨a, b, c, d, l, rfl⟩, h1⟩; have H1 := Lib.hid h1; have h2 := (HT.out.only (X := fun _ => False) (Only.of_below (h1.alloc h1.size (.cells #[.pointer a, .string b, .pointer (some ⟨A L, 0, none⟩), .slice c l d] 52))) (fun _ h => h.elim)).blk _ n HN.out; have q0 : (w1.alloc (.cells #[.pointer a, .string b, .pointer (some ⟨A L, 0, none⟩), .slice c l d] 52)).cell? ⟨A L, 0, none⟩ = some (.bool n.file) := cell_of h2 0; rw [hnf] at q0; clear h1 h2; simp only [])
    | (go_at_call 26; have hT2 := HT.out.only (X := fun _ => False) (Only.of_below (H1.out.alloc H1.out.size (.cells #[.pointer a, .string b, .pointer (some ⟨A L, 0, none⟩), .slice c l d] 52))) (fun _ h => h.elim); refine (HNM.out _ (cell_of (hT2.blk _ n HN.out) 3) (hT2.kids _ n HN.out)).mono ?_; rintro e w2 ⟨v2, l2, rfl, hrow, hris, hmem, h2⟩; have HROW := Lib.hid hrow; have HRIS := Lib.hid hris; have HMEM := Lib.hid hmem; have H2 := Lib.hid h2; clear hT2 hrow hris hmem h2; simp only []))
  rw [← HQ.out]
  have hs1 := (H1.out.alloc H1.out.size (.cells #[.pointer a, .string b, .pointer (some ⟨A L, 0, none⟩), .slice c l d] 52))
  refine ⟨v2, l2, rfl, row9_base HROW.out hs1.size, HRIS.out, fun x => ?_, hs1.trans (H2.out.mono hs1.size)⟩
  rw [HMEM.out x]
  unfold kidsOf
  cases (T (L ++ [x])) <;> simp
end
end Go.Proofs.YtdiggmlickdfdaaDoor
