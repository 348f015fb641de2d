import Derived.Test.YtcmjpkfinbakkaaGreatDoorWVM
import Derived.Test.YtcmjpkfinbakkaaGreatDoorQM
import Derived.Test.YtcmjpkfinbakkaaGreatDoorZ
import Derived.Lib.Join
import Derived.Lib.SlBytesConst
import Derived.Lib.SmallJoins
import Derived.Test.YtcmjpkfinbakkaaGreatDoorWVL
import Derived.Test.YtcmjpkfinbakkaaGreatDoorQXN
namespace Go.Proofs.YtcmjpkfinbakkaaGreatDoor.Vf
set_option maxRecDepth 100000
open Go.RowKit Go.Maps Go.ChangeMaps
set_option linter.unusedVariables false
theorem clone_own {w : World} {B : Nat} {v : Value} {bs : Bz} (h : w.ownsRow B 5 1 v bs.length (u8s bs)) (hl : bs.length ≤ 1000000) :
    Calls Tryz.prog 65 #[v] w fun e w' => ∃ v', e = .returned v' ∧ w'.ownsRow w.heap.size 5 1 v' bs.length (u8s bs) ∧ Below w.heap.size w w' := by
  rcases h.2 with ⟨rfl, h0⟩ | ⟨g, cap, cur, rfl, h2, h3, h4, _⟩
  · refine (Tryz.bytes_Clone_nil 0 0 w).mono ?_
    rintro e w' ⟨rfl, rfl⟩
    have hbs : bs = [] := List.eq_nil_of_length_eq_zero h0
    subst hbs
    exact ⟨_, rfl, World.ownsRow_nil _ _ _ _, Below.refl _ _⟩
  · have hm : (bs.map (fun c => (c.toNat : Int))).map (Value.int .u8) = u8s bs := by
      rw [List.map_map]; rfl
    refine (Tryz.bytes_Clone_at ⟨g, 0, none⟩ bs.length cap (bs.map (fun c => (c.toNat : Int))) w (by simp) (by omega) (fun i hi => ?_)).mono ?_
    · refine h.cells (g := g) rfl i _ ?_
      rw [← hm, List.getElem?_map, List.getElem?_eq_getElem (by simpa using hi)]
      simp [hi]
    · rintro e w' ⟨v', rfl, k1, _, k2⟩
      rw [hm] at k1
      exact ⟨v', rfl, k1, k2⟩
section
variable {f : Nat} {p : ByteArray} {w : World} {B N : Nat} {tl : List Value} {T : Tr} {A : Pth → Nat} {M : Pth → Option Nat} {V : Pth → Value} {r0 : Nd}
set_option maxRecDepth 100000 in
set_option maxHeartbeats 4000000 in
theorem Read_file {n : Nd} (hT : TreeAt w B N f 71 tl T A M V) (h0 : T [] = some r0) (hr0 : r0.file = false) (hp : PathOk p) (hE : findE T p = 0) (hn : T (findL p) = some n) (hnf : n.file = true) (hl : n.data.length ≤ 1000000) :
    Calls Tryz.prog 24 #[.pointer (some ⟨f, 0, none⟩), .string p] w fun e w' => ∃ v', e = .returned (.tuple #[v', .int .i64 0]) ∧ w'.ownsRow w.heap.size 5 1 v' n.data.length (u8s n.data) ∧ Below w.heap.size w w' := by
  have HB := Lib.hid (present_ok hT h0 hr0 hp hE hn)
  have HT := Lib.hid hT
  have HN := Lib.hid hn
  obtain ⟨L, hL⟩ : ∃ L, findL p = L := ⟨_, rfl⟩
  rw [hL] at HB HN
  obtain ⟨va, vc, hv, _⟩ := own_slice (hT.data L n HN.out)
  have HD : Hid (∀ w1, Below w.heap.size w w1 → Calls Tryz.prog 65 #[.slice va n.data.length vc] w1 fun e w' => ∃ a n' c, e = .returned (.slice a n' c) ∧ w'.ownsRow w.heap.size 5 1 (.slice a n' c) n.data.length (u8s n.data) ∧ Below w.heap.size w w') := fun w1 hb => by
    have hd := (hT.only (X := fun _ => False) (Only.of_below hb) (fun _ h => h.elim)).data L n HN.out
    rw [hv] at hd
    refine (clone_own hd hl).mono ?_
    rintro e w' ⟨v', rfl, k1, k2⟩
    obtain ⟨a, c, rfl, _⟩ := own_slice k1
    refine ⟨_, _, _, rfl, ⟨k1.1, k1.2.elim .inl (fun ⟨g, cap, cur, hv, hg, r⟩ => .inr ⟨g, cap, cur, hv, Nat.le_trans hb.size hg, r⟩)⟩, hb.trans (k2.mono hb.size)⟩
  clear hT h0 hr0 hp hE hn hL
  go_enter Tryz.func24, Tryz.ntmps24
  go_wp2_with (first
    | (go_at_call 37; refine HB.out.mono ?_; rintro e w1 ⟨⟨a, b, c, d, l, rfl⟩, h1⟩; have H1 := Lib.hid h1; have h2 := (HT.out.only (X := fun _ => False) (Only.of_below (h1.alloc h1.size (.cells #[.pointer a, .string b, .pointer (some ⟨A L, 0, none⟩), .slice c l d] 74))) (fun _ h => h.elim)).blk _ n HN.out; have q0 : (w1.alloc (.cells #[.pointer a, .string b, .pointer (some ⟨A L, 0, none⟩), .slice c l d] 74)).cell? ⟨A L, 0, none⟩ = some (.bool n.file) := cell_of h2 0; rw [hnf] at q0; have q1 : (w1.alloc (.cells #[.pointer a, .string b, .pointer (some ⟨A L, 0, none⟩), .slice c l d] 74)).cell? ⟨A L, 1, none⟩ = some (V L) := cell_of h2 1; rw [hv] at q1; have HC := Lib.hid (HD.out (w1.alloc (.cells #[.pointer a, .string b, .pointer (some ⟨A L, 0, none⟩), .slice c l d] 74)) (h1.alloc h1.size _)); clear h1 h2; simp only [])
    | (go_at_call 65; refine HC.out.mono ?_; rintro e w5 ⟨a5, n5, c5, rfl, k1, k2⟩; have K1 := Lib.hid k1; have K2 := Lib.hid k2; clear k1 k2; simp only []))
  go_ret2
  exact ⟨_, rfl, K1.out, K2.out⟩
end
end Go.Proofs.YtcmjpkfinbakkaaGreatDoor.Vf

namespace Go.Proofs.YtcmjpkfinbakkaaGreatDoor
open Go.RowKit Go.ChangeShapes Go.WideShapes
set_option linter.unusedVariables false
set_option maxRecDepth 100000

theorem Tool.below {w w' : World} {B t : Nat} {f : Value} {cwd name : ByteArray} {inn : Value} {st : Int} {o : Value} {s : Bz} {l : Value} {m : Bz} (h : Tool w B t f cwd name inn st o s l m) (hb : Below w.heap.size w w') : Tool w' B t f cwd name inn st o s l m :=
  ⟨(hb.block t (blk_lt h.blk)).trans h.blk, h.base, own_below h.out hb, own_below h.log hb, h.no, h.nl, h.ap⟩
theorem dl (s : ByteArray) : s.data.toList.length = s.size := Array.length_toList
theorem bytes_at (w : World) (S : ByteArray) (cap n : Nat) (hc : S.size ≤ cap) : BytesAt (w.alloc (.cells (bytesRow S cap) 5 (n, n + 1))) ⟨w.heap.size, 0, none⟩ S.data.toList := by
  intro j u hj
  have hjl : j < S.data.toList.length := by
    by_cases h : j < S.data.toList.length
    · exact h
    · rw [List.getElem?_eq_none (by rw [u8s_len]; omega)] at hj; cases hj
  rw [u8s_at hjl] at hj
  injection hj with hj
  rw [addn, Nat.zero_add, World.cell?_alloc_mark, bytesRow_at S cap j (by simpa using hjl), ← hj]
  simp
set_option maxHeartbeats 8000000 in
theorem say_any (B t : Nat) (f : Value) (cwd name : ByteArray) (inn : Value) (st : Int) (o : Value) (s : Bz) (l : Value) (m : Bz) (S : ByteArray) (w : World) (h : Tool w B t f cwd name inn st o s l m) (hs : s.length + S.size ≤ 65536) (hB : B ≤ w.heap.size) :
    Calls Tryz.prog 97 #[.pointer (some ⟨t, 0, none⟩), .string S] w (WriteP B t f cwd name inn st o s l m S.data.toList w) := by
  have hcv := fun w => run_bytes_of_string (P := Tryz.prog) w 9 41 5 S Tryz.underlying9 Tryz.underlying41 Tryz.underlying5
  obtain ⟨Q', hQ⟩ : ∃ Q', WriteP B t f cwd name inn st o s l m S.data.toList w = Q' := ⟨_, rfl⟩
  rw [hQ]
  have HCV := Lib.hid hcv
  have hcap := grownCap_ge w S.size 0 5
  obtain ⟨cap, hcp⟩ : ∃ cap, grownCap w S.size 0 5 = cap := ⟨_, rfl⟩
  have hb1 : Below w.heap.size w (w.drew.alloc (.cells (bytesRow S cap) 5 ((bytesRow S cap).size, (bytesRow S cap).size + 1))) := (Below.refl _ _).drew.alloc (Nat.le_refl _) _
  have hat := bytes_at w.drew S cap (bytesRow S cap).size (by rw [← hcp]; exact hcap)
  have hrun := hcv w
  rw [hcp] at hrun hcap
  obtain ⟨w1, hw1⟩ : ∃ w1, w.drew.alloc (.cells (bytesRow S cap) 5 ((bytesRow S cap).size, (bytesRow S cap).size + 1)) = w1 := ⟨_, rfl⟩
  rw [hw1] at hb1 hat hrun
  have HW := write_any B t f cwd name inn st o s l m S.data.toList ⟨w.heap.size, 0, none⟩ cap w1 (h.below hb1) hat (by rw [dl]; exact hcap) (by rw [dl]; exact hs) (by have := hb1.size; omega)
  rw [dl] at HW
  have HW := Lib.hid HW
  have HB1 := Lib.hid hb1
  have HQ := Lib.hid hQ
  have HOB := Lib.hid (fun k => (own_lt h.out (g := k)))
  have HT := Lib.hid h
  have HR := Lib.hid hrun
  clear hcv hrun hat hb1 hw1 hQ h HCV hcp
  go_enter Tryz.func97, Tryz.ntmps97
  have hR := HR.out
  go_wp2_with (go_at_call 102; refine HW.out.mono ?_; rintro e w2 ⟨rfl, o', h2, h3⟩; simp only [])
  go_end0
  rw [← HQ.out]
  exact ⟨rfl, o', h2, (Only.of_below (S := fun k => k = t ∨ o.ownBlock = some k) HB1.out).trans h3 (fun _ h => h) (fun _ _ h => h)⟩
theorem join_any (v : Value) (L : List ByteArray) (sep : ByteArray) (w : World) (hT : Txt w v L) (hc : ∀ a c, v = .slice a L.length c → L.length ≤ c) (hN : L.length ≤ 1000000) (hl : (Lib.join (L.map (·.data.toList)) sep.data.toList).length ≤ 1000000) :
    Calls Tryz.prog 98 #[v, .string sep] w fun e w' => e = .returned (.string ⟨(Lib.join (L.map (·.data.toList)) sep.data.toList).toArray⟩) ∧ Below w.heap.size w w' := by
  obtain ⟨a, c, rfl, hx⟩ := hT.form
  cases L with
  | nil =>
    refine (Tryz.strings_Join_none a c sep w).mono fun e w' h => ?_
    obtain ⟨rfl, rfl⟩ := h
    exact ⟨rfl, Below.refl _ _⟩
  | cons x r =>
    obtain ⟨b, off, rfl, hb, _⟩ := hx 0 (by simp)
    have hcells : ∀ (j : Nat) y, (x :: r)[j]? = some y → w.cell? ⟨b, off + j, none⟩ = some (.string y) := fun j y hj => by
      obtain ⟨hjl, e⟩ := List.getElem?_eq_some_iff.1 hj
      obtain ⟨b', off', e1, _, e2⟩ := hx j hjl
      injection e1 with e1
      injection e1 with e3 e4 _
      subst e3; subst e4
      rw [e2, e]
    exact Tryz.strings_Join b off c (x :: r) sep w hcells hb (by omega) (hc _ _ rfl) (by omega)
end Go.Proofs.YtcmjpkfinbakkaaGreatDoor

namespace Go.Proofs.YtcmjpkfinbakkaaGreatDoor.Vf
set_option maxRecDepth 100000
open Go.RowKit Go.Maps Go.ChangeMaps
set_option linter.unusedVariables false
section
variable {f : Nat} {p : ByteArray} {w : World} {B N : Nat} {tl : List Value} {T : Tr} {A : Pth → Nat} {M : Pth → Option Nat} {V : Pth → Value} {r0 : Nd}
set_option maxRecDepth 100000 in
set_option maxHeartbeats 4000000 in
theorem Read_err (hT : TreeAt w B N f 71 tl T A M V) (h0 : T [] = some r0) (hr0 : r0.file = false) (hp : PathOk p) (hE : presE T p ≠ 0) :
    Calls Tryz.prog 24 #[.pointer (some ⟨f, 0, none⟩), .string p] w fun e w' => e = .returned (.tuple #[.slice none 0 0, .int .i64 (presE T p)]) ∧ Below w.heap.size w w' := by
  have HB := Lib.hid (present_err hT h0 hr0 hp hE)
  obtain ⟨er, her⟩ : ∃ er, presE T p = er := ⟨_, rfl⟩
  rw [her] at HB hE ⊢
  have hne : (er != 0) = true := by simpa using hE
  clear hT h0 hr0 hp hE her
  go_enter Tryz.func24, Tryz.ntmps24
  go_wp2_with (go_at_call 37; refine HB.out.mono ?_; rintro e w1 ⟨⟨a, b, c, d, l, rfl⟩, h1⟩; have H1 := Lib.hid h1; clear h1; simp only [])
  go_ret2
  exact ⟨rfl, H1.out.alloc H1.out.size _⟩
set_option maxRecDepth 100000 in
set_option maxHeartbeats 4000000 in
theorem Read_dir {n : Nd} (hT : TreeAt w B N f 71 tl T A M V) (h0 : T [] = some r0) (hr0 : r0.file = false) (hp : PathOk p) (hE : findE T p = 0) (hn : T (findL p) = some n) (hnf : n.file = false) :
    Calls Tryz.prog 24 #[.pointer (some ⟨f, 0, none⟩), .string p] w fun e w' => e = .returned (.tuple #[.slice none 0 0, .int .i64 10]) ∧ Below w.heap.size w w' := by
  have HB := Lib.hid (present_ok hT h0 hr0 hp hE hn)
  have HT := Lib.hid hT
  have HN := Lib.hid hn
  obtain ⟨L, hL⟩ : ∃ L, findL p = L := ⟨_, rfl⟩
  rw [hL] at HB HN
  clear hT h0 hr0 hp hE hn hL
  go_enter Tryz.func24, Tryz.ntmps24
  go_wp2_with (go_at_call 37; refine HB.out.mono ?_; rintro e w1 ⟨⟨a, b, c, d, l, rfl⟩, h1⟩; have H1 := Lib.hid h1; have h2 := (HT.out.only (X := fun _ => False) (Only.of_below (h1.alloc h1.size (.cells #[.pointer a, .string b, .pointer (some ⟨A L, 0, none⟩), .slice c l d] 74))) (fun _ h => h.elim)).blk _ n HN.out; have q0 : (w1.alloc (.cells #[.pointer a, .string b, .pointer (some ⟨A L, 0, none⟩), .slice c l d] 74)).cell? ⟨A L, 0, none⟩ = some (.bool n.file) := cell_of h2 0; rw [hnf] at q0; clear h1 h2; simp only [])
  go_ret2
  exact ⟨rfl, H1.out.alloc H1.out.size _⟩
end
/-- The path of an argument of a utility. -/
theorem abs_tool {w : World} {B t : Nat} {f : Value} {cwd name : ByteArray} {inn : Value} {st : Int} {o : Value} {s : Bz} {l : Value} {m : Bz} (h : Tool w B t f cwd name inn st o s l m) (x : ByteArray) (hc : cwd.size ≤ 40000) (hx : x.size ≤ 40000) (rs : Bs) (rn : Int) (hr : Hid (abs_ cwd x = (rs, rn))) :
    Calls Tryz.prog 104 #[.pointer (some ⟨t, 0, none⟩), .string x] w fun e w' => e = .returned (.tuple #[.string ⟨rs.toArray⟩, .int .i64 rn]) ∧ Below w.heap.size w w' := by
  have HA := Lib.hid (fun w => Abs_any cwd x w hc hx rs rn hr)
  have p1 : w.cell? ⟨t, 1, none⟩ = some (.string cwd) := cell_of h.blk 1
  clear h hr
  go_enter Tryz.func104, Tryz.ntmps104
  go_wp2_with (go_at_call 42; refine (HA.out _).mono ?_; rintro e w1 ⟨rfl, h1⟩; have H1 := Lib.hid h1; clear h1; simp only [])
  go_ret2
  exact ⟨rfl, H1.out⟩
/-- A utility reads a file, by what Read answers. -/
theorem read_tool {w : World} {B t fb : Nat} {cwd name : ByteArray} {inn : Value} {st : Int} {o : Value} {s : Bz} {l : Value} {m : Bz} (h : Tool w B t (.pointer (some ⟨fb, 0, none⟩)) cwd name inn st o s l m) (x : ByteArray) (hc : cwd.size ≤ 40000) (hx : x.size ≤ 40000) (rs : Bs) (hr : Hid (abs_ cwd x = (rs, 0)))
    (d : Bz) (er : Int) (HR : Hid (∀ w1, Below w.heap.size w w1 → Calls Tryz.prog 24 #[.pointer (some ⟨fb, 0, none⟩), .string ⟨rs.toArray⟩] w1 fun e w' => ∃ a n c, e = .returned (.tuple #[.slice a n c, .int .i64 er]) ∧ w'.ownsRow w1.heap.size 5 1 (.slice a n c) d.length (u8s d) ∧ Below w1.heap.size w1 w')) :
    Calls Tryz.prog 103 #[.pointer (some ⟨t, 0, none⟩), .string x] w fun e w' => ∃ v', e = .returned (.tuple #[v', .int .i64 er]) ∧ w'.ownsRow w.heap.size 5 1 v' d.length (u8s d) ∧ Below w.heap.size w w' := by
  have HA := Lib.hid (abs_tool h x hc hx rs 0 hr)
  have HP : Hid (∀ w', Below w.heap.size w w' → w'.cell? ⟨t, 0, none⟩ = some (.pointer (some ⟨fb, 0, none⟩))) := fun w' hw => cell_of (h.below hw).blk 0
  clear h hr
  go_enter Tryz.func103, Tryz.ntmps103
  go_wp2_with (first
    | (go_at_call 104; refine HA.out.mono ?_; rintro e w1 ⟨rfl, h1⟩; have H1 := Lib.hid h1; have p0 := HP.out w1 h1; clear h1; simp only [])
    | (go_at_call 24; refine (HR.out _ H1.out).mono ?_; rintro e w2 ⟨a, n, c, rfl, k1, k2⟩; have K1 := Lib.hid k1; have K2 := Lib.hid k2; clear k1 k2; simp only []))
  go_ret2
  exact ⟨_, rfl, ⟨K1.out.1, K1.out.2.elim .inl (fun ⟨g, cap, cur, hv, hg, r⟩ => .inr ⟨g, cap, cur, hv, Nat.le_trans H1.out.size hg, r⟩)⟩, H1.out.trans (K2.out.mono H1.out.size)⟩
end Go.Proofs.YtcmjpkfinbakkaaGreatDoor.Vf

namespace Go.Proofs.YtcmjpkfinbakkaaGreatDoor.Vf
set_option maxRecDepth 100000
open Go.RowKit Go.Maps Go.ChangeMaps
set_option linter.unusedVariables false
theorem root_no : ¬ (0 ≤ at_ root1 0 (root1.size + 1) 0) := by decide
theorem path_of {p : ByteArray} {L : Pth} (h : parts root1 p = L) (hG : Good L) (hs : ∀ x ∈ L, x.length ≤ 60) (hf : L.length ≤ 20) (hw : (written L).length ≤ 200) (hp0 : p.size ≠ 0) (hps : p.size ≤ 30000) (hz : ∀ c ∈ p.data.toList, c ≠ 0) :
    findL p = L ∧ (∀ T, findE T p = (wayE T [] L : Nat)) ∧ PathOk p := by
  have ha : abs_ root1 p = (written L, 0) := by
    unfold abs_
    rw [if_neg, h, if_neg, if_neg]
    · omega
    · rintro ⟨x, hx, g⟩; have := hs x hx; omega
    · rintro (g | g | g)
      · exact hp0 g
      · exact hz 0 ((at_mem p 0).1 g) rfl
      · exact root_no g
  have hL : findL p = L := by
    unfold findL
    rw [ha]
    show parts root1 ⟨(written L).toArray⟩ = L
    rw [parts_eq]
    have : (⟨(written L).toArray⟩ : ByteArray).data.toList = written L := by simp
    rw [this]
    exact partsL_written _ hG
  refine ⟨hL, fun T => ?_, hps, by rw [ha]; show (written L).length ≤ 40000; omega, by rw [hL]; omega, fun x hx => ?_⟩
  · unfold findE
    rw [ha, hL]; rfl
  · rw [hL] at hx
    have := hs x hx
    unfold maxLen; omega
/-- A name that a directory may hold. -/
structure Nm (s : Bz) : Prop where
  ne : s ≠ []
  dot : s ≠ [46]
  dots : s ≠ [46, 46]
  no : ∀ c ∈ s, c ≠ 47
  nul : ∀ c ∈ s, c ≠ 0
  le : s.length ≤ 60
theorem push_nm {s : Bz} (h : Nm s) (l : List Bs) : push l s = l ++ [s] := by
  unfold push
  rw [if_neg (by rintro (e | e); exact h.ne e; exact h.dot e), if_neg h.dots]
theorem parts_of (p : ByteArray) : parts root1 p = (sp p.data.toList).foldl push [] := by
  unfold parts
  by_cases h : 0 < p.size ∧ gb p 0 = 47
  · rw [if_pos h]
  · rw [if_neg h]; rfl
theorem nm_parts {s : ByteArray} (h : Nm s.data.toList) : parts root1 (⟨#[47, 100, 47]⟩ ++ s) = [[100], s.data.toList] ∧ parts root1 (⟨#[100, 47]⟩ ++ s) = [[100], s.data.toList] := by
  have e1 : ((⟨#[47, 100, 47]⟩ : ByteArray) ++ s).data.toList = [] ++ 47 :: ([100] ++ 47 :: s.data.toList) := by simp
  have e2 : ((⟨#[100, 47]⟩ : ByteArray) ++ s).data.toList = [100] ++ 47 :: s.data.toList := by simp
  have hn : ∀ c ∈ ([100] : Bz), c ≠ 47 := by decide
  have hd : push ([] : List Bs) [100] = [[100]] := by decide
  constructor
  · rw [parts_of, e1, sp_cut [] _ (by simp), sp_cut [100] _ hn, sp_all _ h.no]
    show List.foldl push (push (push (push [] []) [100]) s.data.toList) [] = _
    rw [show push ([] : List Bs) [] = [] from rfl, hd, push_nm h]; rfl
  · rw [parts_of, e2, sp_cut [100] _ hn, sp_all _ h.no]
    show List.foldl push (push (push [] [100]) s.data.toList) [] = _
    rw [hd, push_nm h]; rfl
theorem nm_good {s : Bz} (h : Nm s) : Good [[100], s] := by
  intro x hx
  simp at hx
  rcases hx with rfl | rfl
  · decide
  · exact ⟨h.ne, h.dot, h.dots, h.no⟩
theorem nm_path {s : ByteArray} (h : Nm s.data.toList) (p : ByteArray) (hp : p = ⟨#[47, 100, 47]⟩ ++ s ∨ p = ⟨#[100, 47]⟩ ++ s) : findL p = [[100], s.data.toList] ∧ (∀ T, findE T p = (wayE T [] [[100], s.data.toList] : Nat)) ∧ PathOk p := by
  have hl : s.data.toList.length = s.size := Array.length_toList
  have hle := h.le
  have hsz : p.size = p.data.toList.length := Array.length_toList.symm
  have hdl : p.data.toList = 47 :: 100 :: 47 :: s.data.toList ∨ p.data.toList = 100 :: 47 :: s.data.toList := by
    rcases hp with rfl | rfl
    · exact .inl (by simp)
    · exact .inr (by simp)
  have hw : (written [[100], s.data.toList]).length ≤ 200 := by simp [written, joined]; omega
  refine path_of ?_ (nm_good h) (fun x hx => ?_) (by simp) hw ?_ ?_ ?_
  · rcases hp with rfl | rfl
    · exact (nm_parts h).1
    · exact (nm_parts h).2
  · simp at hx
    rcases hx with rfl | rfl
    · simp
    · exact hle
  · rw [hsz]; rcases hdl with e | e <;> rw [e] <;> simp
  · rw [hsz]; rcases hdl with e | e <;> rw [e] <;> simp only [List.length_cons] <;> omega
  · intro c hc
    rcases hdl with e | e
    · rw [e] at hc
      simp at hc
      rcases hc with rfl | rfl | rfl | hc
      · decide
      · decide
      · decide
      · exact h.nul c (by simpa using hc)
    · rw [e] at hc
      simp at hc
      rcases hc with rfl | rfl | hc
      · decide
      · decide
      · exact h.nul c (by simpa using hc)
theorem path_d : findL ⟨#[47, 100]⟩ = [[100]] ∧ (∀ T, findE T ⟨#[47, 100]⟩ = (wayE T [] [[100]] : Nat)) ∧ PathOk ⟨#[47, 100]⟩ :=
  path_of (by decide) (by unfold Good; decide) (by decide) (by decide) (by decide) (by decide) (by decide) (by decide)
theorem path_x : findL ⟨#[47, 120]⟩ = [[120]] ∧ (∀ T, findE T ⟨#[47, 120]⟩ = (wayE T [] [[120]] : Nat)) ∧ PathOk ⟨#[47, 120]⟩ :=
  path_of (by decide) (by unfold Good; decide) (by decide) (by decide) (by decide) (by decide) (by decide) (by decide)
theorem path_a : findL ⟨#[47, 97]⟩ = [[97]] ∧ (∀ T, findE T ⟨#[47, 97]⟩ = (wayE T [] [[97]] : Nat)) ∧ PathOk ⟨#[47, 97]⟩ :=
  path_of (by decide) (by unfold Good; decide) (by decide) (by decide) (by decide) (by decide) (by decide) (by decide)
end Go.Proofs.YtcmjpkfinbakkaaGreatDoor.Vf

namespace Go.Proofs.YtcmjpkfinbakkaaGreatDoor.Vf
set_option maxRecDepth 100000
open Go.RowKit Go.Maps Go.ChangeMaps
set_option linter.unusedVariables false
theorem Fs.cap {w : World} {B N f : Nat} {c : Cn} {T : Tr} {F : Nat → Prop} (h : Fs w B N f c T F) : Fs w B N f c T (fun j => F j ∧ j < w.heap.size) := by
  obtain ⟨A, M, V, h1, h2, h3⟩ := h
  exact ⟨A, M, V, h1, fun j hj => ⟨h2 j hj, h1.lt hj⟩, h3⟩
theorem Fs.imp {w : World} {B N f : Nat} {c : Cn} {T : Tr} {F F' : Nat → Prop} (h : Fs w B N f c T F) (hF : ∀ j, F j → F' j) : Fs w B N f c T F' := by
  obtain ⟨A, M, V, h1, h2, h3⟩ := h
  exact ⟨A, M, V, h1, fun j hj => hF j (h2 j hj), h3⟩
section
variable {w : World} {B N f : Nat} {c : Cn} {T : Tr} {F : Nat → Prop} {p : ByteArray}
set_option maxRecDepth 100000 in
set_option maxHeartbeats 4000000 in
theorem Time_ok {n : Nd} (hF : Fs w B N f c T F) (hp : PathOk p) (hE : findE T p = 0) (hn : T (findL p) = some n) :
    Calls Tryz.prog 242 #[.pointer (some ⟨f, 0, none⟩), .string p] w fun e w' => e = .returned (.int .i64 n.time) ∧ Below w.heap.size w w' := by
  obtain ⟨A, M, V, hT, hft, r0, h0, hr0⟩ := hF
  have HB := Lib.hid (present_ok hT h0 hr0 hp hE hn)
  have HT := Lib.hid hT
  have HN := Lib.hid hn
  obtain ⟨L, hL⟩ : ∃ L, findL p = L := ⟨_, rfl⟩
  rw [hL] at HB HN
  clear hT hft h0 hr0 hp hE hn hL
  go_enter Tryz.func242, Tryz.ntmps242
  go_wp2_with (go_at_call 37; refine HB.out.mono ?_; rintro e w1 ⟨⟨a, b, c, d, l, rfl⟩, h1⟩; have H1 := Lib.hid h1; have h2 := (HT.out.only (X := fun _ => False) (Only.of_below (h1.alloc h1.size (.cells #[.pointer a, .string b, .pointer (some ⟨A L, 0, none⟩), .slice c l d] 74))) (fun _ h => h.elim)).blk _ n HN.out; have q0 : (w1.alloc (.cells #[.pointer a, .string b, .pointer (some ⟨A L, 0, none⟩), .slice c l d] 74)).cell? ⟨A L, 2, none⟩ = some (.int .i64 n.time) := cell_of h2 2; clear h1 h2; simp only [])
  go_ret
  exact ⟨rfl, H1.out.alloc H1.out.size _⟩
end
end Go.Proofs.YtcmjpkfinbakkaaGreatDoor.Vf

namespace Go.Proofs.YtcmjpkfinbakkaaGreatDoor.Vf
set_option maxRecDepth 100000
open Go.RowKit Go.Maps Go.ChangeMaps
set_option linter.unusedVariables false
theorem new_at {w w' : World} {B N f : Nat} {c c' : Cn} {F : Nat → Prop} (h : Fs w B N f c newT F) (hc : c = c') : Fs w B N f c' newT F := hc ▸ h
end Go.Proofs.YtcmjpkfinbakkaaGreatDoor.Vf

namespace Go.Proofs.YtcmjpkfinbakkaaGreatDoor.Vf
set_option maxRecDepth 100000
open Go.RowKit Go.Maps Go.ChangeMaps
set_option linter.unusedVariables false
theorem New_small (n m : Int) (hn0 : 0 ≤ n) (hn : n ≤ 10000) (hm0 : 0 ≤ m) (hm : m ≤ 1048576) (w : World) {B : Nat} (hB : B ≤ w.heap.size) : Calls Tryz.prog 14 #[.int .i64 n, .int .i64 m] w fun e w1 => ∃ f, e = .returned (.pointer (some ⟨f, 0, none⟩)) ∧ Fs w1 B 0 f ⟨n, m, 0, 0, 0⟩ newT (fun j => w.heap.size ≤ j ∧ j < w1.heap.size) ∧ Below w.heap.size w w1 := by
  refine (New_any n m w (B := B) (N := 0) hB).mono ?_
  rintro e w1 ⟨f, h1, h2, h3⟩
  rw [show min (max n 0) 10000 = n by omega, show min (max m 0) 1048576 = m by omega] at h2
  exact ⟨f, h1, h2.cap, h3⟩
theorem MutP.fs {w w' : World} {B N f : Nat} {F : Nat → Prop} {er : Int} {T : Tr} {c : Cn} {e : Ending} (h : MutP w B N f F er T c e w') : e = .returned (.int .i64 er) ∧ Fs w' B (N + 1) f c T (fun j => (F j ∨ w.heap.size ≤ j) ∧ j < w'.heap.size) ∧ Only F w w' :=
  ⟨h.1, h.2.1.cap, h.2.2⟩
structure Sx (B : Nat) (w : World) (N f : Nat) (c : Cn) (T : Tr) : Prop where
  fs : ∃ F : Nat → Prop, Fs w B N f c T F ∧ ∀ j, F j → B ≤ j ∧ j < w.heap.size
  le : B ≤ w.heap.size
theorem Sx.below {B : Nat} {w w' : World} {N f : Nat} {c : Cn} {T : Tr} (h : Sx B w N f c T) (hb : Below w.heap.size w w') : Sx B w' N f c T := by
  obtain ⟨⟨F, h1, h2⟩, h3⟩ := h
  exact ⟨⟨F, h1.below hb, fun j hj => ⟨(h2 j hj).1, Nat.lt_of_lt_of_le (h2 j hj).2 hb.size⟩⟩, Nat.le_trans h3 hb.size⟩
theorem New_sx (n m : Int) (hn0 : 0 ≤ n) (hn : n ≤ 10000) (hm0 : 0 ≤ m) (hm : m ≤ 1048576) (w : World) : Calls Tryz.prog 14 #[.int .i64 n, .int .i64 m] w fun e w1 => ∃ f, e = .returned (.pointer (some ⟨f, 0, none⟩)) ∧ Sx w.heap.size w1 0 f ⟨n, m, 0, 0, 0⟩ newT ∧ Below w.heap.size w w1 := by
  refine (New_small n m hn0 hn hm0 hm w (B := w.heap.size) (Nat.le_refl _)).mono ?_
  rintro e w1 ⟨f, h1, h2, h3⟩
  exact ⟨f, h1, ⟨⟨_, h2, fun j hj => hj⟩, h3.size⟩, h3⟩
theorem Sx.mut {B : Nat} {w w' : World} {N f : Nat} {c c' : Cn} {T T' : Tr} {F : Nat → Prop} {er : Int} {e : Ending} (h1 : Fs w B N f c T F) (h2 : ∀ j, F j → B ≤ j ∧ j < w.heap.size) (h3 : B ≤ w.heap.size) (h : MutP w B N f F er T' c' e w') :
    e = .returned (.int .i64 er) ∧ Sx B w' (N + 1) f c' T' ∧ Below B w w' := by
  obtain ⟨e1, e2, e3⟩ := h.fs
  refine ⟨e1, ⟨⟨_, e2, fun j hj => ⟨?_, hj.2⟩⟩, Nat.le_trans h3 e3.size⟩, e3.below (fun k hk => (h2 k hk).1) h3⟩
  rcases hj.1 with h | h
  · exact (h2 j h).1
  · exact Nat.le_trans h3 h
/-- A file that is not there is written. -/
theorem Write_sx {B : Nat} {w : World} {N f : Nat} {c : Cn} {T : Tr} (h : Sx B w N f c T) (p : ByteArray) (hp : PathOk p) (hE : findE T p = 0) (hn : T (findL p) = none) (hc : c.Ok) (hN : N < maxLen) (bl : Bz) (ba : Option Addr) (bc : Nat) (hb : Bin w (.slice ba bl.length bc) bl) (hba : ∀ a, ba = some a → 0 < bl.length → a.block < B) (hbl : bl.length ≤ 1000000) (hfull : ¬ c.nodes ≤ c.count) (hroom : ¬ c.bytes - c.size < bl.length) :
    Calls Tryz.prog 17 #[.pointer (some ⟨f, 0, none⟩), .string p, .slice ba bl.length bc, .bool false] w fun e w' => e = .returned (.int .i64 0) ∧ Sx B w' (N + 1) f { c with count := c.count + 1, size := c.size + bl.length, clock := c.clock + 1 } (setF T (findL p) (some ⟨true, bl, c.clock + 1⟩)) ∧ Below B w w' := by
  obtain ⟨⟨F, h1, h2⟩, h3⟩ := h
  refine (Write_new w p false h1 hp hc hN h3 hE hn bl ba bc hb (fun a ha h0 hF => by have := (h2 _ hF).1; have := hba a ha h0; omega) hbl hfull hroom).mono ?_
  intro e w' hm
  exact Sx.mut h1 h2 h3 hm
end Go.Proofs.YtcmjpkfinbakkaaGreatDoor.Vf

namespace Go.Proofs.YtcmjpkfinbakkaaGreatDoor.Vf
set_option maxRecDepth 100000
open Go.RowKit Go.Maps Go.ChangeMaps
set_option linter.unusedVariables false

/-- A path that Abs tells. -/
theorem abs_path (x : ByteArray) (rs : Bs) (h : abs_ root1 x = (rs, 0)) : PathOk ⟨rs.toArray⟩ := by
  unfold abs_ at h
  split at h
  · cases h
  · rename_i hz
    split at h
    · cases h
    · rename_i hs
      split at h
      · cases h
      · rename_i hf
        injection h with h1 h2
        subst h1
        obtain ⟨L, hL⟩ : ∃ L, parts root1 x = L := ⟨_, rfl⟩
        have hG := parts_good root1 x
        rw [hL] at hs hf hG ⊢
        have hw : (⟨(written L).toArray⟩ : ByteArray).data.toList = written L := by simp
        have hsz : (⟨(written L).toArray⟩ : ByteArray).size = (written L).length := rfl
        have hpos : 0 < (written L).length := by
          cases L with
          | nil => decide
          | cons a r => unfold written; rw [if_neg (by simp), joined_cons]; omega
        refine (path_of (p := ⟨(written L).toArray⟩) (L := L) ?_ hG (fun y hy => ?_) (by omega) (by omega) (by omega) (by omega) ?_).2.2
        · rw [parts_eq, hw]
          exact partsL_written _ hG
        · by_cases hh : 60 < y.length
          · exact absurd ⟨y, hy, hh⟩ hs
          · omega
        · rw [hw]
          intro c hc hc0
          subst hc0
          rcases written_bytes hc with e | ⟨y, hy, hyc⟩
          · cases e
          · rw [← hL, parts_eq] at hy
            rcases partsL_bytes hy 0 hyc with e | e
            · exact absurd e (by decide)
            · exact hz (.inr (.inl ((at_mem x 0).2 e)))
section
variable {f : Nat} {p : ByteArray} {w : World} {B N : Nat} {tl : List Value} {T : Tr} {A : Pth → Nat} {M : Pth → Option Nat} {V : Pth → Value} {r0 : Nd}
theorem find_some {n : Nd} (hT : TreeAt w B N f 71 tl T A M V) (h0 : T [] = some r0) (hr0 : r0.file = false) (hp : PathOk p) (hE : findE T p = 0) (hn : T (findL p) = some n) :
    Calls Tryz.prog 33 #[.pointer (some ⟨f, 0, none⟩), .string p] w fun e w' => (∃ a b c d l, e = .returned (.tuple #[.agg #[.pointer a, .string b, .pointer (some ⟨A (findL p), 0, none⟩), .slice c l d], .int .i64 0])) ∧ Below w.heap.size w w' := by
  rcases List.eq_nil_or_concat (findL p) with hL | ⟨d, k, hL⟩
  · refine (find_root hT h0 hr0 hp hE hL).mono ?_
    rintro e w' ⟨rfl, h2⟩
    rw [hL, hT.a0]
    exact ⟨⟨none, ⟨#[]⟩, none, 0, 0, rfl⟩, h2⟩
  · have hL : findL p = d ++ [k] := by rw [hL]; simp
    rw [hL] at hn
    refine (find_good hT h0 hr0 hp hE hL).mono ?_
    rintro e w' ⟨dn, g, c, h3, h4, rfl, h5, h2⟩
    rw [hL]
    have hk : kidsOf T A d k = some (A (d ++ [k])) := by unfold kidsOf; rw [hn]; rfl
    rw [hk]
    exact ⟨⟨_, _, _, _, _, rfl⟩, h2⟩
theorem find_none (hT : TreeAt w B N f 71 tl T A M V) (h0 : T [] = some r0) (hr0 : r0.file = false) (hp : PathOk p) (hE : findE T p = 0) (hn : T (findL p) = none) :
    Calls Tryz.prog 33 #[.pointer (some ⟨f, 0, none⟩), .string p] w fun e w' => (∃ a b c d l, e = .returned (.tuple #[.agg #[.pointer a, .string b, .pointer none, .slice c l d], .int .i64 0])) ∧ Below w.heap.size w w' := by
  rcases List.eq_nil_or_concat (findL p) with hL | ⟨d, k, hL⟩
  · rw [hL, h0] at hn; cases hn
  · have hL : findL p = d ++ [k] := by rw [hL]; simp
    rw [hL] at hn
    refine (find_good hT h0 hr0 hp hE hL).mono ?_
    rintro e w' ⟨dn, g, c, h3, h4, rfl, h5, h2⟩
    have hk : kidsOf T A d k = none := by unfold kidsOf; rw [hn]; rfl
    rw [hk]
    exact ⟨⟨_, _, _, _, _, rfl⟩, h2⟩
end
/-- What stands at a path: 0 nothing, 1 a file, 2 a directory. -/
def kindT (T : Tr) (p : ByteArray) : Int := if findE T p ≠ 0 then 0 else match T (findL p) with
  | none => 0
  | some n => if n.file = true then 1 else 2
def timeT (T : Tr) (p : ByteArray) : Int := if findE T p ≠ 0 then 0 else match T (findL p) with
  | none => 0
  | some n => n.time
section
variable {w : World} {B N f : Nat} {c : Cn} {T : Tr} {F : Nat → Prop} {p : ByteArray}
set_option maxHeartbeats 4000000 in
theorem Kind_any (hF : Fs w B N f c T F) (hp : PathOk p) :
    Calls Tryz.prog 25 #[.pointer (some ⟨f, 0, none⟩), .string p] w fun e w' => e = .returned (.int .i64 (kindT T p)) ∧ Below w.heap.size w w' := by
  obtain ⟨A, M, V, hT, hft, r0, h0, hr0⟩ := hF
  by_cases hE : findE T p = 0
  · cases hn : T (findL p) with
    | none =>
      have hk : kindT T p = 0 := by unfold kindT; rw [if_neg (by simpa using hE), hn]
      rw [hk]
      have HB := Lib.hid (find_none hT h0 hr0 hp hE hn)
      clear hT hft h0 hr0 hp hE hn hk
      go_enter Tryz.func25, Tryz.ntmps25
      go_wp2_with (go_at_call 33; refine HB.out.mono ?_; rintro e w1 ⟨⟨a, b, c, d, l, rfl⟩, h1⟩; have H1 := Lib.hid h1; clear h1; simp only [])
      go_ret
      exact ⟨rfl, H1.out.alloc H1.out.size _⟩
    | some n =>
      have hk : kindT T p = if n.file = true then 1 else 2 := by unfold kindT; rw [if_neg (by simpa using hE), hn]
      rw [hk]
      have HB := Lib.hid (find_some hT h0 hr0 hp hE hn)
      have HT := Lib.hid hT
      have HN := Lib.hid hn
      obtain ⟨L, hL⟩ : ∃ L, findL p = L := ⟨_, rfl⟩
      rw [hL] at HB HN
      obtain ⟨fl, hfl⟩ : ∃ fl, n.file = fl := ⟨_, rfl⟩
      rw [hfl]
      have HFL := Lib.hid hfl
      clear hT hft h0 hr0 hp hE hn hL hk hfl
      go_enter Tryz.func25, Tryz.ntmps25
      cases fl
      all_goals
        go_wp2_with (go_at_call 33; refine HB.out.mono ?_; rintro e w1 ⟨⟨a, b, c, d, l, rfl⟩, h1⟩; have H1 := Lib.hid h1; have h2 := (HT.out.only (X := fun _ => False) (Only.of_below (h1.alloc h1.size (.cells #[.pointer a, .string b, .pointer (some ⟨A L, 0, none⟩), .slice c l d] 74))) (fun _ h => h.elim)).blk _ n HN.out; have q0 : (w1.alloc (.cells #[.pointer a, .string b, .pointer (some ⟨A L, 0, none⟩), .slice c l d] 74)).cell? ⟨A L, 0, none⟩ = some (.bool n.file) := cell_of h2 0; rw [HFL.out] at q0; clear h1 h2; simp only [])
        go_ret
        exact ⟨rfl, H1.out.alloc H1.out.size _⟩
  · have hk : kindT T p = 0 := by unfold kindT; rw [if_pos hE]
    rw [hk]
    have HB := Lib.hid (find_bad hT h0 hr0 hp hE)
    obtain ⟨er, her⟩ : ∃ er, findE T p = er := ⟨_, rfl⟩
    rw [her] at HB hE
    have hne : (er != 0) = true := by simpa using hE
    clear hT hft h0 hr0 hp hE hk her
    unfold spot0 spotV at HB
    go_enter Tryz.func25, Tryz.ntmps25
    go_wp2_with (go_at_call 33; refine HB.out.mono ?_; rintro e w1 ⟨rfl, h1⟩; have H1 := Lib.hid h1; clear h1; simp only [])
    go_ret
    exact ⟨rfl, H1.out.alloc H1.out.size _⟩
set_option maxHeartbeats 4000000 in
theorem Time_any (hF : Fs w B N f c T F) (hp : PathOk p) :
    Calls Tryz.prog 242 #[.pointer (some ⟨f, 0, none⟩), .string p] w fun e w' => e = .returned (.int .i64 (timeT T p)) ∧ Below w.heap.size w w' := by
  by_cases hP : presE T p = 0
  · have hE : findE T p = 0 := by
      by_cases h : findE T p = 0
      · exact h
      · rw [presE, if_pos h] at hP; exact hP
    cases hn : T (findL p) with
    | none => rw [presE, if_neg (fun e => e hE), hn] at hP; simp at hP
    | some n =>
      have hk : timeT T p = n.time := by unfold timeT; rw [if_neg (by simpa using hE), hn]
      rw [hk]
      exact Time_ok hF hp hE hn
  · have hk : timeT T p = 0 := by
      unfold timeT
      by_cases h : findE T p = 0
      · rw [if_neg (by simpa using h)]
        cases hn : T (findL p) with
        | none => rfl
        | some n => exact absurd (by rw [presE, if_neg (fun e => e h), hn]; rfl) hP
      · rw [if_pos h]
    rw [hk]
    obtain ⟨A, M, V, hT, hft, r0, h0, hr0⟩ := hF
    have HB := Lib.hid (present_err hT h0 hr0 hp hP)
    obtain ⟨er, her⟩ : ∃ er, presE T p = er := ⟨_, rfl⟩
    rw [her] at HB hP
    have hne : (er != 0) = true := by simpa using hP
    clear hT hft h0 hr0 hp hP hk her
    go_enter Tryz.func242, Tryz.ntmps242
    go_wp2_with (go_at_call 37; refine HB.out.mono ?_; rintro e w1 ⟨⟨a, b, c, d, l, rfl⟩, h1⟩; have H1 := Lib.hid h1; clear h1; simp only [])
    go_ret
    exact ⟨rfl, H1.out.alloc H1.out.size _⟩
end
end Go.Proofs.YtcmjpkfinbakkaaGreatDoor.Vf
