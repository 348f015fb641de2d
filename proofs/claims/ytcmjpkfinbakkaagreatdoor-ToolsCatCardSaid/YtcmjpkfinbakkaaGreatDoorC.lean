import Derived.Test.YtcmjpkfinbakkaaGreatDoorQM
import Derived.Lib.Join
import Derived.Test.YtcmjpkfinbakkaaGreatDoorRE
import Derived.Lib.AppendStr
namespace Go.Proofs.YtcmjpkfinbakkaaGreatDoor
open Go.RowKit Go.ChangeShapes Go.WideShapes
set_option linter.unusedVariables false
set_option maxRecDepth 100000

theorem Tool.below {w w' : World} {B t : Nat} {f : Value} {cwd name : ByteArray} {inn : Value} {st : Int} {o : Value} {s : Bz} {l : Value} {m : Bz} (h : Tool w B t f cwd name inn st o s l m) (hb : Below w.heap.size w w') : Tool w' B t f cwd name inn st o s l m :=
  ⟨(hb.block t (blk_lt h.blk)).trans h.blk, h.base, own_below h.out hb, own_below h.log hb, h.no, h.nl, h.ap⟩
theorem dl (s : ByteArray) : s.data.toList.length = s.size := Array.length_toList
theorem bytes_at (w : World) (S : ByteArray) (cap n : Nat) (hc : S.size ≤ cap) : BytesAt (w.alloc (.cells (bytesRow S cap) 5 (n, n + 1))) ⟨w.heap.size, 0, none⟩ S.data.toList := by
  intro j u hj
  have hjl : j < S.data.toList.length := by
    by_cases h : j < S.data.toList.length
    · exact h
    · rw [List.getElem?_eq_none (by rw [u8s_len]; omega)] at hj; cases hj
  rw [u8s_at hjl] at hj
  injection hj with hj
  rw [addn, Nat.zero_add, World.cell?_alloc_mark, bytesRow_at S cap j (by simpa using hjl), ← hj]
  simp
set_option maxHeartbeats 8000000 in
theorem say_any (B t : Nat) (f : Value) (cwd name : ByteArray) (inn : Value) (st : Int) (o : Value) (s : Bz) (l : Value) (m : Bz) (S : ByteArray) (w : World) (h : Tool w B t f cwd name inn st o s l m) (hs : s.length + S.size ≤ 65536) (hB : B ≤ w.heap.size) :
    Calls Tryz.prog 97 #[.pointer (some ⟨t, 0, none⟩), .string S] w (WriteP B t f cwd name inn st o s l m S.data.toList w) := by
  have hcv := fun w => run_bytes_of_string (P := Tryz.prog) w 9 41 5 S Tryz.underlying9 Tryz.underlying41 Tryz.underlying5
  obtain ⟨Q', hQ⟩ : ∃ Q', WriteP B t f cwd name inn st o s l m S.data.toList w = Q' := ⟨_, rfl⟩
  rw [hQ]
  have HCV := Lib.hid hcv
  have hcap := grownCap_ge w S.size 0 5
  obtain ⟨cap, hcp⟩ : ∃ cap, grownCap w S.size 0 5 = cap := ⟨_, rfl⟩
  have hb1 : Below w.heap.size w (w.drew.alloc (.cells (bytesRow S cap) 5 ((bytesRow S cap).size, (bytesRow S cap).size + 1))) := (Below.refl _ _).drew.alloc (Nat.le_refl _) _
  have hat := bytes_at w.drew S cap (bytesRow S cap).size (by rw [← hcp]; exact hcap)
  have hrun := hcv w
  rw [hcp] at hrun hcap
  obtain ⟨w1, hw1⟩ : ∃ w1, w.drew.alloc (.cells (bytesRow S cap) 5 ((bytesRow S cap).size, (bytesRow S cap).size + 1)) = w1 := ⟨_, rfl⟩
  rw [hw1] at hb1 hat hrun
  have HW := write_any B t f cwd name inn st o s l m S.data.toList ⟨w.heap.size, 0, none⟩ cap w1 (h.below hb1) hat (by rw [dl]; exact hcap) (by rw [dl]; exact hs) (by have := hb1.size; omega)
  rw [dl] at HW
  have HW := Lib.hid HW
  have HB1 := Lib.hid hb1
  have HQ := Lib.hid hQ
  have HOB := Lib.hid (fun k => (own_lt h.out (g := k)))
  have HT := Lib.hid h
  have HR := Lib.hid hrun
  clear hcv hrun hat hb1 hw1 hQ h HCV hcp
  go_enter Tryz.func97, Tryz.ntmps97
  have hR := HR.out
  go_wp2_with (go_at_call 102; refine HW.out.mono ?_; rintro e w2 ⟨rfl, o', h2, h3⟩; simp only [])
  go_end0
  rw [← HQ.out]
  exact ⟨rfl, o', h2, (Only.of_below (S := fun k => k = t ∨ o.ownBlock = some k) HB1.out).trans h3 (fun _ h => h) (fun _ _ h => h)⟩
theorem join_any (v : Value) (L : List ByteArray) (sep : ByteArray) (w : World) (hT : Txt w v L) (hc : ∀ a c, v = .slice a L.length c → L.length ≤ c) (hN : L.length ≤ 1000000) (hl : (Lib.join (L.map (·.data.toList)) sep.data.toList).length ≤ 1000000) :
    Calls Tryz.prog 98 #[v, .string sep] w fun e w' => e = .returned (.string ⟨(Lib.join (L.map (·.data.toList)) sep.data.toList).toArray⟩) ∧ Below w.heap.size w w' := by
  obtain ⟨a, c, rfl, hx⟩ := hT.form
  cases L with
  | nil =>
    refine (Tryz.strings_Join_none a c sep w).mono fun e w' h => ?_
    obtain ⟨rfl, rfl⟩ := h
    exact ⟨rfl, Below.refl _ _⟩
  | cons x r =>
    obtain ⟨b, off, rfl, hb, _⟩ := hx 0 (by simp)
    have hcells : ∀ (j : Nat) y, (x :: r)[j]? = some y → w.cell? ⟨b, off + j, none⟩ = some (.string y) := fun j y hj => by
      obtain ⟨hjl, e⟩ := List.getElem?_eq_some_iff.1 hj
      obtain ⟨b', off', e1, _, e2⟩ := hx j hjl
      injection e1 with e1
      injection e1 with e3 e4 _
      subst e3; subst e4
      rw [e2, e]
    exact Tryz.strings_Join b off c (x :: r) sep w hcells hb (by omega) (hc _ _ rfl) (by omega)
end Go.Proofs.YtcmjpkfinbakkaaGreatDoor

namespace Go.Proofs.YtcmjpkfinbakkaaGreatDoor
open Go.RowKit Go.ChangeShapes Go.WideShapes
set_option linter.unusedVariables false
set_option maxRecDepth 100000

def bsOf (L : List ByteArray) : List Bz := L.map (·.data.toList)
def optN : ByteArray := ⟨#[45, 110]⟩
/-- What echo tells. -/
def echoB (L : List ByteArray) : Bz := if L.head? = some optN then Lib.join (bsOf L.tail) [32] else Lib.join (bsOf L) [32] ++ [10]
def EchoP (B t : Nat) (f : Value) (cwd name : ByteArray) (inn : Value) (st : Int) (l : Value) (m bs : Bz) (w : World) (e : Ending) (w' : World) : Prop :=
  e = .returned (.tuple #[]) ∧ ∃ o', Tool w' B t f cwd name inn st o' bs l m ∧ Only (fun k => k = t) w w'
theorem opt_ne {x : ByteArray} (h : ¬ x = optN) : (x.toList == [45, 110]) = false := by
  rw [beq_eq_false_iff_ne]
  intro e
  refine h (ByteArray.ext (Array.ext' ?_))
  rw [← Lib.toList_data, e]; rfl
theorem opt_yes : ((optN : ByteArray).toList == [45, 110]) = true := by rw [Lib.toList_data]; rfl
theorem mk_data (l : Bz) : (⟨l.toArray⟩ : ByteArray).data.toList = l := rfl
theorem ba_app (a b : ByteArray) : (a ++ b).data.toList = a.data.toList ++ b.data.toList := by simp
set_option pp.maxSteps 4000 in
set_option maxHeartbeats 8000000 in
theorem echo_plain (B t : Nat) (f : Value) (cwd name : ByteArray) (inn : Value) (st : Int) (l : Value) (m : Bz) (v : Value) (L : List ByteArray) (w : World) (h : Tool w B t f cwd name inn st (.slice none 0 0) [] l m) (hT : Txt w v L) (hc : ∀ a c, v = .slice a L.length c → L.length ≤ c)
    (hN : L.length ≤ 1000000) (hl : (Lib.join (bsOf L) [32]).length ≤ 65000) (hh : L.head? ≠ some optN) (hB : B ≤ w.heap.size) :
    Calls Tryz.prog 52 #[.pointer (some ⟨t, 0, none⟩), v] w (EchoP B t f cwd name inn st l m (Lib.join (bsOf L) [32] ++ [10]) w) := by
  obtain ⟨Q', hQ⟩ : ∃ Q', EchoP B t f cwd name inn st l m (Lib.join (bsOf L) [32] ++ [10]) w = Q' := ⟨_, rfl⟩
  rw [hQ]
  have HJ := Lib.hid (join_any v L ⟨#[32]⟩ w hT hc hN (by rw [show (⟨#[32]⟩ : ByteArray).data.toList = [32] from rfl]; exact Nat.le_trans hl (by omega)))
  rw [show (⟨#[32]⟩ : ByteArray).data.toList = [32] from rfl, show L.map (·.data.toList) = bsOf L from rfl] at HJ
  obtain ⟨J, hJ⟩ : ∃ J, Lib.join (bsOf L) [32] = J := ⟨_, rfl⟩
  rw [hJ] at hl hQ HJ
  have HS : Hid (∀ w1, Below w.heap.size w w1 → Calls Tryz.prog 97 #[.pointer (some ⟨t, 0, none⟩), .string ((⟨J.toArray⟩ : ByteArray) ++ ⟨#[10]⟩)] w1 fun e w' => e = .returned (.tuple #[]) ∧ Q' (.returned (.tuple #[])) w') := fun w1 hb1 => by
    refine (say_any B t f cwd name inn st (.slice none 0 0) [] l m _ w1 (h.below hb1) ?_ (by have := hb1.size; omega)).mono ?_
    · rw [← dl, ba_app]; simp; omega
    · rintro e w2 ⟨rfl, o', h2, h3⟩
      refine ⟨rfl, ?_⟩
      rw [← hQ]
      rw [ba_app, List.nil_append] at h2
      exact ⟨rfl, o', h2, ((Only.of_below (S := fun k => k = t) hb1).trans h3 (fun _ h => h) (fun i _ hi => by rcases hi with e | e; exact e; cases e))⟩
  have hjs : (⟨J.toArray⟩ : ByteArray).size = J.length := rfl
  generalize (⟨J.toArray⟩ : ByteArray) = JB at HJ HS hjs
  obtain ⟨a, c, rfl, hx⟩ := hT.form
  clear hT hc hJ hQ h hB
  cases L with
  | nil =>
    simp only [List.length_nil] at HJ ⊢
    clear hx hh
    go_enter Tryz.func52, Tryz.ntmps52
    go_wp2_with (first
      | (go_at_call 98; refine HJ.out.mono ?_; rintro e w1 ⟨rfl, h1⟩; have H1 := Lib.hid h1; clear h1; simp only [])
      | (go_at_call 97; refine (HS.out _ H1.out).mono ?_; rintro e w2 ⟨rfl, hq⟩; have HQ2 := Lib.hid hq; clear hq; simp only []))
    go_end0
    exact HQ2.out
  | cons x r =>
    obtain ⟨b, off, rfl, hbk, hc0⟩ := hx 0 (by simp)
    have hne : ¬ x = optN := fun e => hh (by rw [e]; rfl)
    simp only [List.getElem_cons_zero, Nat.add_zero] at hc0
    obtain ⟨n, hn⟩ : ∃ n, (x :: r).length = n := ⟨_, rfl⟩
    have hn1 : 0 < n := by rw [← hn]; simp
    rw [hn] at HJ ⊢
    have d0 : decide ((0 : Int) < (n : Int)) = true := decide_eq_true (by omega)
    have hnI : (0 : Int) < (n : Int) := by omega
    clear hx hh hbk hn
    have g1 : (x.toList == [45, 110]) = false := opt_ne hne
    clear hne
    go_enter Tryz.func52, Tryz.ntmps52
    go_wp2_with (first
      | (go_at_call 98; refine HJ.out.mono ?_; rintro e w1 ⟨rfl, h1⟩; have H1 := Lib.hid h1; clear h1; simp only [])
      | (go_at_call 97; refine (HS.out _ H1.out).mono ?_; rintro e w2 ⟨rfl, hq⟩; have HQ2 := Lib.hid hq; clear hq; simp only []))
    go_end0
    exact HQ2.out
set_option maxHeartbeats 8000000 in
theorem echo_bare (B t : Nat) (f : Value) (cwd name : ByteArray) (inn : Value) (st : Int) (l : Value) (m : Bz) (v : Value) (L : List ByteArray) (w : World) (h : Tool w B t f cwd name inn st (.slice none 0 0) [] l m) (hT : Txt w v (optN :: L)) (hc : ∀ a c, v = .slice a (L.length + 1) c → L.length + 1 ≤ c)
    (hN : L.length ≤ 1000000) (hl : (Lib.join (bsOf L) [32]).length ≤ 65000) (hB : B ≤ w.heap.size) :
    Calls Tryz.prog 52 #[.pointer (some ⟨t, 0, none⟩), v] w (EchoP B t f cwd name inn st l m (Lib.join (bsOf L) [32]) w) := by
  obtain ⟨Q', hQ⟩ : ∃ Q', EchoP B t f cwd name inn st l m (Lib.join (bsOf L) [32]) w = Q' := ⟨_, rfl⟩
  rw [hQ]
  obtain ⟨a, c, rfl, hx⟩ := hT.form
  have hcc : L.length + 1 ≤ c := hc a c rfl
  obtain ⟨b, off, rfl, hbk, hc0⟩ := hx 0 (by simp)
  simp only [List.getElem_cons_zero, Nat.add_zero] at hc0
  have HJ : Hid (∀ off' c', (L.length = 0 ∨ off' = off + 1) → L.length ≤ c' → Calls Tryz.prog 98 #[.slice (some ⟨b, off', none⟩) L.length c', .string ⟨#[32]⟩] w fun e w' => e = .returned (.string ⟨(Lib.join (bsOf L) [32]).toArray⟩) ∧ Below w.heap.size w w') := fun off' c' ho hcl => by
    have hT2 : Txt w (.slice (some ⟨b, off', none⟩) L.length c') L := ⟨_, c', rfl, fun i hi => by
      rcases ho with e | rfl
      · omega
      · obtain ⟨b2, off2, e1, e2, e3⟩ := hx (i + 1) (by rw [List.length_cons]; omega)
        injection e1 with e1
        injection e1 with e4 e5 _
        subst e4; subst e5
        refine ⟨_, _, rfl, e2, ?_⟩
        rw [show off + 1 + i = off + (i + 1) by omega, e3]; rfl⟩
    have := join_any _ L ⟨#[32]⟩ w hT2 (fun a c e => by injection e with _ _ e; omega) hN (by rw [show (⟨#[32]⟩ : ByteArray).data.toList = [32] from rfl]; exact Nat.le_trans hl (by omega))
    rw [show (⟨#[32]⟩ : ByteArray).data.toList = [32] from rfl, show L.map (·.data.toList) = bsOf L from rfl] at this
    exact this
  obtain ⟨J, hJ⟩ : ∃ J, Lib.join (bsOf L) [32] = J := ⟨_, rfl⟩
  rw [hJ] at hl hQ HJ
  have HS : Hid (∀ w1, Below w.heap.size w w1 → Calls Tryz.prog 97 #[.pointer (some ⟨t, 0, none⟩), .string (⟨J.toArray⟩ : ByteArray)] w1 fun e w' => e = .returned (.tuple #[]) ∧ Q' (.returned (.tuple #[])) w') := fun w1 hb1 => by
    refine (say_any B t f cwd name inn st (.slice none 0 0) [] l m _ w1 (h.below hb1) ?_ (by have := hb1.size; omega)).mono ?_
    · rw [← dl]; simp; omega
    · rintro e w2 ⟨rfl, o', h2, h3⟩
      refine ⟨rfl, ?_⟩
      rw [← hQ]
      rw [List.nil_append] at h2
      exact ⟨rfl, o', h2, ((Only.of_below (S := fun k => k = t) hb1).trans h3 (fun _ h => h) (fun i _ hi => by rcases hi with e | e; exact e; cases e))⟩
  have hjs : (⟨J.toArray⟩ : ByteArray).size = J.length := rfl
  have hap : (⟨J.toArray⟩ : ByteArray) ++ (⟨#[]⟩ : ByteArray) = ⟨J.toArray⟩ := by
    refine ByteArray.ext ?_
    simp
  generalize (⟨J.toArray⟩ : ByteArray) = JB at HJ HS hjs hap
  have hn1 : ((L.length + 1 : Nat) : Int) = (L.length : Int) + 1 := by omega
  rw [List.length_cons]
  clear hT hc hJ hQ h hB hx hbk
  have g1 := opt_yes
  generalize optN = x at hc0 g1
  obtain ⟨n, hn⟩ : ∃ n, L.length = n := ⟨_, rfl⟩
  rw [hn] at HJ hn1 hcc ⊢
  have d0 : decide ((0 : Int) < ((n + 1 : Nat) : Int)) = true := decide_eq_true (by omega)
  have hnI : (0 : Int) < ((n + 1 : Nat) : Int) := by omega
  clear hn
  by_cases h1c : c = 1
  · subst h1c
    have HA := Lib.hid (HJ.out off 0 (by omega) (by omega))
    clear HJ hcc
    go_enter Tryz.func52, Tryz.ntmps52
    go_wp2_with (first
      | (go_at_call 98; refine HA.out.mono ?_; rintro e w1 ⟨rfl, h1⟩; have H1 := Lib.hid h1; clear h1; simp only [])
      | (go_at_call 97; try rw [hap]
         refine (HS.out _ H1.out).mono ?_; rintro e w2 ⟨rfl, hq⟩; have HQ2 := Lib.hid hq; clear hq; simp only []))
    go_end0
    exact HQ2.out
  · have HA := Lib.hid (HJ.out (off + 1) (c - 1) (by omega) (by omega))
    clear HJ
    go_enter Tryz.func52, Tryz.ntmps52
    go_wp2_with (first
      | (go_at_call 98; refine HA.out.mono ?_; rintro e w1 ⟨rfl, h1⟩; have H1 := Lib.hid h1; clear h1; simp only [])
      | (go_at_call 97; try rw [hap]
         refine (HS.out _ H1.out).mono ?_; rintro e w2 ⟨rfl, hq⟩; have HQ2 := Lib.hid hq; clear hq; simp only []))
    go_end0
    exact HQ2.out
end Go.Proofs.YtcmjpkfinbakkaaGreatDoor

namespace Go.Proofs.YtcmjpkfinbakkaaGreatDoor
open Go.RowKit Go.ChangeShapes Go.WideShapes
set_option linter.unusedVariables false
set_option maxRecDepth 100000

theorem conv_own {w : World} {B : Nat} {v : Value} {bs : Bz} (h : w.ownsRow B 5 1 v bs.length (u8s bs)) : (convert 41 9 v).run Tryz.prog w = .ok (.string ⟨bs.toArray⟩) w := by
  rcases h.2 with ⟨rfl, h0⟩ | ⟨g, cap, cur, rfl, h2, h3, h4, _⟩
  · have hbs : bs = [] := List.eq_nil_of_length_eq_zero h0
    subst hbs
    have := run_convert_bytes_string (P := Tryz.prog) w 41 9 5 none 0 0 Tryz.underlying41 Tryz.underlying5 Tryz.underlying9
    rw [this]
    rfl
  · refine run_convert_bytes_back (P := Tryz.prog) w 41 9 5 ⟨g, 0, none⟩ cap bs Tryz.underlying41 Tryz.underlying5 Tryz.underlying9 fun j hj => ?_
    exact h.cells (g := g) rfl j _ (u8s_at hj)
def RunP (bs : Bz) (w : World) (e : Ending) (w' : World) : Prop := ∃ o', e = .returned (.agg #[.int .i64 0, o', .slice none 0 0]) ∧ w'.ownsRow w.heap.size 5 1 o' bs.length (u8s bs) ∧ Below w.heap.size w w'
def nEcho : ByteArray := ⟨#[101, 99, 104, 111]⟩
set_option pp.maxSteps 4000 in
set_option maxHeartbeats 8000000 in
theorem run_echo (f : Value) (cwd : ByteArray) (v inn : Value) (bs : Bz) (w : World) (hf : ∃ k, f = .pointer k) (hv : ∃ a n c, v = .slice a n c) (hi : ∃ a n c, inn = .slice a n c)
    (HE : ∀ (t : Nat) (w1 : World), Below w.heap.size w w1 → Tool w1 w.heap.size t f cwd nEcho inn 0 (.slice none 0 0) [] (.slice none 0 0) [] → Calls Tryz.prog 52 #[.pointer (some ⟨t, 0, none⟩), v] w1 (EchoP w.heap.size t f cwd nEcho inn 0 (.slice none 0 0) [] bs w1)) :
    Calls Tryz.prog 23 #[f, .string cwd, .string nEcho, v, inn] w (RunP bs w) := by
  obtain ⟨fk, rfl⟩ := hf
  obtain ⟨va, vn, vc, rfl⟩ := hv
  obtain ⟨ia, i_n, ic, rfl⟩ := hi
  obtain ⟨Q', hQ⟩ : ∃ Q', RunP bs w = Q' := ⟨_, rfl⟩
  rw [hQ]
  have HQ := Lib.hid hQ
  obtain ⟨W0, hW0⟩ : ∃ W0, w.alloc (.cells #[.int .i64 0, .slice none 0 0, .slice none 0 0] 43) = W0 := ⟨_, rfl⟩
  obtain ⟨W1, hW1⟩ : ∃ W1, W0.alloc (.cells #[.pointer fk, .string cwd, .string nEcho, .slice ia i_n ic, .int .i64 0, .slice none 0 0, .slice none 0 0] 98) = W1 := ⟨_, rfl⟩
  have hs0 : W0.heap.size = w.heap.size + 1 := by rw [← hW0]; simp
  have hb0 : Below w.heap.size w W0 := by rw [← hW0]; exact (Below.refl _ _).alloc (Nat.le_refl _) _
  have hb1 : Below w.heap.size w W1 := by rw [← hW1]; exact hb0.alloc (by omega) _
  have hk0 : W0.heap[w.heap.size]? = some (.cells [.int .i64 0, .slice none 0 0, .slice none 0 0].toArray 43 (0, 0)) := by rw [← hW0]; exact heap_alloc_new _ _
  have hk1 : W1.heap[w.heap.size]? = some (.cells [.int .i64 0, .slice none 0 0, .slice none 0 0].toArray 43 (0, 0)) := by
    rw [← hW1, (MapKept.heap_alloc _ _).2 _ (by omega)]; exact hk0
  have ht1 : W1.heap[w.heap.size + 1]? = some (.cells (tlC (.pointer fk) cwd nEcho (.slice ia i_n ic) 0 (.slice none 0 0) (.slice none 0 0)).toArray 98 (0, 0)) := by
    rw [← hW1, ← hs0]; exact heap_alloc_new _ _
  have HW1 := Lib.hid hW1
  have HW0 := Lib.hid hW0
  have hsz1 : w.heap.size + 1 < W1.heap.size := blk_lt ht1
  have HC := Lib.hid (HE (w.heap.size + 1) W1 hb1 ⟨ht1, by omega, World.ownsRow_nil _ _ _ _, World.ownsRow_nil _ _ _ _, (fun e => by cases e), (fun e => by cases e), (fun k e => by cases e)⟩)
  have HK1 := Lib.hid hk1
  have HB1 := Lib.hid hb1
  clear hQ HE hW0 hW1 hs0 hb0 hb1 hk0 hk1 ht1
  unfold nEcho at HC HW1 ⊢
  go_enter Tryz.func23, Tryz.ntmps23
  go_wp2_with (go_at_call 52; rw [HW0.out, HW1.out]; refine HC.out.mono ?_; rintro e w2 ⟨rfl, o', h2, h3⟩; obtain ⟨oa, oc, rfl, _⟩ := own_slice h2.out; have hk2 := (h3.block w.heap.size (by omega) (by omega)).trans HK1.out; have c0 : w2.cell? ⟨w.heap.size, 0, none⟩ = some (.int .i64 0) := cell_of hk2 0; have c1 : w2.cell? ⟨w.heap.size, 1, none⟩ = some (.slice none 0 0) := cell_of hk2 1; have c2 : w2.cell? ⟨w.heap.size, 2, none⟩ = some (.slice none 0 0) := cell_of hk2 2; have f0 := free_of hk2 0; have f1 := free_of hk2 1; have f2 := free_of hk2 2; have c4 : w2.cell? ⟨w.heap.size + 1, 4, none⟩ = some (.int .i64 0) := cell_of h2.blk 4; have c5 : w2.cell? ⟨w.heap.size + 1, 5, none⟩ = some (.slice oa bs.length oc) := cell_of h2.blk 5; have c6 : w2.cell? ⟨w.heap.size + 1, 6, none⟩ = some (.slice none 0 0) := cell_of h2.blk 6; have H2 := Lib.hid h2; have H3 := Lib.hid h3; have HK2 := Lib.hid hk2; clear h2 h3 hk2; simp only [])
  have hs := set_of (set_of (set_of HK2.out 0 (.int .i64 0)) 1 (.slice oa bs.length oc)) 2 (.slice none 0 0)
  have hb3 : Below w.heap.size w (((w2.setCell ⟨w.heap.size, 0, none⟩ (.int .i64 0)).setCell ⟨w.heap.size, 1, none⟩ (.slice oa bs.length oc)).setCell ⟨w.heap.size, 2, none⟩ (.slice none 0 0)) := by
    have hb2 : Below w.heap.size w w2 := HB1.out.trans (H3.out.below (fun k e => by omega) (by omega))
    exact ((hb2.setCell (Nat.le_refl _) _).setCell (Nat.le_refl _) _).setCell (Nat.le_refl _) _
  have hrow : (((w2.setCell ⟨w.heap.size, 0, none⟩ (.int .i64 0)).setCell ⟨w.heap.size, 1, none⟩ (.slice oa bs.length oc)).setCell ⟨w.heap.size, 2, none⟩ (.slice none 0 0)).ownsRow w.heap.size 5 1 (.slice oa bs.length oc) bs.length (u8s bs) := by
    refine row_only H2.out.out fun g hg _ => ?_
    have hne : g ≠ w.heap.size := by
      intro e
      rcases H2.out.out.2 with ⟨h1, _⟩ | ⟨g', cap, cur, h1, _, h4, _⟩
      · rw [h1] at hg; cases hg
      · rw [h1] at hg
        have hgg : g' = g := by simpa [Value.ownBlock] using hg
        rw [hgg, e, HK2.out] at h4
        injection h4 with h4
        injection h4 with _ h4 _
        exact absurd h4 (by decide)
    rw [Below.heap_setCell _ _ _ _ hne, Below.heap_setCell _ _ _ _ hne, Below.heap_setCell _ _ _ _ hne]
  generalize (((w2.setCell ⟨w.heap.size, 0, none⟩ (.int .i64 0)).setCell ⟨w.heap.size, 1, none⟩ (.slice oa bs.length oc)).setCell ⟨w.heap.size, 2, none⟩ (.slice none 0 0)) = w3 at *
  have d0 : w3.cell? ⟨w.heap.size, 0, none⟩ = some (.int .i64 0) := cell_of hs 0
  have d1 : w3.cell? ⟨w.heap.size, 1, none⟩ = some (.slice oa bs.length oc) := cell_of hs 1
  have d2 : w3.cell? ⟨w.heap.size, 2, none⟩ = some (.slice none 0 0) := cell_of hs 2
  refine bodyPost_ret (v := .agg #[.int .i64 0, .slice oa bs.length oc, .slice none 0 0]) ?_ rfl ?_
  · simp [results, Tryz.results23, go_sem, d0, d1, d2]
  · rw [← HQ.out]
    exact ⟨_, rfl, hrow, hb3⟩
end Go.Proofs.YtcmjpkfinbakkaaGreatDoor

namespace Go.Proofs.YtcmjpkfinbakkaaGreatDoor
open Go.RowKit Go.ChangeShapes Go.WideShapes
set_option linter.unusedVariables false
set_option maxRecDepth 100000

set_option maxHeartbeats 8000000 in
theorem new_some (n b : Int) (w : World) : Calls Tryz.prog 14 #[.int .i64 n, .int .i64 b] w fun e w' => (∃ k, e = .returned (.pointer k)) ∧ Below w.heap.size w w' := by
  go_enter Tryz.func14, Tryz.ntmps14
  go_wp2_with fail
  go_ret
  exact ⟨⟨_, rfl⟩, (Below.refl _ _).alloc (Nat.le_refl _) _⟩
set_option maxHeartbeats 8000000 in
theorem has_cat (w : World) : Calls Tryz.prog 51 #[.string ⟨#[99, 97, 116]⟩] w fun e w' => e = .returned (.bool true) ∧ w' = w := by
  go_enter Tryz.func51, Tryz.ntmps51
  go_wp2_with fail
  go_ret
  exact ⟨rfl, rfl⟩
set_option maxHeartbeats 8000000 in
theorem has_dog (w : World) : Calls Tryz.prog 51 #[.string ⟨#[100, 111, 103]⟩] w fun e w' => e = .returned (.bool false) ∧ w' = w := by
  go_enter Tryz.func51, Tryz.ntmps51
  go_wp2_with fail
  go_ret
  exact ⟨rfl, rfl⟩
theorem conv_agg {w : World} {B : Nat} {v : Value} {bs : Bz} (h : w.ownsRow B 5 1 v bs.length (u8s bs)) {S : ByteArray} (hS : S.data.toList = bs) : (convert 41 9 v).run Tryz.prog w = .ok (.string S) w := by
  rw [conv_own h, show (⟨bs.toArray⟩ : ByteArray) = S by rw [← hS]]
theorem txt2 (w : World) (x y : ByteArray) : Txt (w.alloc (.cells #[.string x, .string y] 9)) (.slice (some ⟨w.heap.size, 0, none⟩) 2 2) [x, y] :=
  ⟨_, 2, rfl, fun i hi => by
    refine ⟨w.heap.size, 0, rfl, by simp, ?_⟩
    simp only [World.cell?, heap_alloc_new w]
    match i, hi with
    | 0, _ => rfl
    | 1, _ => rfl⟩
set_option pp.maxSteps 4000 in
set_option maxHeartbeats 8000000 in
theorem alive_any (w : World) : Calls Tryz.prog 22 #[] w fun e w' => e = .returned (.bool true) ∧ Below w.heap.size w w' := by
  have HN := Lib.hid (fun w => new_some 1 1 w)
  have HC := Lib.hid has_cat
  have HD := Lib.hid has_dog
  have HR : Hid (∀ (k : Option Addr) (w1 : World), Calls Tryz.prog 23 #[.pointer k, .string ⟨#[47]⟩, .string ⟨#[101, 99, 104, 111]⟩, .slice (some ⟨w1.heap.size, 0, none⟩) 2 2, .slice none 0 0] (w1.alloc (.cells #[.string ⟨#[97]⟩, .string ⟨#[98]⟩] 9)) (RunP [97, 32, 98, 10] (w1.alloc (.cells #[.string ⟨#[97]⟩, .string ⟨#[98]⟩] 9)))) := fun k w1 =>
    run_echo (.pointer k) ⟨#[47]⟩ (.slice (some ⟨w1.heap.size, 0, none⟩) 2 2) (.slice none 0 0) _ _ ⟨k, rfl⟩ ⟨_, _, _, rfl⟩ ⟨_, _, _, rfl⟩ fun t w2 hb hT =>
      echo_plain _ t _ _ _ _ _ _ _ _ [⟨#[97]⟩, ⟨#[98]⟩] w2 hT ((txt2 w1 _ _).below hb) (fun a c e => by injection e with _ _ e; simp; omega) (by simp) (by decide) (by decide) (by have := hb.size; omega)
  go_enter Tryz.func22, Tryz.ntmps22
  go_wp2_with (first
    | (go_at_call 14; refine (HN.out _).mono ?_; rintro e w1 ⟨⟨k, rfl⟩, h1⟩; have H1 := Lib.hid h1; clear h1; simp only [])
    | (go_at_call 23; refine (HR.out _ _).mono ?_; rintro e w2 ⟨o', rfl, h2, h3⟩; obtain ⟨oa, oc, rfl, _⟩ := own_slice h2; have hcv : (convert 41 9 (.slice oa 4 oc)).run Tryz.prog (w2.alloc (.cells #[.int .i64 0, .slice oa 4 oc, .slice none 0 0] 43)) = .ok (.string ⟨#[97, 32, 98, 10]⟩) _ := conv_agg (own_below h2 ((Below.refl _ _).alloc (Nat.le_refl _) _)) rfl; have H2 := Lib.hid h2; have H3 := Lib.hid h3; clear h2 h3; simp only [])
    | (go_at_call 51; first
        | ((with_reducible refine (HC.out _).mono ?_); rintro e w3 ⟨rfl, h3⟩; obtain rfl := h3.symm; simp only [])
        | ((with_reducible refine (HD.out _).mono ?_); rintro e w3 ⟨rfl, h3⟩; obtain rfl := h3.symm; simp only [])))
  go_ret
  exact ⟨rfl, ((H1.out.alloc H1.out.size _).trans (H3.out.mono (by have := H1.out.size; simp; omega))).alloc (by have := H1.out.size; have := H3.out.size; simp at this; omega) _⟩
end Go.Proofs.YtcmjpkfinbakkaaGreatDoor

namespace Go.Proofs.YtcmjpkfinbakkaaGreatDoor
open Go.RowKit Go.ChangeShapes Go.WideShapes
set_option linter.unusedVariables false
set_option maxRecDepth 100000

/-- What is complained of x. -/
def logB (name x : ByteArray) (k : Nat) : ByteArray := name ++ ⟨#[58, 32]⟩ ++ x ++ ⟨#[58, 32, 101, 114, 114, 111, 114, 32]⟩ ++ ⟨(Lib.decDigits k).toArray⟩ ++ ⟨#[10]⟩
theorem str_u8 (s : ByteArray) : Lib.strCells s = u8s s.data.toList := by
  unfold Lib.strCells u8s
  simp
theorem Tool.stat {w : World} {B t : Nat} {f : Value} {cwd name : ByteArray} {inn : Value} {st : Int} {o : Value} {s : Bz} {l : Value} {m : Bz} (h : Tool w B t f cwd name inn st o s l m) (st' : Int) :
    Tool (w.setCell ⟨t, 4, none⟩ (.int .i64 st')) B t f cwd name inn st' o s l m :=
  ⟨set_of h.blk 4 _, h.base, row_only h.out fun g hg _ => Below.heap_setCell _ _ _ _ (fun e => h.no (by rw [hg]; exact congrArg some e)), row_only h.log fun g hg _ => Below.heap_setCell _ _ _ _ (fun e => h.nl (by rw [hg]; exact congrArg some e)), h.no, h.nl, h.ap⟩
/-- The first complaint: what lies behind the append and the store. -/
theorem Tool.logged {w W w' : World} {B t : Nat} {f : Value} {cwd name : ByteArray} {inn : Value} {st : Int} {o l' : Value} {s m : Bz} (h : Tool w B t f cwd name inn st o s (.slice none 0 0) []) (hW : W.heap = w.heap)
    (r1 : w'.ownsRow W.heap.size 5 1 l' m.length (u8s m)) (r2 : W.grownBy w' none) (hos : W.os = w.os) (htp : W.tape = w.tape) (hou : W.output = w.output) :
    w'.heap[t]? = some (.cells (tlC f cwd name inn st o (.slice none 0 0)).toArray 98 (0, 0)) ∧ Tool (w'.setCell ⟨t, 6, none⟩ l') B t f cwd name inn st o s l' m ∧ Only (fun k => k = t) w (w'.setCell ⟨t, 6, none⟩ l') := by
  have ht : t < w.heap.size := blk_lt h.blk
  have h1 : w'.heap[t]? = some (.cells (tlC f cwd name inn st o (.slice none 0 0)).toArray 98 (0, 0)) := by
    rw [r2.block t (by rw [hW]; exact ht) (fun e => by cases e), hW]; exact h.blk
  have hge : ∀ g, l'.ownBlock = some g → w.heap.size ≤ g := fun g hg => by have := (own_lt r1 hg).1; rw [hW] at this; exact this
  have hlt : l'.ownBlock ≠ some t := fun e => by have := hge t e; omega
  have hB : B ≤ w.heap.size := by have := h.base; omega
  have r1' : w'.ownsRow B 5 1 l' m.length (u8s m) := ⟨r1.1, r1.2.elim .inl (fun ⟨g, cap, cur, hv, hg, r⟩ => .inr ⟨g, cap, cur, hv, by rw [hW] at hg; omega, r⟩)⟩
  refine ⟨h1, ⟨set_of h1 6 l', h.base, row_only h.out fun g hg hl => ?_, row_only r1' fun g hg _ => ?_, h.no, hlt, fun k hk hl => ?_⟩, ?_⟩
  · rw [Below.heap_setCell _ _ _ _ (fun e => h.no (by rw [hg]; exact congrArg some e)), r2.block g (by rw [hW]; exact hl) (fun e => by cases e), hW]
  · exact Below.heap_setCell _ _ _ _ (fun e => hlt (by rw [hg]; exact congrArg some e))
  · have := hge k hl; have := (own_lt h.out hk).2; omega
  · have hO : Only (fun k => k = t) w w' := ⟨r2.os.trans hos, r2.tape.trans htp, r2.output.trans hou, by rw [← hW]; exact r2.size, fun i hi hn => by
      rw [r2.block i (by rw [hW]; exact hi) (fun e => by cases e), hW]⟩
    exact hO.set (.inl rfl) 6 l'
def CompP (B t : Nat) (f : Value) (cwd name : ByteArray) (inn : Value) (st : Int) (o : Value) (s m : Bz) (w : World) (e : Ending) (w' : World) : Prop :=
  e = .returned (.tuple #[]) ∧ ∃ l', Tool w' B t f cwd name inn st o s l' m ∧ Only (fun k => k = t) w w'
set_option pp.maxSteps 4000 in
set_option maxHeartbeats 8000000 in
theorem complain_any (B t : Nat) (f : Value) (cwd name : ByteArray) (inn : Value) (st st0 : Int) (o : Value) (s : Bz) (x : ByteArray) (k : Nat) (w : World) (h : Tool w B t f cwd name inn st0 o s (.slice none 0 0) []) (hn : name.size ≤ 1000) (hx : x.size ≤ 1000) (hk1 : 1 ≤ k) (hk : k < 100) :
    Calls Tryz.prog 113 #[.pointer (some ⟨t, 0, none⟩), .int .i64 st, .string x, .int .i64 (k : Int)] w (CompP B t f cwd name inn st o s (logB name x k).data.toList w) := by
  obtain ⟨Q', hQ⟩ : ∃ Q', CompP B t f cwd name inn st o s (logB name x k).data.toList w = Q' := ⟨_, rfl⟩
  rw [hQ]
  obtain ⟨i0, hi, hz0, hz1, hz2⟩ := info_parts info5
  have hdk : (Lib.decDigits k).length ≤ 100 := by
    have : (Lib.decDigits k).length ≤ k + 1 := by
      have hd : ∀ n, (Lib.decDigits n).length ≤ n + 1 := by
        intro n
        induction n using Nat.strongRecOn with
        | ind n ih =>
          rw [Lib.decDigits]
          split
          · simp
          · have := ih (n / 10) (by omega)
            rw [List.length_append]
            simp
            omega
      exact hd k
    omega
  have hsz : (logB name x k).size = name.size + 2 + x.size + 8 + (Lib.decDigits k).length + 1 := by
    unfold logB
    simp only [ByteArray.size_append]
    rfl
  have h4 := h.stat st
  obtain ⟨w1, hw1⟩ : ∃ w1, w.setCell ⟨t, 4, none⟩ (.int .i64 st) = w1 := ⟨_, rfl⟩
  rw [hw1] at h4
  have hO1 : Only (fun k => k = t) w w1 := by rw [← hw1]; exact (Only.refl (fun k => k = t) w).set (.inl rfl) 4 _
  obtain ⟨l', w', hrun, r1, r2, _⟩ := Lib.run_append_own_string (P := Tryz.prog) (w := w1.drew) w1.drew.heap.size 41 9 41 5 i0 Tryz.underlying41 Tryz.underlying9 hi hz0 hz1 hz2 (.slice none 0 0) 0 [] (World.ownsRow_nil _ _ _ _) (logB name x k) (by unfold maxLen; omega) (by omega) (Nat.le_refl _)
  rw [Nat.zero_add, List.nil_append, str_u8, ← dl] at r1
  obtain ⟨g1, g2, g3⟩ := h4.logged (W := w1.drew) rfl r1 r2 rfl rfl rfl
  obtain ⟨oa, oc, rfl, _⟩ := own_slice r1
  have p4 : w.cell? ⟨t, 4, none⟩ = some (.int .i64 st0) := cell_of h.blk 4
  have e4 := free_of h.blk 4
  have p6 : w1.cell? ⟨t, 6, none⟩ = some (.slice none 0 0) := cell_of h4.blk 6
  have p2 : w1.cell? ⟨t, 2, none⟩ = some (.string name) := cell_of h4.blk 2
  have q6 : w'.cell? ⟨t, 6, none⟩ = some (.slice none 0 0) := cell_of g1 6
  have q2 : w'.cell? ⟨t, 2, none⟩ = some (.string name) := cell_of g1 2
  have e6 := free_of g1 6
  have kne : ¬ ((k : Int) = 0) := by omega
  have kbe : ((k : Int) == 0) = false := by rw [beq_eq_false_iff_ne]; exact kne
  have HI := Lib.hid (fun w => Tryz.strconv_Itoa_small k hk w)
  have HRUN := Lib.hid hrun
  have H2 : Hid (Q' (.returned (.tuple #[])) (w'.setCell ⟨t, 6, none⟩ (.slice oa (logB name x k).data.toList.length oc))) := by
    rw [← hQ]; exact ⟨rfl, _, g2, hO1.trans g3 (fun _ h => h) (fun _ _ h => h)⟩
  have z1 : ¬ (9223372036854775807 < name.size + 2) := by omega
  have z2 : ¬ (9223372036854775807 < name.size + 2 + x.size) := by omega
  have z3 : ¬ (9223372036854775807 < name.size + 2 + x.size + 8) := by omega
  have z4 : ¬ (9223372036854775807 < name.size + 2 + x.size + 8 + (Lib.decDigits k).length) := by omega
  have z5 : ¬ (9223372036854775807 < name.size + 2 + x.size + 8 + (Lib.decDigits k).length + 1) := by omega
  have hDs : (⟨(Lib.decDigits k).toArray⟩ : ByteArray).size = (Lib.decDigits k).length := rfl
  unfold logB at HRUN H2
  generalize (⟨(Lib.decDigits k).toArray⟩ : ByteArray) = D at HRUN H2 HI hDs
  have HW1 := Lib.hid hw1
  clear hrun r1 r2 g1 g2 g3 h4 h hQ hsz hdk hw1 hO1 hn hx
  go_enter Tryz.func113, Tryz.ntmps113
  go_wp2_with fail
  rw [HW1.out]
  refine wp_region_made 18 4 37 _ (by kernel_rfl) (by kernel_rfl) (by kernel_rfl) (Nat.le_refl 37) rfl ?_
  have p6d : w1.drew.cell? ⟨t, 6, none⟩ = some (.slice none 0 0) := p6
  have p2d : w1.drew.cell? ⟨t, 2, none⟩ = some (.string name) := p2
  generalize w1.drew = wz at p6d p2d HRUN ⊢
  have r6 : ∀ b : One wz, b.v.cell? ⟨t, 6, none⟩ = some (.slice none 0 0) := fun b => by rw [b.h]; exact p6d
  have r2 : ∀ b : One wz, b.v.cell? ⟨t, 2, none⟩ = some (.string name) := fun b => by rw [b.h]; exact p2d
  have HC1 : Hid (∀ b : One wz, Calls Tryz.prog 147 #[.int .i64 k] b.v fun e w' => e = .returned (.string D) ∧ ∃ b' : One wz, w' = b'.v) := fun b => (HI.out b.v).mono fun e w' ⟨he, hw⟩ => ⟨he, b, hw⟩
  clear p6 p6d p2 p2d
  unfold isOne
  simp only [List.take_succ_cons, List.take_zero, List.drop_succ_cons, List.drop_zero]
  repeat (go_big_quiet_step (with_reducible exact HC1.out _))
  refine wpQuiet_nil ?_
  refine ⟨by kernel_rfl, .slice oa (name ++ ⟨#[58, 32]⟩ ++ x ++ ⟨#[58, 32, 101, 114, 114, 111, 114, 32]⟩ ++ D ++ ⟨#[10]⟩ : ByteArray).data.toList.length oc, w', ?_, ?_, ?_⟩
  · have hR := HRUN.out
    simp [execOp, resolve, invoke, builtin, Act.eval, hR, Result.andThen]
  · clear r6 r2 HC1
    have r6 : ∀ b : One w', b.v.cell? ⟨t, 6, none⟩ = some (.slice none 0 0) := fun b => by rw [b.h]; exact q6
    have r2 : ∀ b : One w', b.v.cell? ⟨t, 2, none⟩ = some (.string name) := fun b => by rw [b.h]; exact q2
    have HC1 : Hid (∀ b : One w', Calls Tryz.prog 147 #[.int .i64 k] b.v fun e w' => e = .returned (.string D) ∧ ∃ b' : One _, w' = b'.v) := fun b => (HI.out b.v).mono fun e w' ⟨he, hw⟩ => ⟨he, b, hw⟩
    repeat (go_big_quiet_step (with_reducible exact HC1.out _))
    exact wpQuiet_nil rfl
  · clear r6 r2 HC1
    generalize (name ++ ⟨#[58, 32]⟩ ++ x ++ ⟨#[58, 32, 101, 114, 114, 111, 114, 32]⟩ ++ D ++ ⟨#[10]⟩ : ByteArray).data.toList.length = nn at H2 ⊢
    go_wp2_with fail
    refine wpQuiet_nil ?_
    go_end0
    exact H2.out
end Go.Proofs.YtcmjpkfinbakkaaGreatDoor
