import Derived.Test.YthpmdgkhpigofaaI
import Derived.Laws.BytesArg
namespace Go.Proofs.Ythpmdgkhpigofaa
open Go.RowKit

theorem conv_of (W : World) (l : List UInt8) (cs : Array Value) (n : Nat) (hn : l.length = n) (hcs : cs.toList = l.map fun c => Value.int .u8 c.toNat) :
    (convert 33 9 (.slice (some ⟨W.heap.size, 0, none⟩) n n)).run Try.prog (W.alloc (.cells cs 5)) = .ok (.string ⟨l.toArray⟩) (W.alloc (.cells cs 5)) := by
  have h := run_convert_bytes_arg (P := Try.prog) (W.alloc (.cells cs 5)) 33 5 Try.underlying33 Try.underlying5 W.heap.size 0 n n (l.map fun c => (c.toNat : Int)) (by simp [hn]) ?_ 9 Try.underlying9
  · rw [h]
    congr 2
    unfold strOfNums
    congr 1
    rw [List.map_map]
    exact congrArg List.toArray ((List.map_congr_left (fun c _ => by simp)).trans (List.map_id l))
  · intro i hi
    have hi' : i < l.length := by omega
    have hc : cs[i]? = some (Value.int .u8 l[i].toNat) := by
      rw [← Array.getElem?_toList, hcs]; simp [hi']
    rw [Nat.zero_add]
    simp only [World.cell?, heap_alloc_new]
    simp [hc, hi']

theorem gb_at (l : List UInt8) (i : Nat) : gb ⟨l.toArray⟩ i = l.getD i 0 := by unfold gb; simp
theorem size_at (l : List UInt8) : (⟨l.toArray⟩ : ByteArray).size = l.length := by simp [ByteArray.size]

theorem rb_plain {s : ByteArray} {i : Nat} (h : gb s i ≠ 92) : rb s i = gb s i := by unfold rb; rw [if_neg (fun h' => h h'.1)]
theorem rbn_plain {s : ByteArray} {i : Nat} (h : gb s i ≠ 92) : rbn s i = i + 1 := by unfold rbn; rw [if_neg (fun h' => h h'.1)]

theorem one_set (p : ByteArray) (f : Nat → Bool) (n : Nat) (h91 : gb p 0 = 91) (hr : rdSet p 1 = (f, n)) (hn : n = p.size) (hn0 : n ≠ 0) (l : List UInt8) :
    matchB p ⟨l.toArray⟩ = (decide (l.length = 1) && f (l.getD 0 0).toNat) := by
  have hp : pcs p (p.size + 1) 0 true = [itSet f] := by
    have hpos : 0 < p.size := by omega
    have h0 := pcs_set (s := p) (k := 0) hpos h91 (by rw [hr]; exact hn0)
    rw [Nat.sub_zero, hr, Nat.sub_zero] at h0
    rw [h0, hn]
    congr 1
    cases hz : p.size with
    | zero => rfl
    | succ m => rw [pcs, if_neg (by omega)]
  rw [Bool.eq_iff_iff, matchB_iff]
  unfold Matches
  rw [hp, size_at]
  simp only [Mx, itSet, gb_at]
  rw [if_neg (by decide)]
  simp only [Bool.and_eq_true, decide_eq_true_eq]
  constructor
  · rintro ⟨h1, h2, h3⟩; exact ⟨by omega, h2⟩
  · rintro ⟨h1, h2⟩; exact ⟨by omega, h2, by omega⟩

theorem set_range (lo hi : UInt8) (l1 : lo ≠ 92) (l3 : lo ≠ 33) (h1 : hi ≠ 92) (h2 : hi ≠ 93) :
    rdSet ⟨#[91, lo, 45, hi, 93]⟩ 1 = (fun c => decide (lo.toNat ≤ c) && decide (c ≤ hi.toNat), 5) := by
  have hs : (⟨#[91, lo, 45, hi, 93]⟩ : ByteArray).size = 5 := rfl
  have g1 : gb ⟨#[91, lo, 45, hi, 93]⟩ 1 = lo := rfl
  have g2 : gb ⟨#[91, lo, 45, hi, 93]⟩ 2 = 45 := rfl
  have g3 : gb ⟨#[91, lo, 45, hi, 93]⟩ 3 = hi := rfl
  have g4 : gb ⟨#[91, lo, 45, hi, 93]⟩ 4 = 93 := rfl
  have hnb : nbOf ⟨#[91, lo, 45, hi, 93]⟩ 1 = false := by unfold nbOf; rw [g1]; simp [l3]
  have n1 : rbn ⟨#[91, lo, 45, hi, 93]⟩ 1 = 2 := rbn_plain (by rw [g1]; exact l1)
  have n3 : rbn ⟨#[91, lo, 45, hi, 93]⟩ 3 = 4 := rbn_plain (by rw [g3]; exact h1)
  have b1 : rb ⟨#[91, lo, 45, hi, 93]⟩ 1 = lo := by rw [rb_plain (by rw [g1]; exact l1), g1]
  have b3 : rb ⟨#[91, lo, 45, hi, 93]⟩ 3 = hi := by rw [rb_plain (by rw [g3]; exact h1), g3]
  unfold rdSet
  rw [hnb, show iOf false 1 = 1 from rfl, hs]
  rw [rs_span _ 1 true _ 4 (by rw [hs]; omega) (by simp) (by rw [n1, hs, g2, g3]; exact ⟨by omega, rfl, h2⟩)]
  rw [n1, n3, b1, b3, rs_close _ 4 _ 3 (by rw [hs]; omega) g4]
  simp

theorem set_not (lo hi : UInt8) (l1 : lo ≠ 92) (h1 : hi ≠ 92) (h2 : hi ≠ 93) :
    rdSet ⟨#[91, 33, lo, 45, hi, 93]⟩ 1 = (fun c => !(decide (lo.toNat ≤ c) && decide (c ≤ hi.toNat)), 6) := by
  have hs : (⟨#[91, 33, lo, 45, hi, 93]⟩ : ByteArray).size = 6 := rfl
  have g2 : gb ⟨#[91, 33, lo, 45, hi, 93]⟩ 2 = lo := rfl
  have g3 : gb ⟨#[91, 33, lo, 45, hi, 93]⟩ 3 = 45 := rfl
  have g4 : gb ⟨#[91, 33, lo, 45, hi, 93]⟩ 4 = hi := rfl
  have g5 : gb ⟨#[91, 33, lo, 45, hi, 93]⟩ 5 = 93 := rfl
  have hnb : nbOf ⟨#[91, 33, lo, 45, hi, 93]⟩ 1 = true := by unfold nbOf; rw [hs]; exact decide_eq_true ⟨by omega, rfl⟩
  have n1 : rbn ⟨#[91, 33, lo, 45, hi, 93]⟩ 2 = 3 := rbn_plain (by rw [g2]; exact l1)
  have n3 : rbn ⟨#[91, 33, lo, 45, hi, 93]⟩ 4 = 5 := rbn_plain (by rw [g4]; exact h1)
  have b1 : rb ⟨#[91, 33, lo, 45, hi, 93]⟩ 2 = lo := by rw [rb_plain (by rw [g2]; exact l1), g2]
  have b3 : rb ⟨#[91, 33, lo, 45, hi, 93]⟩ 4 = hi := by rw [rb_plain (by rw [g4]; exact h1), g4]
  unfold rdSet
  rw [hnb, show iOf true 1 = 2 from rfl, hs]
  rw [rs_span _ 2 true _ 4 (by rw [hs]; omega) (by simp) (by rw [n1, hs, g3, g4]; exact ⟨by omega, rfl, h2⟩)]
  rw [n1, n3, b1, b3, rs_close _ 5 _ 3 (by rw [hs]; omega) g5]
  simp

theorem set_two (lo hi : UInt8) (l1 : lo ≠ 92) (l3 : lo ≠ 33) (h1 : hi ≠ 92) (h2 : hi ≠ 93) (h3 : hi ≠ 45) :
    rdSet ⟨#[91, lo, hi, 93]⟩ 1 = (fun c => (decide (lo.toNat ≤ c) && decide (c ≤ lo.toNat)) || (decide (hi.toNat ≤ c) && decide (c ≤ hi.toNat)), 4) := by
  have hs : (⟨#[91, lo, hi, 93]⟩ : ByteArray).size = 4 := rfl
  have g1 : gb ⟨#[91, lo, hi, 93]⟩ 1 = lo := rfl
  have g2 : gb ⟨#[91, lo, hi, 93]⟩ 2 = hi := rfl
  have g3 : gb ⟨#[91, lo, hi, 93]⟩ 3 = 93 := rfl
  have hnb : nbOf ⟨#[91, lo, hi, 93]⟩ 1 = false := by unfold nbOf; rw [g1]; simp [l3]
  have n1 : rbn ⟨#[91, lo, hi, 93]⟩ 1 = 2 := rbn_plain (by rw [g1]; exact l1)
  have n2 : rbn ⟨#[91, lo, hi, 93]⟩ 2 = 3 := rbn_plain (by rw [g2]; exact h1)
  have b1 : rb ⟨#[91, lo, hi, 93]⟩ 1 = lo := by rw [rb_plain (by rw [g1]; exact l1), g1]
  have b2 : rb ⟨#[91, lo, hi, 93]⟩ 2 = hi := by rw [rb_plain (by rw [g2]; exact h1), g2]
  unfold rdSet
  rw [hnb, show iOf false 1 = 1 from rfl, hs]
  rw [rs_one _ 1 true _ 3 (by rw [hs]; omega) (by simp) (by rw [n1, g2]; exact fun h => h3 h.2.1)]
  rw [n1, b1, rs_one _ 2 false _ 2 (by rw [hs]; omega) (by rw [g2]; simp [h2]) (by rw [n2, g3]; exact fun h => absurd h.2.1 (by decide))]
  rw [n2, b2, rs_close _ 3 _ 1 (by rw [hs]; omega) g3]
  simp

def inR (lo hi c : UInt8) : Bool := decide (lo.toNat ≤ c.toNat) && decide (c.toNat ≤ hi.toNat)
theorem m_range (lo hi : UInt8) (l1 : lo ≠ 92) (l3 : lo ≠ 33) (h1 : hi ≠ 92) (h2 : hi ≠ 93) (l : List UInt8) :
    matchB ⟨#[91, lo, 45, hi, 93]⟩ ⟨l.toArray⟩ = (decide (l.length = 1) && inR lo hi (l.getD 0 0)) := one_set _ _ 5 rfl (set_range lo hi l1 l3 h1 h2) rfl (by decide) l
theorem m_not (lo hi : UInt8) (l1 : lo ≠ 92) (h1 : hi ≠ 92) (h2 : hi ≠ 93) (l : List UInt8) :
    matchB ⟨#[91, 33, lo, 45, hi, 93]⟩ ⟨l.toArray⟩ = (decide (l.length = 1) && !inR lo hi (l.getD 0 0)) := one_set _ _ 6 rfl (set_not lo hi l1 h1 h2) rfl (by decide) l
theorem m_two (lo hi : UInt8) (l1 : lo ≠ 92) (l3 : lo ≠ 33) (h1 : hi ≠ 92) (h2 : hi ≠ 93) (h3 : hi ≠ 45) (l : List UInt8) :
    matchB ⟨#[91, lo, hi, 93]⟩ ⟨l.toArray⟩ = (decide (l.length = 1) && (inR lo lo (l.getD 0 0) || inR hi hi (l.getD 0 0))) := one_set _ _ 4 rfl (set_two lo hi l1 l3 h1 h2 h3) rfl (by decide) l


theorem m1c (lo hi c : UInt8) (l1 : lo ≠ 92) (l3 : lo ≠ 33) (h1 : hi ≠ 92) (h2 : hi ≠ 93) : matchB ⟨#[91, lo, 45, hi, 93]⟩ ⟨#[c]⟩ = inR lo hi c := (m_range lo hi l1 l3 h1 h2 [c]).trans (by simp)
theorem m1n (lo hi : UInt8) (l1 : lo ≠ 92) (l3 : lo ≠ 33) (h1 : hi ≠ 92) (h2 : hi ≠ 93) : matchB ⟨#[91, lo, 45, hi, 93]⟩ ⟨#[]⟩ = false := (m_range lo hi l1 l3 h1 h2 []).trans (by simp)
theorem m2c (lo hi c : UInt8) (l1 : lo ≠ 92) (h1 : hi ≠ 92) (h2 : hi ≠ 93) : matchB ⟨#[91, 33, lo, 45, hi, 93]⟩ ⟨#[c]⟩ = !inR lo hi c := (m_not lo hi l1 h1 h2 [c]).trans (by simp)
theorem m2cc (lo hi c : UInt8) (l1 : lo ≠ 92) (h1 : hi ≠ 92) (h2 : hi ≠ 93) : matchB ⟨#[91, 33, lo, 45, hi, 93]⟩ ⟨#[c, c]⟩ = false := (m_not lo hi l1 h1 h2 [c, c]).trans (by simp)
theorem m3c (lo hi c : UInt8) (l1 : lo ≠ 92) (l3 : lo ≠ 33) (h1 : hi ≠ 92) (h2 : hi ≠ 93) (h3 : hi ≠ 45) : matchB ⟨#[91, lo, hi, 93]⟩ ⟨#[c]⟩ = (inR lo lo c || inR hi hi c) := (m_two lo hi l1 l3 h1 h2 h3 [c]).trans (by simp)

theorem inR_no {lo hi c : UInt8} (h : ¬ lo.toNat ≤ c.toNat) : inR lo hi c = false := by unfold inR; simp [h]
theorem inR_yes {lo hi c : UInt8} (h : lo.toNat ≤ c.toNat) : inR lo hi c = decide (c.toNat ≤ hi.toNat) := by unfold inR; simp [h]
theorem inR_same (a c : UInt8) : inR a a c = ((c.toNat : Int) == (a.toNat : Int)) := by unfold inR; rw [Bool.eq_iff_iff]; simp; omega

set_option maxRecDepth 100000 in
set_option maxHeartbeats 4000000 in
theorem sets_in (lo hi c : UInt8) (w : World) (l1 : lo ≠ 92) (l2 : lo ≠ 93) (l3 : lo ≠ 33) (l4 : lo ≠ 45) (h1 : hi ≠ 92) (h2 : hi ≠ 93) (h3 : hi ≠ 45) :
    Calls Try.prog 8 #[.int .u8 lo.toNat, .int .u8 hi.toNat, .int .u8 c.toNat] w fun e w' => e = .returned (.bool true) ∧ Below w.heap.size w w' := by
  have l1' : ((lo.toNat : Int) == 92) = false := sz_ne (n := 92) (by decide) l1
  have l2' : ((lo.toNat : Int) == 93) = false := sz_ne (n := 93) (by decide) l2
  have l3' : ((lo.toNat : Int) == 33) = false := sz_ne (n := 33) (by decide) l3
  have l4' : ((lo.toNat : Int) == 45) = false := sz_ne (n := 45) (by decide) l4
  have h1' : ((hi.toNat : Int) == 92) = false := sz_ne (n := 92) (by decide) h1
  have h2' : ((hi.toNat : Int) == 93) = false := sz_ne (n := 93) (by decide) h2
  have h3' : ((hi.toNat : Int) == 45) = false := sz_ne (n := 45) (by decide) h3
  have M1 := Lib.hid (m1c lo hi c l1 l3 h1 h2)
  have M1n := Lib.hid (m1n lo hi l1 l3 h1 h2)
  have M2 := Lib.hid (m2c lo hi c l1 h1 h2)
  have M2c := Lib.hid (m2cc lo hi c l1 h1 h2)
  have M3 := Lib.hid (m3c lo hi c l1 l3 h1 h2 h3)
  have Z0 : Hid ((⟨#[c]⟩ : ByteArray).size ≤ 100000) := by unfold Hid; rw [show (⟨#[c]⟩ : ByteArray).size = 1 from rfl]; omega
  have Z1 : Hid (({ data := #[91] } ++ { data := #[lo, 45, hi] } ++ { data := #[93] } : ByteArray).size ≤ 100000) := by unfold Hid; rw [show ({ data := #[91] } ++ { data := #[lo, 45, hi] } ++ { data := #[93] } : ByteArray).size = 5 from rfl]; omega
  have Z2 : Hid (({ data := #[91, 33] } ++ { data := #[lo, 45, hi] } ++ { data := #[93] } : ByteArray).size ≤ 100000) := by unfold Hid; rw [show ({ data := #[91, 33] } ++ { data := #[lo, 45, hi] } ++ { data := #[93] } : ByteArray).size = 6 from rfl]; omega
  have Z3 : Hid ((⟨#[91, lo, 45, hi, 93]⟩ : ByteArray).size ≤ 100000) := by unfold Hid; rw [show (⟨#[91, lo, 45, hi, 93]⟩ : ByteArray).size = 5 from rfl]; omega
  have Z4 : Hid ((⟨#[91, 33, lo, 45, hi, 93]⟩ : ByteArray).size ≤ 100000) := by unfold Hid; rw [show (⟨#[91, 33, lo, 45, hi, 93]⟩ : ByteArray).size = 6 from rfl]; omega
  have Z5 : Hid (({ data := #[c] } ++ { data := #[c] } : ByteArray).size ≤ 100000) := by unfold Hid; rw [show ({ data := #[c] } ++ { data := #[c] } : ByteArray).size = 2 from rfl]; omega
  have Z6 : Hid (({ data := #[91] } ++ { data := #[lo, hi] } ++ { data := #[93] } : ByteArray).size ≤ 100000) := by unfold Hid; rw [show ({ data := #[91] } ++ { data := #[lo, hi] } ++ { data := #[93] } : ByteArray).size = 4 from rfl]; omega
  have k3 : ∀ (W : World) (n : Nat), n = W.heap.size → (convert 33 9 (.slice (some ⟨n, 0, none⟩) 3 3)).run Try.prog (W.alloc (.cells #[.int .u8 lo.toNat, .int .u8 45, .int .u8 hi.toNat] 5)) = .ok (.string ⟨#[lo, 45, hi]⟩) (W.alloc (.cells #[.int .u8 lo.toNat, .int .u8 45, .int .u8 hi.toNat] 5)) := fun W n hn => by subst hn; exact conv_of W [lo, 45, hi] _ 3 rfl rfl
  have k2 : ∀ (W : World) (n : Nat), n = W.heap.size → (convert 33 9 (.slice (some ⟨n, 0, none⟩) 2 2)).run Try.prog (W.alloc (.cells #[.int .u8 lo.toNat, .int .u8 hi.toNat] 5)) = .ok (.string ⟨#[lo, hi]⟩) (W.alloc (.cells #[.int .u8 lo.toNat, .int .u8 hi.toNat] 5)) := fun W n hn => by subst hn; exact conv_of W [lo, hi] _ 2 rfl rfl
  have k1 : ∀ (W : World) (n : Nat), n = W.heap.size → (convert 33 9 (.slice (some ⟨n, 0, none⟩) 1 1)).run Try.prog (W.alloc (.cells #[.int .u8 c.toNat] 5)) = .ok (.string ⟨#[c]⟩) (W.alloc (.cells #[.int .u8 c.toNat] 5)) := fun W n hn => by subst hn; exact conv_of W [c] _ 1 rfl rfl
  clear l1 l2 l3 l4 h1 h2 h3
  by_cases ha : lo.toNat ≤ c.toNat
  · have RA := Lib.hid (inR_yes (hi := hi) ha)
    by_cases hb : c.toNat = lo.toNat
    · have hb' : ((c.toNat : Int) == (lo.toNat : Int)) = true := by simp [hb]
      have RB : Hid ((inR lo lo c || inR hi hi c) = true) := by unfold Hid; rw [inR_same lo c, hb']; rfl
      clear hb
      go_enter Try.func8, Try.ntmps8
      go_wp2_with fail
      refine (alive_any _).mono ?_
      rintro e w1 ⟨rfl, hB1⟩
      go_wp2_with fail
      refine (Match_b _ _ _ Z1.out Z0.out).mono ?_
      rintro e w2 ⟨rfl, hB2⟩
      have hBa := hB1.trans (((((Below.refl _ _).alloc (Nat.le_refl _) _).alloc (by simp) _).alloc (by simp; omega) _ |>.trans (hB2.mono (by simp; omega))).mono hB1.size)
      rw [show ({ data := #[91] } ++ { data := #[lo, 45, hi] } ++ { data := #[93] } : ByteArray) = ⟨#[91, lo, 45, hi, 93]⟩ from rfl, M1.out, RA.out]
      clear hB2
      go_wp2_with fail
      refine (Match_b _ _ _ Z2.out Z0.out).mono ?_
      rintro e w3 ⟨rfl, hB3⟩
      have hBb := hBa.trans (hB3.mono hBa.size)
      rw [show ({ data := #[91, 33] } ++ { data := #[lo, 45, hi] } ++ { data := #[93] } : ByteArray) = ⟨#[91, 33, lo, 45, hi, 93]⟩ from rfl, M2.out, RA.out]
      clear hB3
      go_wp2_with fail
      refine (Match_b _ _ _ Z3.out (by decide)).mono ?_
      rintro e w4 ⟨rfl, hB4⟩
      have hBc := hBb.trans (hB4.mono hBb.size)
      rw [M1n.out]
      clear hB4
      go_wp2_with fail
      refine (Match_b _ _ _ Z4.out Z5.out).mono ?_
      rintro e w5 ⟨rfl, hB5⟩
      have hBd := hBc.trans (hB5.mono hBc.size)
      rw [show ({ data := #[c] } ++ { data := #[c] } : ByteArray) = ⟨#[c, c]⟩ from rfl, M2c.out]
      clear hB5
      go_wp2_with fail
      refine (Match_b _ _ _ Z6.out Z0.out).mono ?_
      rintro e w6 ⟨rfl, hB6⟩
      have hBe := Lib.hid (hBd.trans (((Below.refl _ _).alloc (Nat.le_refl _) _ |>.trans (hB6.mono (by simp))).mono hBd.size))
      rw [show ({ data := #[91] } ++ { data := #[lo, hi] } ++ { data := #[93] } : ByteArray) = ⟨#[91, lo, hi, 93]⟩ from rfl, M3.out, RB.out]
      clear hB6
      go_wp2_with fail
      go_ret
      exact ⟨rfl, hBe.out⟩
    · have hb' : ((c.toNat : Int) == (lo.toNat : Int)) = false := by rw [beq_eq_false_iff_ne]; omega
      have RB : Hid ((inR lo lo c || inR hi hi c) = ((c.toNat : Int) == (hi.toNat : Int))) := by unfold Hid; rw [inR_same lo c, hb', inR_same hi c]; rfl
      clear hb
      go_enter Try.func8, Try.ntmps8
      go_wp2_with fail
      refine (alive_any _).mono ?_
      rintro e w1 ⟨rfl, hB1⟩
      go_wp2_with fail
      refine (Match_b _ _ _ Z1.out Z0.out).mono ?_
      rintro e w2 ⟨rfl, hB2⟩
      have hBa := hB1.trans (((((Below.refl _ _).alloc (Nat.le_refl _) _).alloc (by simp) _).alloc (by simp; omega) _ |>.trans (hB2.mono (by simp; omega))).mono hB1.size)
      rw [show ({ data := #[91] } ++ { data := #[lo, 45, hi] } ++ { data := #[93] } : ByteArray) = ⟨#[91, lo, 45, hi, 93]⟩ from rfl, M1.out, RA.out]
      clear hB2
      go_wp2_with fail
      refine (Match_b _ _ _ Z2.out Z0.out).mono ?_
      rintro e w3 ⟨rfl, hB3⟩
      have hBb := hBa.trans (hB3.mono hBa.size)
      rw [show ({ data := #[91, 33] } ++ { data := #[lo, 45, hi] } ++ { data := #[93] } : ByteArray) = ⟨#[91, 33, lo, 45, hi, 93]⟩ from rfl, M2.out, RA.out]
      clear hB3
      go_wp2_with fail
      refine (Match_b _ _ _ Z3.out (by decide)).mono ?_
      rintro e w4 ⟨rfl, hB4⟩
      have hBc := hBb.trans (hB4.mono hBb.size)
      rw [M1n.out]
      clear hB4
      go_wp2_with fail
      refine (Match_b _ _ _ Z4.out Z5.out).mono ?_
      rintro e w5 ⟨rfl, hB5⟩
      have hBd := hBc.trans (hB5.mono hBc.size)
      rw [show ({ data := #[c] } ++ { data := #[c] } : ByteArray) = ⟨#[c, c]⟩ from rfl, M2c.out]
      clear hB5
      go_wp2_with fail
      refine (Match_b _ _ _ Z6.out Z0.out).mono ?_
      rintro e w6 ⟨rfl, hB6⟩
      have hBe := Lib.hid (hBd.trans (((Below.refl _ _).alloc (Nat.le_refl _) _ |>.trans (hB6.mono (by simp))).mono hBd.size))
      rw [show ({ data := #[91] } ++ { data := #[lo, hi] } ++ { data := #[93] } : ByteArray) = ⟨#[91, lo, hi, 93]⟩ from rfl, M3.out, RB.out]
      clear hB6
      go_wp2_with fail
      go_ret
      exact ⟨rfl, hBe.out⟩
  · have RA := Lib.hid (inR_no (hi := hi) ha)
    have hb' : ((c.toNat : Int) == (lo.toNat : Int)) = false := by rw [beq_eq_false_iff_ne]; omega
    have RB : Hid ((inR lo lo c || inR hi hi c) = ((c.toNat : Int) == (hi.toNat : Int))) := by unfold Hid; rw [inR_same lo c, hb', inR_same hi c]; rfl
    go_enter Try.func8, Try.ntmps8
    go_wp2_with fail
    refine (alive_any _).mono ?_
    rintro e w1 ⟨rfl, hB1⟩
    go_wp2_with fail
    refine (Match_b _ _ _ Z1.out Z0.out).mono ?_
    rintro e w2 ⟨rfl, hB2⟩
    have hBa := hB1.trans (((((Below.refl _ _).alloc (Nat.le_refl _) _).alloc (by simp) _).alloc (by simp; omega) _ |>.trans (hB2.mono (by simp; omega))).mono hB1.size)
    rw [show ({ data := #[91] } ++ { data := #[lo, 45, hi] } ++ { data := #[93] } : ByteArray) = ⟨#[91, lo, 45, hi, 93]⟩ from rfl, M1.out, RA.out]
    clear hB2
    go_wp2_with fail
    refine (Match_b _ _ _ Z2.out Z0.out).mono ?_
    rintro e w3 ⟨rfl, hB3⟩
    have hBb := hBa.trans (hB3.mono hBa.size)
    rw [show ({ data := #[91, 33] } ++ { data := #[lo, 45, hi] } ++ { data := #[93] } : ByteArray) = ⟨#[91, 33, lo, 45, hi, 93]⟩ from rfl, M2.out, RA.out]
    clear hB3
    go_wp2_with fail
    refine (Match_b _ _ _ Z3.out (by decide)).mono ?_
    rintro e w4 ⟨rfl, hB4⟩
    have hBc := hBb.trans (hB4.mono hBb.size)
    rw [M1n.out]
    clear hB4
    go_wp2_with fail
    refine (Match_b _ _ _ Z4.out Z5.out).mono ?_
    rintro e w5 ⟨rfl, hB5⟩
    have hBd := hBc.trans (hB5.mono hBc.size)
    rw [show ({ data := #[c] } ++ { data := #[c] } : ByteArray) = ⟨#[c, c]⟩ from rfl, M2c.out]
    clear hB5
    go_wp2_with fail
    refine (Match_b _ _ _ Z6.out Z0.out).mono ?_
    rintro e w6 ⟨rfl, hB6⟩
    have hBe := Lib.hid (hBd.trans (((Below.refl _ _).alloc (Nat.le_refl _) _ |>.trans (hB6.mono (by simp))).mono hBd.size))
    rw [show ({ data := #[91] } ++ { data := #[lo, hi] } ++ { data := #[93] } : ByteArray) = ⟨#[91, lo, hi, 93]⟩ from rfl, M3.out, RB.out]
    clear hB6
    go_wp2_with fail
    go_ret
    exact ⟨rfl, hBe.out⟩

theorem u8_of (a : Int) (h : (Lit.int .u8 a).wf = true) : ∃ c : UInt8, a = (c.toNat : Int) := by
  have hb : 0 ≤ a ∧ a ≤ 255 := by simpa [Lit.wf, IntKind.min, IntKind.max, IntKind.signed, IntKind.bits] using h
  exact ⟨UInt8.ofNat a.toNat, by simp; omega⟩

set_option maxRecDepth 100000 in
set_option maxHeartbeats 1000000 in
theorem sets_walk (a b c : Int) (ha : (Lit.int .u8 a).wf = true) (hb : (Lit.int .u8 b).wf = true) (hc : (Lit.int .u8 c).wf = true) (w : World) :
    Calls Try.prog 8 #[.int .u8 a, .int .u8 b, .int .u8 c] w fun e w' => e = .returned (.bool true) ∧ Below w.heap.size w w' := by
  obtain ⟨lo, rfl⟩ := u8_of a ha
  obtain ⟨hi, rfl⟩ := u8_of b hb
  obtain ⟨x, rfl⟩ := u8_of c hc
  clear ha hb hc
  by_cases l1 : lo = 92
  · subst l1
    go_enter Try.func8, Try.ntmps8
    go_wp2_with (go_at_call 10; refine (alive_any _).mono ?_; rintro e w1 ⟨rfl, hB1⟩)
    all_goals (go_ret; exact ⟨rfl, hB1⟩)
  by_cases h1 : hi = 92
  · subst h1
    go_enter Try.func8, Try.ntmps8
    go_wp2_with (go_at_call 10; refine (alive_any _).mono ?_; rintro e w1 ⟨rfl, hB1⟩)
    all_goals (go_ret; exact ⟨rfl, hB1⟩)
  by_cases l2 : lo = 93
  · subst l2
    go_enter Try.func8, Try.ntmps8
    go_wp2_with (go_at_call 10; refine (alive_any _).mono ?_; rintro e w1 ⟨rfl, hB1⟩)
    all_goals (go_ret; exact ⟨rfl, hB1⟩)
  by_cases h2 : hi = 93
  · subst h2
    go_enter Try.func8, Try.ntmps8
    go_wp2_with (go_at_call 10; refine (alive_any _).mono ?_; rintro e w1 ⟨rfl, hB1⟩)
    all_goals (go_ret; exact ⟨rfl, hB1⟩)
  by_cases l3 : lo = 33
  · subst l3
    go_enter Try.func8, Try.ntmps8
    go_wp2_with (go_at_call 10; refine (alive_any _).mono ?_; rintro e w1 ⟨rfl, hB1⟩)
    all_goals (go_ret; exact ⟨rfl, hB1⟩)
  by_cases l4 : lo = 45
  · subst l4
    go_enter Try.func8, Try.ntmps8
    go_wp2_with (go_at_call 10; refine (alive_any _).mono ?_; rintro e w1 ⟨rfl, hB1⟩)
    all_goals (go_ret; exact ⟨rfl, hB1⟩)
  by_cases h3 : hi = 45
  · subst h3
    go_enter Try.func8, Try.ntmps8
    go_wp2_with (go_at_call 10; refine (alive_any _).mono ?_; rintro e w1 ⟨rfl, hB1⟩)
    all_goals (go_ret; exact ⟨rfl, hB1⟩)
  exact sets_in lo hi x w l1 l2 l3 l4 h1 h2 h3
end Go.Proofs.Ythpmdgkhpigofaa
