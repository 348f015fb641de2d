import Derived.WalkKit
import Derived.Laws.BitsAllLaws
namespace Go.Proofs.YthgddbdkdloobaaDoor
open Go.RowKit
set_option linter.unusedVariables false
abbrev Bs := List UInt8

/-! The words of an expression, and what it comes to. -/
def isBl (c : UInt8) : Bool := c == 32 || c == 9 || c == 10
def skp (r : Bs) : Bs := r.dropWhile isBl
def isDig (c : UInt8) : Bool := decide (48 ≤ c.toNat ∧ c.toNat ≤ 57)
def isLet (c : UInt8) : Bool := decide ((65 ≤ c.toNat ∧ c.toNat ≤ 90) ∨ (97 ≤ c.toNat ∧ c.toNat ≤ 122) ∨ c.toNat = 95)
def digL (r : Bs) : Nat := (r.takeWhile isDig).length
/-- How long a name stands ahead. -/
def nmL : Bs → Nat
  | [] => 0
  | c :: t => if isLet c then 1 + (t.takeWhile fun c => isLet c || isDig c).length else 0
def twos : List Bs := [[124, 124], [38, 38], [61, 61], [33, 61], [60, 61], [62, 61], [60, 60], [62, 62]]
def ones : Bs := [124, 94, 38, 60, 62, 43, 45, 42, 47, 37, 33, 126, 40, 41]
/-- The operator that stands ahead. -/
def opL (r : Bs) : Bs := if twos.contains (r.take 2) then r.take 2 else if ones.contains (r.headD 0) then r.take 1 else []
def lv (op : Bs) : Nat :=
  if op = [124, 124] then 1 else if op = [38, 38] then 2 else if op = [124] then 3 else if op = [94] then 4 else if op = [38] then 5
  else if op = [61, 61] ∨ op = [33, 61] then 6 else if op = [60] ∨ op = [60, 61] ∨ op = [62] ∨ op = [62, 61] then 7
  else if op = [60, 60] ∨ op = [62, 62] then 8 else if op = [43] ∨ op = [45] then 9 else if op = [42] ∨ op = [47] ∨ op = [37] then 10 else 0
def wr (a : Int) : Int := wrap64 a
def tr (b : Bool) : Int := if b then 1 else 0
def shf (left : Bool) (a b : Int) : Int :=
  if 0 ≤ b ∧ b ≤ 63 then (if left then wr (a * 2 ^ b.toNat) else a / 2 ^ b.toNat) else if left then 0 else if a < 0 then -1 else 0
/-- An operator between two; and whether something was divided by nought. -/
def ap (op : Bs) (a b : Int) : Int × Bool :=
  if op = [124, 124] then (tr (a != 0 || b != 0), false) else if op = [38, 38] then (tr (a != 0 && b != 0), false)
  else if op = [124] then (bits .or .i64 a b, false) else if op = [94] then (bits .xor .i64 a b, false) else if op = [38] then (bits .and .i64 a b, false)
  else if op = [61, 61] then (tr (a == b), false) else if op = [33, 61] then (tr (a != b), false)
  else if op = [60] then (tr (decide (a < b)), false) else if op = [60, 61] then (tr (decide (a ≤ b)), false)
  else if op = [62] then (tr (decide (b < a)), false) else if op = [62, 61] then (tr (decide (b ≤ a)), false)
  else if op = [60, 60] then (shf true a b, false) else if op = [62, 62] then (shf false a b, false)
  else if op = [43] then (wr (a + b), false) else if op = [45] then (wr (a - b), false) else if op = [42] then (wr (a * b), false)
  else if b = 0 then (0, true) else if op = [47] then (wr (a.tdiv b), false) else (a.tmod b, false)
/-- An operator ahead. -/
def un (op : UInt8) (a : Int) : Int := if op = 45 then wr (-a) else if op = 33 then tr (a == 0) else if op = 126 then bits .xor .i64 (-1) a else a
def isUn (op : Bs) : Bool := op == [43] || op == [45] || op == [33] || op == [126]
def dval (l : Bs) : Nat := l.foldl (fun n c => n * 10 + (c.toNat - 48)) 0
def num (l : Bs) : Int := wr (dval l)
/-- Without the blanks at both ends. -/
def trim (l : Bs) : Bs := ((l.dropWhile isBl).reverse.dropWhile isBl).reverse
/-- What a value says; none: nothing. -/
def valOf (v : Bs) : Option Int :=
  let v := trim v
  if v = [] then some 0
  else if v.headD 0 = 45 then (if 1 ≤ (v.drop 1).length ∧ (v.drop 1).all isDig = true then some (wr (-(num (v.drop 1)))) else none)
  else if v.all isDig = true then some (num v) else none
/-- The last one of a name. -/
def look (l : List (Bs × Bs)) (name : Bs) : Bs := l.foldl (fun v p => if p.1 = name then p.2 else v) []
inductive Md where
  | bin (l : Nat) | loop (l : Nat) (v : Int) | pre | opd
deriving DecidableEq
abbrev Rs := Except Nat (Int × Bs × Bool)
/-- The value of what stands ahead, by operators of a level at least; 'lim': a name that is too long is none. -/
def ev (lim : Bool) (V : Bs → Option Int) : Nat → Md → Bs → Bool → Nat → Rs
  | 0, _, _, _, _ => .error 0
  | n + 1, .bin l, r, z, d =>
    match ev lim V n .pre r z d with
    | .error e => .error e
    | .ok (v, r, z) => ev lim V n (.loop l v) r z d
  | n + 1, .loop l v, r, z, d =>
    if lv (opL (skp r)) < l then .ok (v, skp r, z) else
    match ev lim V n (.bin (lv (opL (skp r)) + 1)) ((skp r).drop (opL (skp r)).length) z d with
    | .error e => .error e
    | .ok (b, r', z) => ev lim V n (.loop l (ap (opL (skp r)) v b).1) r' (z || (ap (opL (skp r)) v b).2) d
  | n + 1, .pre, r, z, d =>
    if isUn (opL (skp r)) then
      match ev lim V n .pre ((skp r).drop 1) z d with
      | .error e => .error e
      | .ok (v, r', z) => .ok (un ((opL (skp r)).headD 0) v, r', z)
    else ev lim V n .opd (skp r) z d
  | n + 1, .opd, r, z, d =>
    if 0 < digL r then .ok (num (r.take (digL r)), r.drop (digL r), z)
    else if 0 < nmL r then
      if lim && decide (60 < nmL r) then .error 2 else
      match V (r.take (min (nmL r) 60)) with
      | none => .error 2
      | some v => .ok (v, r.drop (min (nmL r) 60), z)
    else if r.headD 0 = 40 then
      if d = 40 then .error 3 else
      match ev lim V n (.bin 1) (r.drop 1) z (d + 1) with
      | .error e => .error e
      | .ok (v, r', z) => if opL (skp r') = [41] then .ok (v, (skp r').drop 1, z) else .error 2
    else .error 2
def fuel (s : Bs) : Nat := 4 * s.length + 100
/-- What a text is as an expression. -/
def evalL (lim : Bool) (s : Bs) (V : Bs → Option Int) : Int × Nat :=
  if 4096 < s.length then (0, 3) else
  match ev lim V (fuel s) (.bin 1) s false 0 with
  | .error e => (0, e)
  | .ok (v, r, z) => if skp r ≠ [] then (0, 2) else if z then (0, 15) else (v, 0)

/-! Lengths. -/
theorem skp_len (r : Bs) : (skp r).length ≤ r.length := (List.dropWhile_suffix _).length_le
theorem opL_len (r : Bs) : (opL r).length ≤ r.length ∧ (opL r).length ≤ 2 := by
  unfold opL; split
  · rw [List.length_take]; omega
  · split
    · rw [List.length_take]; omega
    · simp
theorem opL_prefix (r : Bs) : r.take (opL r).length = opL r := by
  unfold opL; split
  · rw [List.length_take, ← List.take_eq_take_min]
  · split
    · rw [List.length_take, ← List.take_eq_take_min]
    · simp
theorem lv_pos {op : Bs} (h : 1 ≤ lv op) : 1 ≤ op.length := by
  cases op with
  | nil => exact absurd h (by decide)
  | cons a t => simp
theorem digL_le (r : Bs) : digL r ≤ r.length := (List.takeWhile_prefix _).length_le
theorem nmL_le (r : Bs) : nmL r ≤ r.length := by
  cases r with
  | nil => simp [nmL]
  | cons c t =>
    have := (List.takeWhile_prefix (fun c => isLet c || isDig c) (l := t)).length_le
    simp only [nmL]
    by_cases h : isLet c = true
    · rw [if_pos h]; simp; omega
    · rw [if_neg h]; simp
/-- How much fuel a way wants. -/
def want : Md → Bs → Nat
  | .bin _, r => 4 * r.length + 4
  | .loop _ _, r => 4 * r.length + 2
  | .pre, r => 4 * r.length + 3
  | .opd, r => 4 * r.length + 2
def lessen : Md → Nat | .loop _ _ => 0 | _ => 1
/-- What is left is less. -/
theorem ev_len (lim : Bool) (V : Bs → Option Int) : ∀ n m r z d v r' z', (∀ l v, m = .loop l v → 1 ≤ l) → (∀ l, m = .bin l → 1 ≤ l) → ev lim V n m r z d = .ok (v, r', z') → r'.length + lessen m ≤ r.length := by
  intro n
  induction n with
  | zero => intro m r z d v r' z' _ _ h; simp [ev] at h
  | succ n ih =>
    intro m r z d v r' z' hl hb h
    cases m with
    | bin l =>
      simp only [ev] at h
      split at h
      · cases h
      · rename_i v1 r1 z1 h1
        have a := ih _ _ _ _ _ _ _ (by intro _ _ h; cases h) (by intro _ h; cases h) h1
        have b := ih _ _ _ _ _ _ _ (by intro l' v' h; cases h; exact hb l rfl) (by intro _ h; cases h) h
        simp only [lessen] at a b ⊢; omega
    | loop l v0 =>
      simp only [ev] at h
      have hs := skp_len r
      split at h
      · cases h; simp only [lessen]; omega
      · rename_i hlv
        have h1l : 1 ≤ lv (opL (skp r)) := by have := hl l v0 rfl; omega
        have hop := lv_pos h1l
        have hop2 := opL_len (skp r)
        split at h
        · cases h
        · rename_i b1 r1 z1 h1
          have a := ih _ _ _ _ _ _ _ (by intro _ _ h; cases h) (by intro l' h; cases h; omega) h1
          have b := ih _ _ _ _ _ _ _ (by intro l' v' h; cases h; exact hl l v0 rfl) (by intro _ h; cases h) h
          rw [List.length_drop] at a
          simp only [lessen] at a b ⊢; omega
    | pre =>
      simp only [ev] at h
      have hs := skp_len r
      split at h
      · split at h
        · cases h
        · rename_i b1 r1 z1 h1
          have a := ih _ _ _ _ _ _ _ (by intro _ _ h; cases h) (by intro _ h; cases h) h1
          cases h
          rw [List.length_drop] at a
          simp only [lessen] at a ⊢; omega
      · have a := ih _ _ _ _ _ _ _ (by intro _ _ h; cases h) (by intro _ h; cases h) h
        simp only [lessen] at a ⊢; omega
    | opd =>
      simp only [ev] at h
      have hd := digL_le r
      have hn := nmL_le r
      split at h
      · cases h; rw [List.length_drop]; simp only [lessen]; omega
      · split at h
        · split at h
          · cases h
          · split at h
            · cases h
            · cases h; rw [List.length_drop]; simp only [lessen]; omega
        · split at h
          · rename_i h40
            have hne : 1 ≤ r.length := by cases r with
              | nil => simp at h40
              | cons a t => simp
            split at h
            · cases h
            · split at h
              · cases h
              · rename_i v1 r1 z1 h1
                have a := ih _ _ _ _ _ _ _ (by intro _ _ h; cases h) (by intro l' h; cases h; omega) h1
                have hs := skp_len r1
                split at h
                · cases h
                  rw [List.length_drop] at a ⊢
                  simp only [lessen] at a ⊢; omega
                · cases h
          · cases h
end Go.Proofs.YthgddbdkdloobaaDoor
