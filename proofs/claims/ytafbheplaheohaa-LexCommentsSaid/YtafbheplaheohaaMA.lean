import Derived.WalkKit
import Derived.Lib.Strings
namespace Go.Proofs.Ytafbheplaheohaa
set_option linter.unusedVariables false
set_option autoImplicit false

abbrev Bz := List UInt8
/-- A part of a word. -/
inductive Prt where
  | mk (kind : Nat) (text name op : Bz) (word : List Prt) (quoted : Bool)
def Prt.kind : Prt → Nat | .mk k _ _ _ _ _ => k
def Prt.text : Prt → Bz | .mk _ t _ _ _ _ => t
def Prt.name : Prt → Bz | .mk _ _ n _ _ _ => n
def Prt.op : Prt → Bz | .mk _ _ _ o _ _ => o
def Prt.word : Prt → List Prt | .mk _ _ _ _ w _ => w
def Prt.quoted : Prt → Bool | .mk _ _ _ _ _ q => q
def txt (k : Nat) (t : Bz) : Prt := .mk k t [] [] [] false
mutual
def same : Prt → Prt → Bool
  | .mk k t n o w q, .mk k' t' n' o' w' q' => k == k' && t == t' && n == n' && o == o' && q == q' && sames w w'
def sames : List Prt → List Prt → Bool
  | [], [] => true
  | a :: l, b :: m => same a b && sames l m
  | [], _ :: _ => false
  | _ :: _, [] => false
end
mutual
theorem same_eq : ∀ (a b : Prt), same a b = true ↔ a = b
  | .mk k t n o w q, .mk k' t' n' o' w' q' => by
    rw [same]
    simp only [Bool.and_eq_true, beq_iff_eq, sames_eq w w', Prt.mk.injEq]
    constructor
    · rintro ⟨⟨⟨⟨⟨h1, h2⟩, h3⟩, h4⟩, h5⟩, h6⟩; exact ⟨h1, h2, h3, h4, h6, h5⟩
    · rintro ⟨h1, h2, h3, h4, h6, h5⟩; exact ⟨⟨⟨⟨⟨h1, h2⟩, h3⟩, h4⟩, h5⟩, h6⟩
theorem sames_eq : ∀ (a b : List Prt), sames a b = true ↔ a = b
  | [], [] => by simp [sames]
  | a :: l, b :: m => by rw [sames]; simp only [Bool.and_eq_true, same_eq a b, sames_eq l m, List.cons.injEq]
  | [], _ :: _ => by simp [sames]
  | _ :: _, [] => by simp [sames]
end
/-- The parts of a word, as they are gathered. -/
structure PS where
  list : List Prt
  kind : Nat
  bytes : Bz
  quotes : Bool
def ps0 : PS := ⟨[], 0, [], false⟩
def PS.flush (p : PS) : PS := ⟨if p.bytes = [] then p.list else p.list ++ [txt p.kind p.bytes], p.kind, [], p.quotes⟩
def PS.put (p : PS) (k : Nat) (s : Bz) : PS := if s = [] then p else if k = p.kind then ⟨p.list, k, p.bytes ++ s, p.quotes⟩ else ⟨p.flush.list, k, s, p.quotes⟩
def PS.add (p : PS) (x : Prt) : PS := ⟨p.flush.list ++ [x], p.kind, [], p.quotes⟩
def PS.all (p : PS) : List Prt := if p.flush.list.isEmpty && p.quotes then [txt 2 []] else p.flush.list
def PS.mark (p : PS) : PS := ⟨p.list, p.kind, p.bytes, true⟩

def isDigit (c : UInt8) : Bool := decide (48 ≤ c ∧ c ≤ 57)
def isLetter (c : UInt8) : Bool := decide (97 ≤ c ||| 32 ∧ c ||| 32 ≤ 122)
def isBlank (c : UInt8) : Bool := c == 32 || c == 9
def isSpace (c : UInt8) : Bool := isBlank c || c == 10
def isWordC (c : UInt8) : Bool := isLetter c || c == 95 || isDigit c
def tailLen : Bz → Nat
  | [] => 0
  | c :: r => if isWordC c then tailLen r + 1 else 0
def nameLen : Bz → Nat
  | [] => 0
  | c :: r => if isLetter c || c == 95 then tailLen r + 1 else 0
def digitsLen : Bz → Nat
  | [] => 0
  | c :: r => if isDigit c then digitsLen r + 1 else 0
def signs : Bz := [63, 35, 64, 42]
def paramLen (s : Bz) : Nat := if 0 < nameLen s then nameLen s else match s with
  | [] => 0
  | c :: _ => if isDigit c || signs.contains c then 1 else 0
def longParam (s : Bz) : Nat := max (paramLen s) (digitsLen s)
def ops2 : List Bz := [[58, 45], [58, 61], [58, 63], [58, 43], [37, 37], [35, 35], [45], [61], [63], [43], [37], [35]]
def opOf (s : Bz) : Bz := if ops2.contains (s.take 2) then s.take 2 else if ops2.contains (s.take 1) then s.take 1 else []
def ops3 : List Bz := [[50, 62, 62], [59, 59], [38, 38], [124, 124], [62, 62], [50, 62], [59], [124], [40], [41], [60], [62], [10]]
def operator (s : Bz) : Bz := if ops3.contains (s.take 3) then s.take 3 else if ops3.contains (s.take 2) then s.take 2 else if ops3.contains (s.take 1) then s.take 1 else []
def separs : Bz := [59, 38, 124, 40, 41, 60, 62]
def separates (c : UInt8) : Bool := isSpace c || separs.contains c
/-- Does a word end here? -/
def endsB (e : Nat) (c : UInt8) : Bool := if e = 1 then separates c else if e = 2 then c == 125 else if e = 3 then c == 34 else false
/-- The place of the ) that closes a $((. -/
def calcN : Nat → Bz → Option Nat
  | _, [] => none
  | o, c :: r => if c = 40 then (calcN (o + 1) r).map (· + 1) else if c = 41 then (match o with
      | 0 => if r.head? = some 41 then some 0 else none
      | o' + 1 => (calcN o' r).map (· + 1)) else (calcN o r).map (· + 1)
/-- How many bytes behind the first one a quotation has, up to its end. -/
def quotT (q : UInt8) : Bool → Bz → Nat
  | _, [] => 1
  | true, _ :: r => quotT q false r + 1
  | false, c :: r => if c = q then 1 else if c = 92 ∧ q = 34 then quotT q true r + 1 else quotT q false r + 1
/-- The place of the ) that closes a $(. -/
def subN : Nat → Nat → Bz → Option Nat
  | _, _, [] => none
  | o, k + 1, _ :: r => (subN o k r).map (· + 1)
  | o, 0, c :: r => if c = 40 then (subN (o + 1) 0 r).map (· + 1) else if c = 41 then (match o with
      | 0 => some 0
      | o' + 1 => (subN o' 0 r).map (· + 1)) else if c = 92 then (subN o 1 r).map (· + 1) else if c = 39 ∨ c = 34 then (subN o (quotT c false r) r).map (· + 1) else (subN o 0 r).map (· + 1)
def cutAt (q : UInt8) : Bz → Option (Bz × Bz)
  | [] => none
  | c :: r => if c = q then some ([], r) else (cutAt q r).map fun x => (c :: x.1, x.2)
def escs : Bz := [36, 34, 92, 96, 10]
def escF (q : Bool) (p : PS) : Bz → PS × Bz
  | [] => (p.put 2 [92], [])
  | c :: r => if q && !escs.contains c then (p.put 2 [92], c :: r) else if c = 10 then (p, r) else (p.put 2 [c], r)
abbrev Res (α : Type) := Except Nat α
/-- Which operator stands behind the name in braces, and the name, and what is behind them. -/
def headF (s : Bz) : Bz × Bz × Bz :=
  if s.head? = some 35 ∧ s.tail.head? ≠ some 125 ∧ opOf s.tail = [] then ([76], s.tail.take (longParam s.tail), s.tail.drop (longParam s.tail))
  else (opOf (s.drop (longParam s)), s.take (longParam s), (s.drop (longParam s)).drop (opOf (s.drop (longParam s))).length)
def shutF (x : Bz → Prt) (s : Bz) : Res (Prt × Bz) := match s with
  | [] => .error 2
  | c :: r => if c = 125 then .ok (x [], r) else .error 2
def braceF (W : Bz → Res (List Prt × Bz)) (quoted : Bool) (d : Nat) (s : Bz) : Res (Prt × Bz) :=
  let h := headF s
  if h.2.1 = [] then .error 2
  else if h.1 = [] ∨ h.1 = [76] then (match h.2.2 with
    | [] => .error 2
    | c :: r => if c = 125 then .ok (.mk 3 [] h.2.1 h.1 [] quoted, r) else .error 2)
  else if d = 40 then .error 3
  else match W h.2.2 with
    | .error x => .error x
    | .ok (w, []) => .error 2
    | .ok (w, c :: r) => if c = 125 then .ok (.mk 3 [] h.2.1 h.1 w quoted, r) else .error 2
/-- What stands behind a $. -/
def dollF (W : Bz → Res (List Prt × Bz)) (quoted : Bool) (d : Nat) (p : PS) (s : Bz) : Res (PS × Bz) :=
  if s.head? = some 123 then (match braceF W quoted d s.tail with
    | .error x => .error x
    | .ok (x, r) => .ok (p.add x, r))
  else if s.head? = some 40 ∧ s.tail.head? = some 40 then (match calcN 0 (s.drop 2) with
    | none => .error 2
    | some i => .ok (p.add (.mk 4 ((s.drop 2).take i) [] [] [] quoted), (s.drop 2).drop (i + 2)))
  else if s.head? = some 40 then (match subN 0 0 s.tail with
    | none => .error 2
    | some i => .ok (p.add (.mk 5 (s.tail.take i) [] [] [] quoted), s.tail.drop (i + 1)))
  else if 0 < paramLen s then .ok (p.add (.mk 3 [] (s.take (paramLen s)) [] [] quoted), s.drop (paramLen s))
  else .ok (p.put (if quoted then 2 else 1) [36], s)
def allR (x : Res (PS × Bz)) : Res (List Prt × Bz) := match x with
  | .error e => .error e
  | .ok (p, r) => .ok (p.all, r)
/-- Reading up to an end. -/
def readF : Nat → Nat → Bool → Nat → PS → Bz → Res (PS × Bz)
  | 0, _, _, _, _, _ => .error 99
  | f + 1, e, q, d, p, [] => .ok (p, [])
  | f + 1, e, q, d, p, c :: r =>
    if endsB e c then .ok (p, c :: r)
    else if c = 92 then readF f e q d (escF q p r).1 (escF q p r).2
    else if c = 39 ∧ q = false then (match cutAt 39 r with
      | none => .error 2
      | some (t, r') => readF f e q d (p.mark.put 2 t) r')
    else if c = 34 ∧ q = false then (match readF f 3 true d p.mark r with
      | .error x => .error x
      | .ok (p', []) => .error 2
      | .ok (p', _ :: r') => readF f e q d p' r')
    else if c = 36 then (match dollF (fun s => allR (readF f 2 q (d + 1) ps0 s)) q d p r with
      | .error x => .error x
      | .ok (p', r') => readF f e q d p' r')
    else if c = 34 ∨ c = 96 then .error 2
    else readF f e q d (p.put (if q then 2 else 1) [c]) r
def wordF (e : Nat) (s : Bz) : Res (List Prt × Bz) := allR (readF (s.length + 1) e false 0 ps0 s)
/-- What stands ahead of a token. -/
def skipF : Bool → Bz → Bz
  | _, [] => []
  | true, c :: r => if c = 10 then c :: r else skipF true r
  | false, c :: r => if isBlank c then skipF false r else if c = 92 then (match r with
      | [] => c :: r
      | c' :: r' => if c' = 10 then skipF false r' else c :: r) else if c = 35 then skipF true r else c :: r
/-- A token: a word, or an operator. -/
inductive Tok where
  | op (t : Bz)
  | word (w : List Prt)
def tokF : Nat → Bz → List Tok → Res (List Tok)
  | 0, _, _ => .error 99
  | f + 1, s, l => match skipF false s with
    | [] => .ok l
    | c :: r => if operator (c :: r) = [] then (if c = 38 then .error 2 else match wordF 1 (c :: r) with
        | .error x => .error x
        | .ok (w, r') => tokF f r' (l ++ [.word w]))
      else tokF f ((c :: r).drop (operator (c :: r)).length) (l ++ [.op (operator (c :: r))])
def mayN (s : Bz) : Nat := if 16384 < s.length then 3 else if s.contains 0 then 2 else 0
def tokensF (s : Bz) : Res (List Tok) := if mayN s ≠ 0 then .error (mayN s) else tokF (s.length + 1) s []
def wordsF (s : Bz) : Res (List Prt) := if mayN s ≠ 0 then .error (mayN s) else match wordF 0 s with
  | .error x => .error x
  | .ok (w, _) => .ok w
end Go.Proofs.Ytafbheplaheohaa
