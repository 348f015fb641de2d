import Derived.Test.YtafbheplaheohaaEQ
import Derived.Test.YtafbheplaheohaaER
import Derived.Test.YtafbheplaheohaaES
import Derived.Test.YtafbheplaheohaaMK
import Derived.Test.YtafbheplaheohaaY
namespace Go.Proofs.Ytafbheplaheohaa
open Go.RowKit
set_option linter.unusedVariables false

/-- A word, of however many bytes. -/
theorem RWP_all : ∀ n, RWP n := by
  intro n
  induction n using Nat.strongRecOn with
  | _ n ih =>
    intro w rb a S e q d wh hn hc hd hr ha hS
    have ih' : ∀ m, m < S.size - a → RWP m := fun m hm => ih m (by omega)
    rcases hc with ⟨rfl, rfl, rfl⟩ | ⟨hd0, rfl, rfl⟩
    · cases wh with
      | true => exact word_B hr ha hS ih'
      | false => exact word_C hr ha hS ih'
    · cases q with
      | true => exact word_q d hd0 hd hr ha hS ih'
      | false => exact word_A d hd0 hd hr ha hS ih'
/-- A word up to a break. -/
theorem RWord_any {w : World} {rb a : Nat} {S : ByteArray} (hr : Rr w rb S a 0) (ha : a ≤ S.size) (hS : S.size ≤ 16384) :
    Calls Try.prog 28 #[.pointer (some ⟨rb, 0, none⟩), .bool false, .int .i64 0, .bool false] w (WordR w rb S 0 (wordF 1 (S.data.toList.drop a))) := by
  rw [wordF_eq]
  exact word_C hr ha hS (fun m _ => RWP_all m)
def op3A : Array Value := #[.string ⟨#[59, 59]⟩, .string ⟨#[38, 38]⟩, .string ⟨#[124, 124]⟩, .string ⟨#[62, 62]⟩, .string ⟨#[50, 62, 62]⟩, .string ⟨#[50, 62]⟩, .string ⟨#[59]⟩, .string ⟨#[124]⟩, .string ⟨#[40]⟩, .string ⟨#[41]⟩, .string ⟨#[60]⟩, .string ⟨#[62]⟩, .string ⟨#[10]⟩]
theorem op3_at (i : Nat) (h : i < 13) : ∃ O : ByteArray, op3A[i]? = some (.string O) ∧ opsR[i]? = some O.data.toList := by
  have hc : i = 0 ∨ i = 1 ∨ i = 2 ∨ i = 3 ∨ i = 4 ∨ i = 5 ∨ i = 6 ∨ i = 7 ∨ i = 8 ∨ i = 9 ∨ i = 10 ∨ i = 11 ∨ i = 12 := by omega
  rcases hc with rfl | rfl | rfl | rfl | rfl | rfl | rfl | rfl | rfl | rfl | rfl | rfl | rfl <;> exact ⟨_, rfl, rfl⟩
/-- What the document's Tokens holds. -/
structure RT (w wx : World) (S : ByteArray) (a : Nat) (v : Value) (l : List Tok) (L : List Tk) : Prop where
  rr : Rr wx w.heap.size S a 0
  ops : wx.heap[w.heap.size + 1]? = some (.cells op3A 9 (0, 0))
  row : TRow wx w.heap.size v l L
  below : Below w.heap.size w wx
section
variable {w wx w' : World} {S : ByteArray} {a : Nat} {v : Value} {l : List Tok} {L : List Tk}
theorem RT.under (h : RT w wx S a v l L) (hb : Below wx.heap.size wx w') : RT w w' S a v l L :=
  ⟨h.rr.under hb, (hb.block _ (Array.getElem?_eq_some_iff.1 h.ops).1).trans h.ops, h.row.under hb, h.below.trans (hb.mono h.below.size)⟩
theorem TRow.rr {B rb x : Nat} (h : TRow wx B v l L) (hr : Rr wx rb S a x) (ho : Only (fun k => k = rb) wx w') : TRow w' B v l L :=
  h.keep fun g c ty _ ht h1 => (ho.block g (Array.getElem?_eq_some_iff.1 h1).1 (cells_ne h1 hr (by rcases ht with rfl | rfl <;> decide))).trans h1
theorem RT.turn {a' : Nat} (h : RT w wx S a v l L) (hr : Rr w' w.heap.size S a' 0) (ho : Only (fun k => k = w.heap.size) wx w') : RT w w' S a' v l L :=
  ⟨hr, (ho.block _ (Array.getElem?_eq_some_iff.1 h.ops).1 (by omega)).trans h.ops, h.row.rr h.rr ho, h.below.trans (ho.below (fun i e => by omega) h.below.size)⟩
theorem RT.setI (h : RT w wx S a v l L) {ai : Int} (a' : Nat) (e : ai = (a' : Int)) : RT w (wx.setCell ⟨w.heap.size, 1, none⟩ (.int .i64 ai)) S a' v l L :=
  h.turn (h.rr.setI a' e) (Only.set (S := fun k => k = w.heap.size) (Only.refl _ wx) (.inl rfl) _ _)
theorem RT.drewN (h : RT w wx S a v l L) (n : Nat) : RT w (wx.drewN n) S a v l L :=
  ⟨h.rr.drewN n, h.ops, h.row.keep (fun _ _ _ _ _ h1 => h1), below_drewN'' h.below n⟩
theorem RT.push {n : Nat} (h : RT w wx S a v l L) (hn : n = L.length) (hl : l.length ≤ 90000) (tk : Tk) (x : Tok) (hx : tk.is x) (hw : Wd wx (fun k => w.heap.size ≤ k) tk.wv (tokW x)) :
    ∃ (va : Option Addr) (c : Nat) (w' : World), (Builtin.append_ #[23, 23] 23 #[v, .slice (some ⟨wx.heap.size, 0, none⟩) 1 1]).run Try.prog (wx.alloc (.cells tk.cs.toArray 34)) = .ok (.slice va (n + 1) c) w' ∧
      RT w w' S a (.slice va (n + 1) c) (l ++ [x]) (L ++ [tk]) := by
  subst hn
  obtain ⟨va, c, w', r, h1, h2, h3⟩ := TRow.push h.row h.below.size (by rw [h.row.len]; omega) tk x hx hw
  exact ⟨va, c, w', r, ⟨h3 _ _ 60 (by decide) h.rr, h3 _ _ 9 (by decide) h.ops, h1, h.below.trans h2⟩⟩
end
def OpR (s : Bz) (k : Nat) (T : ByteArray) : Prop := (T.data.toList = [] ∧ NoPre3 s k) ∨ (T.data.toList ≠ [] ∧ T.data.toList = operator s)
structure RTS (w wx : World) (S : ByteArray) (a : Nat) (v : Value) (l : List Tok) (L : List Tk) : Prop where
  rt : RT w wx S a v l L
  le : a ≤ S.size
  len : l.length ≤ a
  eq : tokC S.data.toList [] = tokC (S.data.toList.drop a) l
end Go.Proofs.Ytafbheplaheohaa
