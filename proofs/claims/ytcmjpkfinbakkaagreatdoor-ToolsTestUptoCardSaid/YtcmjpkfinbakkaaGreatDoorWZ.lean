import Derived.Shelf.Strings.Builder1
import Derived.Shelf.Strings.Builder2
import Derived.Shelf.Strings.OnBuilder
import Derived.Shelf.Strings.Trim
import Derived.Shelf.Small.Utf8
import Derived.Shelf.Small.Bits
import Derived.Shelf.Small.Strs
import Derived.Shelf.Small.Wraps
import Derived.Shelf.Strings.BuilderF
import Derived.Shelf.Strings.BuilderK
import Derived.Shelf.Utf8.RuneCount
import Derived.Shelf.Strings.Builder2Cap
import Derived.Shelf.Strconv.Itoa0
import Derived.Shelf.Strconv.Itoa1
import Derived.Shelf.LaysM
import Derived.Shelf.Strconv.Itoa2
import Derived.Shelf.Strconv.Itoa3
import Derived.Shelf.Strconv.Itoa4
import Derived.Shelf.Strconv.Clone
import Derived.Shelf.Strconv.SyntaxError
import Derived.Shelf.Strconv.Lower
import Derived.Shelf.Strconv.ParseUint10
import Derived.Shelf.Strconv.ParseUint10Empty
import Derived.Shelf.Strconv.RangeError
import Derived.Shelf.Strconv.ParseUintEmpty
import Derived.Shelf.Strconv.ParseUint10b64
import Derived.Shelf.Strconv.ParseUint10b32
import Derived.Shelf.Strconv.ParseUint10b16
import Derived.Shelf.Strconv.ParseUint10b8
import Derived.Shelf.Strings.Search1
import Derived.Shelf.Strings.Search2
import Derived.Shelf.Strings.Search3
import Derived.Shelf.Strings.Count
import Derived.Shelf.Strings.Shaped
import Derived.Shelf.Sort.Plain
import Derived.Shelf.Strings.Prefix
import Derived.Shelf.Strings.Split
import Derived.Shelf.Strings.SplitShaped
import Derived.Shelf.Unicode.Decode
import Derived.Shelf.Strings.Runes
import Derived.Shelf.Strings.RuneCount
import Derived.Shelf.Strings.IndexAny
import Derived.Shelf.Strings.AsciiSet
import Derived.Shelf.Strings.IndexAnyAll
import Derived.Shelf.Strings.Explode
import Derived.Shelf.Bits.Mul64
import Derived.Shelf.Strings.Repeat
import Derived.Shelf.Unicode.DecodeSlow
import Derived.Shelf.Unicode.DecodeAny
import Derived.Shelf.Unicode.DecodeLast
import Derived.Shelf.Slices.Equal
import Derived.Shelf.Slices.CompactS
import Derived.Shelf.Slices.Cells
import Derived.Shelf.Slices.In.SortNone
import Derived.Shelf.Slices.Empties2
import Derived.Ground.SlbCloneProg
import Derived.Shelf.Bytes.SlClone
import Derived.Test.YtcmjpkfinbakkaaGreatDoorProg
import Derived.Test.YtcmjpkfinbakkaaGreatDoorZ
import Derived.RangeFuncNested
import Derived.RangeFuncBound
import Derived.RangeFuncCalls
import Derived.RangeFuncLeaves
import Derived.RangeFuncBox
import Derived.Shelf.Abstract
import Derived.Shelf.RegionOpen
import Derived.OwnWalkIn
import Derived.TacticsInMore
import Derived.LoopNIn
import Derived.LoopIn
import Derived.Maps.AppendAt
namespace Go.Proofs
open Go.Shelf
def Tryz.lays103_ren : Go.Shelf.Ren := ⟨fun | 103 => 156 | 210 => 207 | 206 => 86 | n => n, fun | 9 => 9 | 4 => 4 | 24 => 82 | 3 => 3 | n => n, fun | n => n⟩
theorem Tryz.lays103 : Go.Proofs.Lays.n103 Tryz.prog Tryz.lays103_ren := {
  mixed := by kernel_rfl
  f103 := Tryz.func156.trans (congrArg some (by kernel_rfl))
  f206 := Tryz.func86.trans (congrArg some (by kernel_rfl))
  f210 := Tryz.func207.trans (congrArg some (by kernel_rfl))
  t3 := Tryz.underlying3
  a3 := Tryz.isAgg3
  z3 := Tryz.sizeOf3
  v3 := Tryz.zeroValue3
  t4 := Tryz.underlying4
  a4 := Tryz.isAgg4
  z4 := Tryz.sizeOf4
  v4 := Tryz.zeroValue4
  t9 := Tryz.underlying9
  a9 := Tryz.isAgg9
  z9 := Tryz.sizeOf9
  v9 := Tryz.zeroValue9
  t24 := Tryz.underlying82
  a24 := Tryz.isAgg82
  z24 := Tryz.sizeOf82
  v24 := Tryz.zeroValue82 }
open Go.RowKit in
theorem Tryz.strings_CutPrefix (s p : ByteArray) (w : World) :
    Calls Tryz.prog 156 #[.string s, .string p] w fun e w' => e = .returned (.tuple #[.string ⟨(Lib.trimPrefix s.data.toList p.data.toList).toArray⟩, .bool (Lib.hasPrefix s.data.toList p.data.toList)]) ∧ w' = w := Any.strings_CutPrefix Tryz.lays103 s p w
def Tryz.lays143_ren : Go.Shelf.Ren := ⟨fun | 143 => 130 | 219 => 186 | 217 => 221 | 225 => 179 | 224 => 178 | 267 => 232 | 266 => 261 | 314 => 266 | n => n, fun | 9 => 9 | 3 => 3 | 4 => 4 | 5 => 5 | 46 => 108 | 146 => 264 | 51 => 178 | n => n, fun | 1 => 1 | n => n⟩
theorem Tryz.lays143 : Go.Proofs.Lays.n143 Tryz.prog Tryz.lays143_ren := {
  mixed := by kernel_rfl
  f143 := Tryz.func130.trans (congrArg some (by kernel_rfl))
  f217 := Tryz.func221.trans (congrArg some (by kernel_rfl))
  f219 := Tryz.func186.trans (congrArg some (by kernel_rfl))
  f224 := Tryz.func178.trans (congrArg some (by kernel_rfl))
  f225 := Tryz.func179.trans (congrArg some (by kernel_rfl))
  f266 := Tryz.func261.trans (congrArg some (by kernel_rfl))
  f267 := Tryz.func232.trans (congrArg some (by kernel_rfl))
  f314 := Tryz.func266.trans (congrArg some (by kernel_rfl))
  t3 := Tryz.underlying3
  a3 := Tryz.isAgg3
  z3 := Tryz.sizeOf3
  v3 := Tryz.zeroValue3
  t4 := Tryz.underlying4
  a4 := Tryz.isAgg4
  z4 := Tryz.sizeOf4
  v4 := Tryz.zeroValue4
  t5 := Tryz.underlying5
  a5 := Tryz.isAgg5
  z5 := Tryz.sizeOf5
  v5 := Tryz.zeroValue5
  t9 := Tryz.underlying9
  a9 := Tryz.isAgg9
  z9 := Tryz.sizeOf9
  v9 := Tryz.zeroValue9
  t46 := Tryz.underlying108
  a46 := Tryz.isAgg108
  z46 := Tryz.sizeOf108
  v46 := Tryz.zeroValue108
  t51 := Tryz.underlying178
  a51 := Tryz.isAgg178
  z51 := Tryz.sizeOf178
  v51 := Tryz.zeroValue178
  t146 := Tryz.underlying264
  a146 := Tryz.isAgg264
  z146 := Tryz.sizeOf264
  v146 := Tryz.zeroValue264
  g1 := by kernel_rfl }
open Go.RowKit Go.Lib in
theorem Tryz.strings_Index_one (s : ByteArray) (c : UInt8) (w : World) :
    Calls Tryz.prog 130 #[.string s, .string ⟨#[c]⟩] w fun e w' => e = .returned (.int .i64 (Lib.indexByte s.data.toList c)) ∧ w' = w := Any.strings_Index_one Tryz.lays143 s c w
def Tryz.lays144_ren : Go.Shelf.Ren := ⟨fun | 144 => 87 | 143 => 130 | 219 => 186 | 217 => 221 | 225 => 179 | 224 => 178 | 267 => 232 | 266 => 261 | 314 => 266 | n => n, fun | 9 => 9 | 4 => 4 | 3 => 3 | 5 => 5 | 46 => 108 | 146 => 264 | 51 => 178 | n => n, fun | 1 => 1 | n => n⟩
theorem Tryz.lays144 : Go.Proofs.Lays.n144 Tryz.prog Tryz.lays144_ren := {
  mixed := by kernel_rfl
  f143 := Tryz.func130.trans (congrArg some (by kernel_rfl))
  f144 := Tryz.func87.trans (congrArg some (by kernel_rfl))
  f217 := Tryz.func221.trans (congrArg some (by kernel_rfl))
  f219 := Tryz.func186.trans (congrArg some (by kernel_rfl))
  f224 := Tryz.func178.trans (congrArg some (by kernel_rfl))
  f225 := Tryz.func179.trans (congrArg some (by kernel_rfl))
  f266 := Tryz.func261.trans (congrArg some (by kernel_rfl))
  f267 := Tryz.func232.trans (congrArg some (by kernel_rfl))
  f314 := Tryz.func266.trans (congrArg some (by kernel_rfl))
  t3 := Tryz.underlying3
  a3 := Tryz.isAgg3
  z3 := Tryz.sizeOf3
  v3 := Tryz.zeroValue3
  t4 := Tryz.underlying4
  a4 := Tryz.isAgg4
  z4 := Tryz.sizeOf4
  v4 := Tryz.zeroValue4
  t5 := Tryz.underlying5
  a5 := Tryz.isAgg5
  z5 := Tryz.sizeOf5
  v5 := Tryz.zeroValue5
  t9 := Tryz.underlying9
  a9 := Tryz.isAgg9
  z9 := Tryz.sizeOf9
  v9 := Tryz.zeroValue9
  t46 := Tryz.underlying108
  a46 := Tryz.isAgg108
  z46 := Tryz.sizeOf108
  v46 := Tryz.zeroValue108
  t51 := Tryz.underlying178
  a51 := Tryz.isAgg178
  z51 := Tryz.sizeOf178
  v51 := Tryz.zeroValue178
  t146 := Tryz.underlying264
  a146 := Tryz.isAgg264
  z146 := Tryz.sizeOf264
  v146 := Tryz.zeroValue264
  g1 := by kernel_rfl }
open Go.RowKit Go.Lib in
theorem Tryz.strings_Contains_one (s : ByteArray) (c : UInt8) (w : World) :
    Calls Tryz.prog 87 #[.string s, .string ⟨#[c]⟩] w fun e w' => e = .returned (.bool (decide (0 ≤ Lib.indexByte s.data.toList c))) ∧ w' = w := Any.strings_Contains_one Tryz.lays144 s c w
def Tryz.lays99_ren : Go.Shelf.Ren := ⟨fun | 99 => 41 | 206 => 86 | n => n, fun | 9 => 9 | 4 => 4 | 3 => 3 | n => n, fun | n => n⟩
theorem Tryz.lays99 : Go.Proofs.Lays.n99 Tryz.prog Tryz.lays99_ren := {
  mixed := by kernel_rfl
  f99 := Tryz.func41.trans (congrArg some (by kernel_rfl))
  f206 := Tryz.func86.trans (congrArg some (by kernel_rfl))
  t3 := Tryz.underlying3
  a3 := Tryz.isAgg3
  z3 := Tryz.sizeOf3
  v3 := Tryz.zeroValue3
  t4 := Tryz.underlying4
  a4 := Tryz.isAgg4
  z4 := Tryz.sizeOf4
  v4 := Tryz.zeroValue4
  t9 := Tryz.underlying9
  a9 := Tryz.isAgg9
  z9 := Tryz.sizeOf9
  v9 := Tryz.zeroValue9 }
open Go.RowKit Go.Lib in
theorem Tryz.strings_HasPrefix (s p : ByteArray) (w : World) :
    Calls Tryz.prog 41 #[.string s, .string p] w fun e w' => e = .returned (.bool (Lib.hasPrefix s.data.toList p.data.toList)) ∧ w' = w := Any.strings_HasPrefix Tryz.lays99 s p w
end Go.Proofs

namespace Go.Proofs.YtcmjpkfinbakkaaGreatDoor.Vf
set_option maxRecDepth 100000
open Go.RowKit Go.Shelf

/-! A range over an iterator that writes cells of its own between two rounds (T), whose loop body ends every round normally. -/
section
variable {F : Fence} {n : Nat} {P : Program}

theorem stepR_scope_s {b : Frame} {a : Act} {k : List Item} {cs : List Frame} {w : World} {c : Code} : step P (lone (b.atR a (.code (.scope c) :: k)) cs w) = .next (lone (b.atR a (.code c :: .inScope c :: k)) cs w) :=
  step_lone_go (by simp [stepG, stepG.exec, Frame.atR])
theorem stepR_inScope_s {b : Frame} {a : Act} {k : List Item} {cs : List Frame} {w : World} {c : Code} : step P (lone (b.atR a (.inScope c :: k)) cs w) = .next (lone (b.atR a k) cs w) :=
  step_lone_go (by simp [stepG, stepG.exec, Frame.atR])
/-- A scope through which the run goes without a goto, under a fence. -/
theorem wpIn_scope_s {c : Code} {Q : Exit → Act → World → Prop} {a : Act} {w : World} (h : c.wpIn F n P (Exit.noGoto Q) a w) : (Code.scope c).wpIn F n P Q a w := by
  intro b k cs hro hb hr
  have h0 : (lone (b.atR a (.code (.scope c) :: k)) cs w).fenced P F := fenced_calm hb hr rfl
  obtain ⟨e, a₁, w₁, hq, harr⟩ := h b (.inScope c :: k) cs hro hb hr
  cases e with
  | normal => exact ⟨.normal, a₁, w₁, hq, .head h0 stepR_scope_s (StepsIn.trans harr (.one (fenced_calm hb hr rfl) stepR_inScope_s))⟩
  | exit id =>
    have hx : exitTo id (.inScope c :: k) = exitTo id k := by simp [exitTo]
    exact ⟨.exit id, a₁, w₁, hq, fun k' hk => .head h0 stepR_scope_s (harr.1 k' (by rw [hx]; exact hk)),
      fun hr' hk => let ⟨k₁, h1, h2⟩ := harr.2 hr' (by rw [hx]; exact hk); ⟨k₁, h1, .head h0 stepR_scope_s h2⟩⟩
  | goto l => exact hq.elim
  | ret => exact ⟨_, a₁, w₁, hq, .of_steps (.one h0 stepR_scope_s) harr⟩
  | panic ch => exact ⟨_, a₁, w₁, hq, .of_steps (.one h0 stepR_scope_s) harr⟩
  | outgrown => exact ⟨_, a₁, w₁, hq, .of_steps (.one h0 stepR_scope_s) harr⟩

/-- How a round's body is left. -/
def roundEnds {α : Type} (B : Nat) (Kp : World → World → Prop) (I : List α → World → Prop) (ys : List α) (W : World) : Exit → Act → World → Prop
  | .normal, _, W' => KeepsFrom B W W' ∧ Kp W W' ∧ I ys W'
  | _, _, _ => False

theorem wpIn_rangeFunc_T {α : Type} {g : Operand} {ps : Array Tmp} {assign body : Code} {Q : Exit → Act → World → Prop} {a : Act} {w : World}
    (hro : F.round = none) (h1 : 1 ≤ n) {gf : Nat} {lb : Array Value} (hg : a.eval g = .func (.func gf) #[] lb) (hFg : F.fn gf) (eg : ∀ args w, (callFunc gf args).run P w = .ok (.enter gf args) w)
    {encs : α → Array Value} {T Kp : World → World → Prop} {xs : List α} (hT : ∀ A C, T A C → KeepsOthers A C)
    (hseq : ∀ (l : Nat) (J : List α → World → Prop) (W : World), Below w.heap.size w W → (∀ s A C, J s A → T A C → J s C) →
      (∀ pre x W1, J pre W1 → pre ++ [x] <+: xs → YieldAt F (n - 1 - 1) P l (encs x) W1 fun e W' => e = .returned (.bool true) ∧ J (pre ++ [x]) W' ∧ Kp W1 W') →
      J [] W → CallsIn F (n - 1) P gf (#[.func (.yield l) #[] #[]] ++ lb) W fun e W' => (∃ v, e = .returned v) ∧ J xs W')
    (hKt : ∀ {A C D : World}, Kp A C → Kp C D → Kp A D) (hKb : ∀ (W : World) (l : Nat) (o : Obj), w.heap.size ≤ l → Kp W (W.putObj l o)) (hps : ∀ x, (encs x).size = ps.size)
    (I : List α → World → Prop) (hI : OwnFrom w.heap.size I) (hIT : ∀ s A C, I s A → T A C → I s C) (h0 : I [] w) (a₁ : α → Act)
    (hassign : ∀ (l : Nat) (x : α) (W : World) (K : Act → World → Prop), K (a₁ x) W →
      assign.wpIn (F.inRound l) (n - 1 - 1) P (Exit.then K (fun _ _ _ => False)) { tmps := (ps.zip (encs x)).foldl (fun t (p, v) => t.setIfInBounds p v) a.tmps, defers := [] } W)
    (hbody : ∀ (l : Nat) (pre : List α) (x : α) (W : World), I pre W → pre ++ [x] <+: xs → body.wpIn (F.inRound l) (n - 1 - 1) P (roundEnds w.heap.size Kp I (pre ++ [x]) W) (a₁ x) W)
    (hdone : ∀ (D : Nat) (W : World), w.heap.size ≤ D → I xs W → W.heap[D]? = some (.deferred (some [])) → Q .normal { a with defers := { target := .collected D, args := #[] } :: a.defers } W) :
    (Code.rangeFunc g ps assign body).wpIn F n P Q a w := by
  refine wpIn_rangeFunc fun fn hfn => ?_
  rw [hro]
  obtain ⟨N, hN⟩ : ∃ N, w.heap.size = N := ⟨_, rfl⟩
  obtain ⟨rc, hrc⟩ : ∃ rc : LoopState → Loop, rc = fun st => { state := st, pending := none, fn, tmps := a.tmps, params := ps, assign, body, defers := N } := ⟨_, rfl⟩
  obtain ⟨V, hV⟩ : ∃ V, (w.alloc (.deferred (some []))).alloc (.loop (rc .ready)) = V := ⟨_, rfl⟩
  have vl : V.heap[N + 1]? = some (.loop (rc .ready)) := by
    rw [← hV, ← hN]
    simpa using World.alloc_heap_new (w.alloc (.deferred (some []))) (.loop (rc .ready))
  have vk : V.heap[N]? = some (.deferred (some [])) := by
    rw [← hV, ← hN]
    exact (Below.heap_alloc _ _ _ (by simp)).trans (World.alloc_heap_new w _)
  have vi : I [] V := by rw [← hV]; exact hI.alloc _ (hI.alloc _ h0)
  have vb : Below w.heap.size w V := by
    rw [← hV]; exact ((Below.refl _ w).alloc (Nat.le_refl _) _).alloc (by simp) _
  refine ⟨N + 1, [{ target := .collected N, args := #[] }], V, { target := .fn (.func gf) lb, args := #[.func (.yield (N + 1)) #[] #[]] }, V, gf,
    #[.func (.yield (N + 1)) #[] #[]] ++ lb, V, ?_, by simp only [resolve, hg]; simp [go_sem], fun f' hf' => by simp [Target.leads] at hf'; subst hf'; exact hFg, by simp [invoke, go_sem, eg], fun _ => h1, ?_⟩
  · rw [← hV, hrc, ← hN]; exact run_enterLoop_outer _ _ _ _ _
  refine (hseq (N + 1) (fun pre W => I pre W ∧ W.heap[N + 1]? = some (.loop (rc .ready)) ∧ W.heap[N]? = some (.deferred (some []))) V vb
    (fun s A C hs ht => ⟨hIT s A C hs.1 ht, (hT A C ht).same _ _ hs.2.1 rfl, (hT A C ht).same _ _ hs.2.2 rfl⟩) ?_ ⟨vi, vl, vk⟩).mono ?_
  · rintro pre x W ⟨hi, hl, hk⟩ hx
    have hlt : N + 1 < W.heap.size := (Array.getElem?_eq_some_iff.1 hl).1
    have hy := run_yield (P := P) (args := encs x) hl (by rw [hrc]; exact hps x)
    rw [hrc] at hy
    refine ⟨fn, _, assign, body, hy, roundIn_of_wpIn hfn (hassign _ x W _ ⟨_, run_beginRound hl (by rw [hrc]), ?_⟩)⟩
    obtain ⟨U, hU⟩ : ∃ U, W.putObj (N + 1) (.loop (rc .busy)) = U := ⟨_, rfl⟩
    have hU' : W.putObj (N + 1) (.loop { rc .ready with state := .busy }) = U := by rw [← hU, hrc]
    have ul : U.heap[N + 1]? = some (.loop (rc .busy)) := by rw [← hU]; exact World.putObj_heap_same hlt
    have uk : U.heap[N]? = some (.deferred (some [])) := by rw [← hU]; exact (World.putObj_heap_other (by omega)).trans hk
    have ui : I pre U := by rw [← hU]; exact hI.putObj _ hi (by omega) hl rfl
    have uw : Kp W U := by rw [← hU]; exact hKb _ _ _ (by omega)
    rw [hU']
    refine wpIn_mono (hbody _ pre x U ui hx) ?_
    intro e a3 X hp
    cases e with
    | normal =>
      obtain ⟨hk3, hkp3, hi3⟩ := hp
      have xl := hk3.same (N + 1) _ (by omega) ul rfl
      have xk := hk3.same N _ (by omega) uk rfl
      have hr := run_endRound (P := P) none xl
      refine ⟨_, _, hr, rfl, ⟨hI.putObj _ hi3 (by omega) xl rfl, ?_, (World.putObj_heap_other (by omega)).trans xk⟩, hKt (hKt uw hkp3) (hKb _ _ _ (by omega))⟩
      rw [World.putObj_heap_same (Array.getElem?_eq_some_iff.1 xl).1, hrc]
      rfl
    | ret => exact hp.elim
    | exit id => exact hp.elim
    | goto t => exact hp.elim
    | panic ch => exact hp.elim
    | outgrown => exact hp.elim
  · rintro e X ⟨⟨v, rfl⟩, hi, hl, hk⟩
    have he := run_endLoop (P := P) hl (by rw [hrc]; simp)
    refine ⟨none, _, by rw [he, hrc], hdone N _ (by omega) (hI.putObj _ hi (by omega) hl rfl) ((World.putObj_heap_other (by omega)).trans hk)⟩
end
end Go.Proofs.YtcmjpkfinbakkaaGreatDoor.Vf

namespace Go.Proofs.YtcmjpkfinbakkaaGreatDoor.Vf
set_option maxRecDepth 100000
open Go.RowKit Go.Shelf
attribute [local go_sem] Oper.semAt_some

def Keep (b : Nat) (W W' : World) : Prop := ∀ k, b < k → k < b + 4 → W'.heap[k]? = W.heap[k]?
theorem Keep.box {b k t : Nat} {W W' : World} {v : Value} (h : Keep b W W') (hx : Boxed W k t v) (h1 : b < k) (h2 : k < b + 4) : Boxed W' k t v := (h k h1 h2).trans hx
theorem Keep.trans {b : Nat} {A C D : World} (h : Keep b A C) (k : Keep b C D) : Keep b A D := fun i h1 h2 => (k i h1 h2).trans (h i h1 h2)

theorem idx_none : ∀ a : Bs, (∀ c ∈ a, c ≠ 47) → Lib.indexByte a 47 = -1
  | [], _ => rfl
  | c :: t, h => by
    have h1 : (c == 47) = false := by rw [beq_eq_false_iff_ne]; exact h c (by simp)
    have h2 := idx_none t (fun x hx => h x (by simp [hx]))
    unfold Lib.indexByte
    rw [h1, h2]; rfl
theorem idx_some : ∀ (a t : Bs), (∀ c ∈ a, c ≠ 47) → Lib.indexByte (a ++ 47 :: t) 47 = a.length
  | [], t, _ => by simp [Lib.indexByte]
  | c :: a, t, h => by
    have h1 : (c == 47) = false := by rw [beq_eq_false_iff_ne]; exact h c (by simp)
    have h2 := idx_some a t (fun x hx => h x (by simp [hx]))
    have h3 : ((a.length : Int) == -1) = false := by rw [beq_eq_false_iff_ne]; omega
    rw [List.cons_append]
    unfold Lib.indexByte
    rw [h1, h2, h3]
    simp
theorem no_or : ∀ r : Bs, (∀ c ∈ r, c ≠ 47) ∨ ∃ a t, r = a ++ 47 :: t ∧ ∀ c ∈ a, c ≠ 47
  | [] => .inl (by simp)
  | c :: r => by
    by_cases hc : c = 47
    · exact .inr ⟨[], r, by simp [hc], by simp⟩
    · rcases no_or r with h | ⟨a, t, e, h⟩
      · exact .inl (by simpa [hc] using h)
      · exact .inr ⟨c :: a, t, by simp [e], by simpa [hc] using h⟩
theorem ext_bytes {s : ByteArray} {f i : Nat} {l : Bs} (h : seg s f i = l) : s.extract f i = bs l := by
  have h1 := seg_ext s f i
  rw [h, Lib.toList_data] at h1
  exact bytes_eq h1

/-- What is left in the iterator's cell. -/
def left_ (W : World) (b : Nat) : Nat := match W.cell? ⟨b + 1, 0, none⟩ with | some (.string s) => s.size | _ => 0
theorem left_eq {W : World} {b t : Nat} {s : ByteArray} (h : Boxed W (b + 1) t (.string s)) : left_ W b = s.size := by
  unfold left_; rw [h.cell]

set_option maxRecDepth 100000 in
set_option maxHeartbeats 2000000 in
theorem split_in (n : Nat) (hn : 1 ≤ n) (l b : Nat) (J : List Bs → World → Prop) (xs : List Bs)
    (hJ : ∀ s A u, J s A → J s (A.setCell ⟨b + 1, 0, none⟩ u))
    (hY : ∀ pre x W, J pre W → pre ++ [x] <+: xs → YieldAt Fence.wide (n - 1) Tryz.prog l #[encStr x] W fun e W' => e = .returned (.bool true) ∧ J (pre ++ [x]) W' ∧ Keep b W W')
    (p : ByteArray) (hx : sp p.data.toList = xs) (hp : p.size ≤ 100000) (W : World) (h1 : Boxed W (b + 1) 9 (.string p)) (h2 : Boxed W (b + 2) 9 (.string ⟨#[47]⟩)) (h3 : Boxed W (b + 3) 3 (.int .i64 0)) (h0 : J [] W) :
    CallsIn Fence.wide n Tryz.prog 262 #[.func (.yield l) #[] #[], .pointer (some ⟨b + 2, 0, none⟩), .pointer (some ⟨b + 1, 0, none⟩), .pointer (some ⟨b + 3, 0, none⟩)] W fun e W' => (∃ v, e = .returned v) ∧ J xs W' := by
  have hro : Fence.wide.round = none := rfl
  have H0 : Hid (∃ (s : ByteArray) (pre : List Bs), Boxed W (b + 1) 9 (.string s) ∧ Boxed W (b + 2) 9 (.string ⟨#[47]⟩) ∧ Boxed W (b + 3) 3 (.int .i64 0) ∧ pre ++ sp s.data.toList = xs ∧ J pre W ∧ s.size ≤ 100000) := ⟨p, [], h1, h2, h3, by simpa using hx, h0, hp⟩
  have hc2 := h2.cell
  clear hx hp h1 h2 h3 h0
  refine callsIn_of_wp Tryz.func262 rfl trivial ?_ hro
  simp only [Tryz.ntmps262, List.size_toArray, List.length_cons, List.length_nil, Nat.reduceAdd, Nat.reduceSub, Array.replicate_succ, Array.replicate_zero, List.push_toArray, List.append_toArray, List.nil_append, List.cons_append]
  gi_wp2
  gi_loopw [7, 8] (fun _ _ wr => Hid (∃ (s : ByteArray) (pre : List Bs), Boxed wr (b + 1) 9 (.string s) ∧ Boxed wr (b + 2) 9 (.string ⟨#[47]⟩) ∧ Boxed wr (b + 3) 3 (.int .i64 0) ∧ pre ++ sp s.data.toList = xs ∧ J pre wr ∧ s.size ≤ 100000)) (fun _ _ wr => left_ wr b)
  case atStart => exact H0
  case round =>
    obtain ⟨s, pre, b1, b2, b3, hxs, hj, hsz⟩ := hrel.out
    have c1 := b1.cell
    have c2 := b2.cell
    have c3 := b3.cell
    have f1 := b1.frozen
    have HJ := Lib.hid hj
    have HX := Lib.hid hxs
    have hls : s.data.toList.length = s.size := Array.length_toList
    rcases no_or s.data.toList with hno | ⟨a, t, he, hno⟩
    · have hi := idx_none _ hno
      have hpx : pre ++ [s.data.toList] = xs := by rw [← hxs, sp_all _ hno]
      obtain ⟨fn, tmps, assign, body, hy, hR⟩ := hY pre s.data.toList wr hj (by rw [hpx]; exact List.prefix_refl _)
      rw [show encStr s.data.toList = Value.string s from rfl] at hy
      have HR := Lib.hid hR
      have HPX := Lib.hid hpx
      clear hj hxs hrel hR hpx hno hls
      gi_wp2_with (refine ⟨trivial, ?_⟩; gi_at_call 130; refine (callsIn_wide.2 (Tryz.strings_Index_one s 47 _)).mono ?_; rintro e w' ⟨rfl, rfl⟩)
      refine HR.out.mono ?_
      rintro e W3 ⟨rfl, hJ3, hk3⟩
      rw [HPX.out] at hJ3
      gi_wp2
      go_end0
      exact ⟨⟨_, rfl⟩, hJ3⟩
    · have hi := idx_some a t hno
      rw [← he] at hi
      have hsp : pre ++ [a] ++ sp t = xs := by rw [← hxs, he, sp_cut a t hno]; simp
      obtain ⟨k, hk⟩ : ∃ k, a.length = k := ⟨_, rfl⟩
      rw [hk] at hi
      have hsk : k + 1 + t.length = s.size := by rw [← hls, he]; simp; omega
      have e1 : s.extract 0 k = bs a := ext_bytes (by unfold seg; rw [he, ← hk]; simp)
      have e2 : s.extract (k + 1) s.size = bs t := ext_bytes (by unfold seg; rw [List.take_of_length_le (by omega), he, ← hk]; simp)
      obtain ⟨za, hza⟩ : ∃ z, bs a = z := ⟨_, rfl⟩
      obtain ⟨zt, hzt⟩ : ∃ z, bs t = z := ⟨_, rfl⟩
      obtain ⟨fn, tmps, assign, body, hy, hR⟩ := hY pre a wr hj (by rw [← hsp]; exact List.prefix_append _ _)
      rw [show encStr a = Value.string za from congrArg Value.string hza] at hy
      rw [hza] at e1
      rw [hzt] at e2
      have HR := Lib.hid hR
      have HT : Hid (t = zt.data.toList) := by rw [← hzt]; rfl
      have HSP := Lib.hid hsp
      have HB2 := Lib.hid b2
      have HB3 := Lib.hid b3
      have HB1 := Lib.hid b1
      have hztn : t.length = zt.size := by rw [← hzt]; rfl
      have q1 : (0 : Int) ≤ (k : Int) := by omega
      have q2 : (k : Int) ≤ (s.size : Int) := by omega
      have q3 : (k : Int) + 1 ≤ (s.size : Int) := by omega
      have q4 : (0 : Int) ≤ (k : Int) + 1 := by omega
      have q5 : IntKind.i64.wrap ((k : Int) + 1) = (k : Int) + 1 := by rw [IntKind.wrap_i64]; omega
      have q6 : wrap64 ((k : Int) + 1) = (k : Int) + 1 := by unfold wrap64; omega
      have q7 : IntKind.i64.wrap (k : Int) = (k : Int) := by rw [IntKind.wrap_i64]; omega
      have q8 : wrap64 (k : Int) = (k : Int) := by unfold wrap64; omega
      clear hj hxs hrel hR hsp hno hls he hk hza hzt b1 b2 b3
      gi_wp2_with (refine ⟨trivial, ?_⟩; gi_at_call 130; refine (callsIn_wide.2 (Tryz.strings_Index_one s 47 _)).mono ?_; rintro e w' ⟨rfl, rfl⟩)
      refine HR.out.mono ?_
      rintro e W3 ⟨rfl, hJ3, hk3⟩
      have d1 := hk3.box HB1.out (by omega) (by omega)
      have d2 := hk3.box HB2.out (by omega) (by omega)
      have d3 := hk3.box HB3.out (by omega) (by omega)
      have g1 := d1.cell
      have g2 := d2.cell
      have g3 := d3.cell
      have gf := d1.frozen
      have HD1 := Lib.hid d1
      have HD2 := Lib.hid d2
      have HD3 := Lib.hid d3
      have HJ3 := Lib.hid hJ3
      clear d1 d2 d3 hJ3 hk3
      gi_wp2
      go_roundw
      case rel => exact ⟨zt, pre ++ [a], HD1.out.set _, HD2.out.other (by omega) _, HD3.out.other (by omega) _, by rw [← HT.out]; exact HSP.out, hJ _ _ _ HJ3.out, by omega⟩
      case measure => rw [left_eq (HD1.out.set (.string zt)), left_eq HB1.out]; omega
end Go.Proofs.YtcmjpkfinbakkaaGreatDoor.Vf

namespace Go.Proofs.YtcmjpkfinbakkaaGreatDoor.Vf
set_option maxRecDepth 100000
open Go.RowKit Go.Shelf
attribute [local go_sem] Oper.semAt_some

set_option maxHeartbeats 1000000 in
theorem splitSeq_any (p sep : ByteArray) (k : Int) (w : World) :
    Calls Tryz.prog 222 #[.string p, .string sep, .int .i64 k] w fun e w' => e = .returned (.func (.func 262) #[] #[.pointer (some ⟨w.heap.size + 1, 0, none⟩), .pointer (some ⟨w.heap.size, 0, none⟩), .pointer (some ⟨w.heap.size + 2, 0, none⟩)]) ∧
      w' = ((w.alloc (.cells #[.string p] 9)).alloc (.cells #[.string sep] 9)).alloc (.cells #[.int .i64 k] 3) := by
  go_enter Tryz.func222, Tryz.ntmps222
  go_wp2_with fail
  go_ret
  exact ⟨rfl, rfl⟩
set_option maxHeartbeats 1000000 in
theorem SplitSeq_any (p sep : ByteArray) (w : World) :
    Calls Tryz.prog 180 #[.string p, .string sep] w fun e w' => e = .returned (.func (.func 262) #[] #[.pointer (some ⟨w.heap.size + 1, 0, none⟩), .pointer (some ⟨w.heap.size, 0, none⟩), .pointer (some ⟨w.heap.size + 2, 0, none⟩)]) ∧
      w' = ((w.alloc (.cells #[.string p] 9)).alloc (.cells #[.string sep] 9)).alloc (.cells #[.int .i64 0] 3) := by
  go_enter Tryz.func180, Tryz.ntmps180
  go_wp2_with fail
  refine (splitSeq_any p sep 0 w).mono ?_
  rintro e w1 ⟨rfl, h1⟩
  have H1 := Lib.hid h1
  clear h1
  go_wp2_with fail
  go_ret
  exact ⟨rfl, H1.out⟩

/-- Where an appended row lies: where it lay, or in a new block. -/
theorem append_where {w w' : World} {base : Nat} {ty : TypeId} {v v' : Value} {n : Nat} {xs : List Value} (hown : w.ownsRow base 9 1 v n xs) {ad : Addr} {c : Nat} {u : Value} (hc : w.cell? ad = some u) (h1 : u.oneCell' = true) (hb : (n + 1) * 16 ≤ 140737488355328)
    (hrun : (Builtin.append_ #[22, 22] ty #[v, .slice (some ad) 1 c]).run Tryz.prog w = .ok v' w') : v'.ownBlock = v.ownBlock ∨ v'.ownBlock = some w.heap.size := by
  obtain ⟨i0, hi, hz0, hz1, hz2⟩ := info_parts info9
  have hnews : ∀ j x, [u][j]? = some x → w.cell? (ad.add j) = some x := by
    intro j x hj
    match j, hj with
    | 0, hj => simp at hj; subst hj; simpa [Addr.add] using hc
  rcases hown.2 with ⟨rfl, rfl⟩ | ⟨g, cap, cur, rfl, hbg, hg, hnc, hcm, hcs, htake⟩
  · have hr := run_append_nil (P := Tryz.prog) w 22 ty 9 i0 (.string ⟨#[]⟩) Tryz.underlying22 hi hz0 ad 1 c [u] (by rw [hz1]; rfl) hnews (by omega) (by omega) (by rw [hz2]; omega)
    rw [hr] at hrun
    injection hrun with e _
    right
    rw [← e]; rfl
  · by_cases hroom : n + 1 ≤ cap
    · have hr := run_append_room (P := Tryz.prog) w 22 ty 9 i0 Tryz.underlying22 hi g n cap cur hg ad 1 c [u] (by rw [hz1]; rfl) hnews (by simpa using h1) hroom (by rw [hz1, hcs]; simp; omega)
      rw [hr] at hrun
      injection hrun with e _
      left
      rw [← e]; rfl
    · have holds : ∀ j x, xs[j]? = some x → w.cell? ((⟨g, 0, none⟩ : Addr).add j) = some x := hown.cells (g := g) rfl
      have hr := run_append_grow (P := Tryz.prog) w 22 ty 9 i0 (.string ⟨#[]⟩) Tryz.underlying22 hi hz0 ⟨g, 0, none⟩ n cap xs (by rw [hz1]; exact hown.1) holds ad 1 c [u] (by rw [hz1]; rfl) hnews (by omega) (by omega) (growslice_fits (by omega) (by rw [hz2]; exact hb))
      rw [hr] at hrun
      injection hrun with e _
      right
      rw [← e]; rfl

theorem wpListIn_append_apart {F : Fence} {n : Nat} (w : World) {ops : Array Oper} {rest : List Oper} {o : Oper} {a : Act} {Q : Exit → Act → World → Prop}
    (hg : o.guard = none) (s x : Operand) (hop : o.op = Op.call { callee := Callee.builtin Builtin.append, args := #[s, x], argTypes := #[22, 22] })
    (base : Nat) (v : Value) (k : Nat) (xs : List Value) (hs : a.eval s = v) (hown : w.ownsRow base 9 1 v k xs) (ad : Addr) (c : Nat) (u : Value) (hx : a.eval x = .slice (some ad) 1 c)
    (hc : w.cell? ad = some u) (h1c : u.oneCell' = true) (b1 : k + 1 ≤ 1000000) (b3 : base ≤ w.heap.size)
    (hK : ∀ v' w', w'.ownsRow base 9 1 v' (k + 1) (xs ++ [u]) → w.grownBy w' v.ownBlock → (v'.ownBlock = v.ownBlock ∨ v'.ownBlock = some w.heap.size) → wpListIn F n Tryz.prog ops Q rest (a.put o.dst v') w') :
    wpListIn F n Tryz.prog ops Q (o :: rest) a w := by
  obtain ⟨i0, hi, hz0, hz1, hz2⟩ := info_parts info9
  refine wpListIn_plain hg fun K hK' => ?_
  obtain ⟨v', w', hrun, r1, r2, _⟩ := run_append_own (P := Tryz.prog) w base 22 o.type 9 i0 (.string ⟨#[]⟩) 1 16 Tryz.underlying22 hi hz0 hz1 hz2 rfl (by decide) v k xs hown ad 1 c [u] rfl (fun j y hj => by match j, hj with | 0, hj => simp at hj; subst hj; simpa [Addr.add] using hc) (by simpa using h1c) (by unfold maxLen; omega) (by omega) b3
  have r4 := append_where hown hc h1c (by omega) hrun
  unfold Oper.wpIn
  refine ⟨?_, ?_⟩
  · simp [Oper.about, hop, resolve, Target.leads, Sem.run_pure]
  · rw [Oper.semAt_plain F _ _ (by rw [hop]; intro c hc'; cases hc')]
    simp [execOp, hop, resolve, invoke, builtin, hs, hx, hrun, Result.andThen]
    exact hK' _ _ (hK v' w' r1 r2 r4)
end Go.Proofs.YtcmjpkfinbakkaaGreatDoor.Vf

namespace Go.Proofs.YtcmjpkfinbakkaaGreatDoor.Vf
set_option maxRecDepth 100000
open Go.RowKit Go.Shelf
attribute [local go_sem] Oper.semAt_some

/-- Where the row's block is not: among the iterator's cells. -/
def Apart (b : Nat) (v : Value) : Prop := ∀ g, v.ownBlock = some g → g < b ∨ b + 4 ≤ g
theorem Apart.ne {b k : Nat} {v : Value} (h : Apart b v) (h1 : b < k) (h2 : k < b + 4) : v.ownBlock ≠ some k := fun e => by have := h k e; omega
theorem Apart.where_ {b s : Nat} {v v' : Value} (h : Apart b v) (hs : b + 4 ≤ s) (hw : v'.ownBlock = v.ownBlock ∨ v'.ownBlock = some s) : Apart b v' := fun g e => by
  rcases hw with hw | hw
  · exact h g (hw.symm.trans e)
  · rw [hw] at e; injection e with e; omega
def FI (B b : Nat) (W0 : World) (l0 : List Bs) (pre : List Bs) (W : World) : Prop :=
  (∃ v, Boxed W b 22 v ∧ W.ownsRow B 9 1 v (pre.foldl push l0).length ((pre.foldl push l0).map encStr) ∧ Apart b v) ∧ Below B W0 W
theorem keep_put {b l : Nat} (W : World) (o : Obj) (h : b + 4 ≤ l) : Keep b W (W.putObj l o) := fun k h1 h2 => World.putObj_heap_other (by omega)
theorem ownBlock_slice {A : Option Addr} {n c m d : Nat} : (Value.slice A n c).ownBlock = (Value.slice A m d).ownBlock := by cases A <;> rfl
theorem own_block_some {w : World} {B n : Nat} {v : Value} {xs : List Value} (h : w.ownsRow B 9 1 v n xs) {g : Nat} (e : v.ownBlock = some g) : g < w.heap.size := by
  rcases h.2 with ⟨rfl, _⟩ | ⟨g', c, cur, rfl, _, hg, _⟩
  · simp [Value.ownBlock] at e
  · obtain rfl : g' = g := by simpa [Value.ownBlock] using e
    exact (Array.getElem?_eq_some_iff.1 hg).1

/-- A row cut by one, from whatever it was. -/
theorem own_less {w : World} {B c : Nat} {A : Option Addr} {l : List Bs} (h : w.ownsRow B 9 1 (.slice A l.length c) l.length (l.map encStr)) :
    (∀ w', (Instr.slice 22 (.slice A l.length c) none (some (.int .i64 ((l.length - 1 : Nat) : Int))) none).run Tryz.prog w' = .ok (.slice A (l.length - 1) c) w') ∧
      w.ownsRow B 9 1 (.slice A (l.length - 1) c) l.dropLast.length (l.dropLast.map encStr) := by
  by_cases hl : 0 < l.length
  · obtain ⟨g, c', ea, _, _⟩ := h.form hl
    injection ea with e1 _ e3
    subst e1
    subst e3
    refine ⟨slice_some g l.length c (l.length - 1) (by have := own_cap h hl; omega), ?_⟩
    rw [List.length_dropLast]
    exact own_last h hl
  · obtain rfl : l = [] := List.length_eq_zero_iff.1 (by omega)
    rcases h.2 with ⟨h1, _⟩ | ⟨g, c', cur, hv, _, _, h1, _⟩
    · injection h1 with e1 _ e3
      subst e1
      subst e3
      exact ⟨slice_nil, h⟩
    · injection hv with e1 _ e3
      subst e1
      exact ⟨slice_some g 0 c 0 (by omega), h⟩

set_option maxRecDepth 100000 in
set_option maxHeartbeats 4000000 in
theorem follow_any (B : Nat) (v0 : Value) (l0 : List Bs) (p : ByteArray) (w : World) (hB : B ≤ w.heap.size) (hv : w.ownsRow B 9 1 v0 l0.length (l0.map encStr)) (hn : l0.length + p.size ≤ 100000) :
    Calls Tryz.prog 123 #[v0, .string p] w fun e w' => ∃ v', e = .returned v' ∧ w'.ownsRow B 9 1 v' ((sp p.data.toList).foldl push l0).length (((sp p.data.toList).foldl push l0).map encStr) ∧ Below B w w' := by
  obtain ⟨A0, c0, rfl⟩ := own_form hv
  obtain ⟨b, hb⟩ : ∃ b, w.heap.size = b := ⟨_, rfl⟩
  have hap : Apart b (.slice A0 l0.length c0) := fun g e => .inl (by rw [← hb]; exact own_block_some hv e)
  have HV := Lib.hid hv
  clear hv
  refine (callsIn_wide (n := 3)).1 ?_
  refine callsIn_of_wp_marks Tryz.func123 rfl trivial ?_ rfl
  simp only [Tryz.ntmps123, List.size_toArray, List.length_cons, List.length_nil, Nat.reduceAdd, Nat.reduceSub, Array.replicate_succ, Array.replicate_zero, List.push_toArray, List.append_toArray, List.nil_append, List.cons_append]
  gi_wp2
  refine wpIn_scope_s ?_
  refine wpIn_seq (wpIn_label ?_)
  gi_wp2_with (refine ⟨trivial, ?_⟩; gi_at_call 180; refine (callsIn_wide.2 (SplitSeq_any p ⟨#[47]⟩ _)).mono ?_; rintro e w' ⟨rfl, rfl⟩)
  obtain ⟨W0, hW0⟩ : ∃ W0, (((w.alloc (.cells #[.slice A0 l0.length c0] 22)).alloc (.cells #[.string p] 9)).alloc (.cells #[.string ⟨#[47]⟩] 9)).alloc (.cells #[.int .i64 0] 3) = W0 := ⟨_, rfl⟩
  have hs0 : W0.heap.size = b + 4 := by rw [← hW0]; simp [hb]
  have hb0 : Boxed W0 b 22 (.slice A0 l0.length c0) := by rw [← hW0, ← hb]; exact (((Boxed.new w 22 _).alloc _).alloc _).alloc _
  have hb1 : Boxed W0 (b + 1) 9 (.string p) := by rw [← hW0, ← hb]; have := ((Boxed.new (w.alloc (.cells #[.slice A0 l0.length c0] 22)) 9 (.string p)).alloc (.cells #[.string ⟨#[47]⟩] 9)).alloc (.cells #[.int .i64 0] 3); simpa using this
  have hb2 : Boxed W0 (b + 2) 9 (.string ⟨#[47]⟩) := by rw [← hW0, ← hb]; have := (Boxed.new ((w.alloc (.cells #[.slice A0 l0.length c0] 22)).alloc (.cells #[.string p] 9)) 9 (.string ⟨#[47]⟩)).alloc (.cells #[.int .i64 0] 3); simpa using this
  have hb3 : Boxed W0 (b + 3) 3 (.int .i64 0) := by rw [← hW0, ← hb]; have := Boxed.new (((w.alloc (.cells #[.slice A0 l0.length c0] 22)).alloc (.cells #[.string p] 9)).alloc (.cells #[.string ⟨#[47]⟩] 9)) 3 (.int .i64 0); simpa using this
  have hB0 : Below b w W0 := by rw [← hW0, ← hb]; exact ((((Below.refl _ w).alloc (Nat.le_refl _) _).alloc (by simp) _).alloc (by simp; omega) _).alloc (by simp; omega) _
  have hO0 : W0.ownsRow B 9 1 (.slice A0 l0.length c0) l0.length (l0.map encStr) := by rw [← hW0]; exact ((((HV.out.alloc _).alloc _).alloc _).alloc _)
  have hpl : (sp p.data.toList).length ≤ p.size + 1 := by have := sp_len p.data.toList; have : p.data.toList.length = p.size := Array.length_toList; omega
  rw [hW0]
  refine wpIn_rangeFunc_T rfl (by omega) (gf := 262) (lb := #[.pointer (some ⟨b + 2, 0, none⟩), .pointer (some ⟨b + 1, 0, none⟩), .pointer (some ⟨b + 3, 0, none⟩)]) rfl trivial (enters_of Tryz.func262 (by kernel_rfl) rfl)
    (encs := fun x : Bs => #[encStr x]) (T := fun A C => ∃ u, C = A.setCell ⟨b + 1, 0, none⟩ u) (Kp := Keep b) (xs := sp p.data.toList) (fun A C h => by obtain ⟨u, rfl⟩ := h; exact KeepsOthers.setCell _ _ _)
    (fun l J W hW hJ hY h0 => split_in _ (by decide) l b J _ (fun s A u h => hJ s A _ h ⟨u, rfl⟩) hY p rfl (by omega) W ((hW.block (b + 1) (by omega)).trans hb1) ((hW.block (b + 2) (by omega)).trans hb2) ((hW.block (b + 3) (by omega)).trans hb3) h0)
    (fun h k => h.trans k) (fun W l o h => keep_put W o (by omega)) (fun _ => rfl) (FI B b W0 l0)
    (OwnFrom.and (Own.from (holdsRow_own B b 22 9 1 (fun pre : List Bs => (pre.foldl push l0).length) (fun pre => (pre.foldl push l0).map encStr) (fun _ v => Apart b v)) _) (ownFrom_below (by omega) (by omega)))
    ?turn ⟨⟨_, hb0, hO0, hap⟩, Below.refl _ _⟩
    (fun x => { tmps := #[.slice A0 l0.length c0, .string p, .pointer (some ⟨b, 0, none⟩), undef, .slice none 0 0, encStr x, .string p, .func (.func 262) #[] #[.pointer (some ⟨b + 2, 0, none⟩), .pointer (some ⟨b + 1, 0, none⟩), .pointer (some ⟨b + 3, 0, none⟩)], encStr x, undef, undef, undef, undef, undef, undef, undef, undef, undef, undef, undef, undef, undef, undef, undef, undef, undef], defers := [] }) ?assign ?body ?done
  case turn =>
    rintro s A C ⟨⟨v, hv, hrow, hG⟩, hB⟩ ⟨u, rfl⟩
    exact ⟨⟨v, hv.other (by omega) u, hrow.kept (grownBy_setCell' A (b + 1) u) (.inr (hG.ne (by omega) (by omega))), hG⟩, hB.setCell (p := ⟨b + 1, 0, none⟩) (by simp; omega) u⟩
  case assign =>
    intro l x W K hK
    gi_wp2
    exact hK
  case body =>
    rintro l pre x W ⟨⟨v, hv, hrow, hG⟩, hBW⟩ hx
    have hL : (pre.foldl push l0).length + 1 ≤ 200000 := by
      have h1 := push_fold_len pre l0
      have h2 := hx.length_le
      simp at h2
      omega
    have hnext : (pre ++ [x]).foldl push l0 = push (pre.foldl push l0) x := by simp
    obtain ⟨L, hLe⟩ : ∃ L, pre.foldl push l0 = L := ⟨_, rfl⟩
    rw [hLe] at hrow hL hnext
    have HN := Lib.hid hnext
    have HLe := Lib.hid hLe
    obtain ⟨z, hz⟩ : ∃ z, bs x = z := ⟨_, rfl⟩
    have hzl : z.toList = x := by rw [Lib.toList_data, ← hz]; rfl
    rw [show encStr x = Value.string z from congrArg Value.string hz]
    obtain ⟨A, c, rfl⟩ := own_form hrow
    have hc := hv.cell
    have hf := hv.frozen
    have HROW := Lib.hid hrow
    have HG := Lib.hid hG
    have HB := Lib.hid hBW
    have HV := Lib.hid hv
    have HZ := Lib.hid hz
    have hws : b + 4 ≤ W.heap.size := by have := hBW.size; omega
    clear hx hnext hLe hz hrow hG hBW hv
    by_cases c1 : x = []
    · subst c1
      gi_wp2
      exact ⟨KeepsFrom.refl _ _, fun _ _ _ => rfl, ⟨_, HV.out, by rw [HN.out, push_nil]; exact HROW.out, HG.out⟩, HB.out⟩
    · by_cases c2 : x = [46]
      · subst c2
        gi_wp2
        exact ⟨KeepsFrom.refl _ _, fun _ _ _ => rfl, ⟨_, HV.out, by rw [HN.out, show push L [46] = L from rfl]; exact HROW.out, HG.out⟩, HB.out⟩
      · by_cases c3 : x = [46, 46]
        · subst c3
          obtain ⟨hst, hod⟩ := own_less HROW.out
          have hap2 : Apart b (.slice A (L.length - 1) c) := by intro g e; exact HG.out g (by rw [← e]; exact ownBlock_slice)
          obtain ⟨m, hm⟩ : ∃ m, L.length - 1 = m := ⟨_, rfl⟩
          rw [hm] at hst hod hap2
          have hmx : max ((L.length : Int) - 1) 0 = (m : Int) := by omega
          have hwr : IntKind.i64.wrap ((L.length : Int) - 1) = (L.length : Int) - 1 := by rw [IntKind.wrap_i64]; omega
          have hwr2 : wrap64 ((L.length : Int) - 1) = (L.length : Int) - 1 := by unfold wrap64; omega
          have HOD := Lib.hid hod
          have HA2 := Lib.hid hap2
          have HL := Lib.hid hL
          clear hod hap2 hL hm
          gi_wp2
          exact ⟨(KeepsOthers.setCell _ _ _).from _, fun k h1 h2 => Below.heap_setCell _ _ _ k (by simp; omega),
            ⟨_, HV.out.set _, by rw [HN.out, push_dd]; exact HOD.out.kept (grownBy_setCell' W b _) (.inr (HV.out.not_row (by decide) HOD.out).symm), HA2.out⟩, HB.out.setCell (p := ⟨b, 0, none⟩) (by simp; omega) _⟩
        · have d1 : x.isEmpty = false := by cases x with | nil => exact absurd rfl c1 | cons a t => rfl
          have d2 : (x == [46]) = false := by rw [beq_eq_false_iff_ne]; exact c2
          have d3 : (x == [46, 46]) = false := by rw [beq_eq_false_iff_ne]; exact c3
          have HP : Hid (push L x = L ++ [x]) := by rw [Hid, push, if_neg (by rintro (h | h); exact c1 h; exact c2 h), if_neg c3]
          have HL := Lib.hid hL
          clear c1 c2 c3 hL
          gi_wp2_with (gi_at_builtin; refine wpListIn_append_apart _ rfl _ _ rfl B _ L.length (L.map encStr) rfl (HROW.out.alloc _) ⟨W.heap.size, 0, none⟩ 1 (.string z) rfl (cell_one_new W (.string z) 9 0 (.string z) rfl) rfl (by have := HL.out; omega) (by simp; omega) ?_; intro v' w1 hown' hgrow hwhere; obtain ⟨g', cap', rfl⟩ := ownsRow_succ hown'; obtain ⟨hv1, hv2, hr2, hk2, hb2⟩ := HV.out.appended (by decide) HROW.out (by omega) (by omega) hown' hgrow; have hc1 := hv1.cell; have hf1 := hv1.frozen)
          exact ⟨hk2.from _, fun k h1 h2 => ((Below.heap_setCell _ _ _ k (by simp; omega)).trans (hgrow.block k (by simp; omega) (HG.out.ne h1 h2).symm)).trans (Below.heap_alloc _ _ _ (by omega)), ⟨_, hv2, by rw [HN.out, HP.out]; simpa [show encStr x = Value.string z from congrArg Value.string HZ.out] using hr2, HG.out.where_ (by simp; omega) hwhere⟩, HB.out.trans hb2⟩
  case done =>
    rintro D W hD ⟨⟨v, hv, hrow, hG⟩, hBW⟩ hK
    have hc := hv.cell
    obtain ⟨A, c, rfl⟩ := own_form hrow
    have HROW := Lib.hid hrow
    have HB := Lib.hid ((hB0.mono (by omega : B ≤ b)).trans hBW)
    have hDb : b + 4 ≤ D := by omega
    clear hrow hG hBW hv hD
    gi_wp2
    refine ⟨by simp, .inl ⟨_, _, rfl, run_takeDeferred hK, ?_⟩⟩
    exact ⟨_, results_tmp rfl _ _ _, _, rfl, ownsRow_putObj HROW.out _ hK rfl, HB.out.trans (belowK_b (w := w) (by omega) W D _ _ (by omega) hK rfl rfl)⟩
end Go.Proofs.YtcmjpkfinbakkaaGreatDoor.Vf
