import Derived.Test.YtcmjpkfinbakkaaDoorVM
import Derived.Maps.RangeWalk
import Derived.StillTailTactics
import Derived.Test.YtcmjpkfinbakkaaDoorVG
import Derived.Test.YtcmjpkfinbakkaaDoorA
namespace Go.Proofs.YtcmjpkfinbakkaaDoor
open Go.RowKit Go.Maps Go.ChangeMaps Go.Sort
set_option linter.unusedVariables false
/-! How many names a directory holds; a copy's tree under way; a place that is taken out. -/
theorem nodup_le {α : Type} [DecidableEq α] : ∀ {l m : List α}, l.Nodup → (∀ x ∈ l, x ∈ m) → l.length ≤ m.length
  | [], _, _, _ => Nat.zero_le _
  | a :: l, m, h, hs => by
    obtain ⟨h1, h2⟩ := List.nodup_cons.1 h
    have ha := hs a (by simp)
    have ih := nodup_le (m := m.erase a) h2 (fun x hx => (List.mem_erase_of_ne (fun e => h1 (by rw [← e]; exact hx))).2 (hs x (List.mem_cons_of_mem _ hx)))
    have hl := List.length_erase_of_mem ha
    have hp := List.length_pos_of_mem ha
    simp only [List.length_cons]
    omega
def Cnt (T : Tr) (p : Pth) (n : Nat) : Prop := ∀ ks : List Bz, ks.Nodup → (∀ k ∈ ks, (T (p ++ [k])).isSome = true) → ks.length ≤ n
theorem keys_len {w : World} {b nn : Nat} {D : DataW Unit} (h : w.ownsMap Tryd.prog 9 ptrR b nn D) : (strKeys D).length = Maps.size D := by
  obtain ⟨es, rfl, _⟩ := h.entries keyedS
  show (es.map fun p => strOf p.1).length = es.length
  exact List.length_map ..
theorem Kids.cnt {w : World} {N : Nat} {m : Option Nat} {g : Bz → Option Nat} (h : Kids w N m g) (ks : List Bz) (hn : ks.Nodup) (hk : ∀ k ∈ ks, (g k).isSome = true) : ks.length ≤ N := by
  cases m with
  | none =>
    cases ks with
    | nil => exact Nat.zero_le _
    | cons k r =>
      have := hk k (by simp)
      rw [h.no rfl k] at this
      cases this
  | some b =>
    obtain ⟨nn, D, hnn, hown, hg⟩ := h.yes b rfl
    have hkeys := keys_of hown
    have h1 := nodup_le (m := strKeys D) hn (fun x hx => (hkeys.2 x).2 (by rw [(hg x).2]; exact hk x hx))
    have h2 := keys_len hown
    have h3 := hown.size_le
    omega
theorem own_tight {w : World} {b nn : Nat} {D : DataW Unit} (h : w.ownsMap Tryd.prog 9 ptrR b nn D) {n : Nat} (hn : Maps.size D ≤ n) : w.ownsMap Tryd.prog 9 ptrR b n D := by
  obtain ⟨es, clock, hb, F, hs, rfl⟩ := h
  refine ⟨es, clock, hb, F, ?_, rfl⟩
  have : Maps.size (DataW.map ((es.toList.map (WideElems.rg Tryd.prog 9 ptrR)).foldr DataW.insert [])) = es.size := by simp [Maps.size, length_sorted]
  omega
theorem Kids.tight {w : World} {N N' : Nat} {m : Option Nat} {g : Bz → Option Nat} (h : Kids w N m g) (hc : ∀ ks : List Bz, ks.Nodup → (∀ k ∈ ks, (g k).isSome = true) → ks.length ≤ N') : Kids w N' m g := by
  refine ⟨h.no, fun b hm => ?_⟩
  obtain ⟨nn, D, hnn, hown, hg⟩ := h.yes b hm
  have hkeys := keys_of hown
  have h1 := hc (strKeys D) hkeys.1 (fun k hk => by rw [← (hg k).2]; exact (hkeys.2 k).1 hk)
  rw [keys_len hown] at h1
  exact ⟨N', D, Nat.le_refl _, own_tight hown h1, hg⟩
section
variable {w w' : World} {B N f : Nat} {ty : TypeId} {tl : List Value} {T : Tr} {A : Pth → Nat} {M : Pth → Option Nat} {V : Pth → Value}
theorem kidsOf_some (T : Tr) (A : Pth → Nat) (p : Pth) (k : Bz) : (kidsOf T A p k).isSome = (T (p ++ [k])).isSome := by
  unfold kidsOf
  cases (T (p ++ [k])) <;> rfl
theorem TreeAt.cnt (h : TreeAt w B N f ty tl T A M V) {p : Pth} (hp : (T p).isSome = true) : Cnt T p N := by
  obtain ⟨n, hn⟩ := Option.isSome_iff_exists.1 hp
  intro ks h1 h2
  exact (h.kids p n hn).cnt ks h1 (fun k hk => by rw [kidsOf_some]; exact h2 k hk)
theorem TreeAt.tight (h : TreeAt w B N f ty tl T A M V) {N' : Nat} (hc : ∀ p, (T p).isSome = true → Cnt T p N') : TreeAt w B N' f ty tl T A M V :=
  ⟨h.a0, h.root, h.up, h.blk, h.data, fun p n hp => (h.kids p n hp).tight (fun ks h1 h2 => hc p (by rw [hp]; rfl) ks h1 (fun k hk => by rw [← kidsOf_some T A]; exact h2 k hk)), h.base, h.injA, h.injM, h.injV⟩
theorem TreeAt.pre (h : TreeAt w B N f ty tl T A M V) (p r : Pth) (hr : (T (p ++ r)).isSome = true) : (T p).isSome = true := by
  induction hn : r.length generalizing r with
  | zero =>
    have : r = [] := List.eq_nil_of_length_eq_zero hn
    subst this
    simpa using hr
  | succ n ih =>
    rcases List.eq_nil_or_concat r with e | ⟨d, k, e⟩
    · subst e; simp at hn
    · have e : r = d ++ [k] := by rw [e]; simp
      subst e
      rw [← List.append_assoc] at hr
      obtain ⟨m, hm, _⟩ := h.up _ _ hr
      exact ih d (by rw [hm]; rfl) (by simp at hn; exact hn)
/-- No place lies deeper than there are blocks. -/
theorem TreeAt.depth (h : TreeAt w B N f ty tl T A M V) {p : Pth} (hp : (T p).isSome = true) : p.length < w.heap.size := by
  have hs : ∀ i, (T (p.take i)).isSome = true := fun i => h.pre (p.take i) (p.drop i) (by rw [List.take_append_drop]; exact hp)
  have h1 : ((List.range (p.length + 1)).map fun i => A (p.take i)).Nodup := by
    refine List.pairwise_map.2 (List.Pairwise.imp_of_mem ?_ List.nodup_range)
    intro i j hi hj hne e
    have hi := List.mem_range.1 hi
    have hj := List.mem_range.1 hj
    have := congrArg List.length (h.injA _ _ (hs i) (hs j) e)
    rw [List.length_take, List.length_take] at this
    omega
  have h2 := nodup_le (m := List.range w.heap.size) h1 (fun x hx => by
    obtain ⟨i, _, rfl⟩ := List.mem_map.1 hx
    obtain ⟨n, hn⟩ := Option.isSome_iff_exists.1 (hs i)
    exact List.mem_range.2 (h.lt ⟨_, n, hn, .inl rfl⟩))
  simp at h2
  omega
def subT (T : Tr) (p : Pth) : Tr := fun q => T (p ++ q)
def halfT (T : Tr) (p : Pth) (left : Lit → Bool) : Tr := fun q => match q with
  | [] => T p
  | k :: r => if left (.string k) = true then none else T (p ++ k :: r)
theorem half_start (h : TreeAt w B N f ty tl T A M V) {p : Pth} {n : Nd} (hp : T p = some n) {left : Lit → Bool} (hl : ∀ k : Bz, (T (p ++ [k])).isSome = true → left (.string k) = true) : halfT T p left = leafT n := by
  funext q
  cases q with
  | nil => show T p = _; rw [hp]; rfl
  | cons k r =>
    show (if left (.string k) = true then none else T (p ++ k :: r)) = _
    have e : leafT n (k :: r) = none := if_neg (by simp)
    rw [e]
    by_cases hk : left (.string k) = true
    · rw [if_pos hk]
    · rw [if_neg hk]
      cases hx : T (p ++ k :: r) with
      | none => rfl
      | some m =>
        exact absurd (hl k (h.pre (p ++ [k]) r (by rw [List.append_assoc]; show (T (p ++ k :: r)).isSome = true; rw [hx]; rfl))) hk
theorem half_step (T : Tr) (p : Pth) (left : Lit → Bool) (k : Bz) : graftF (halfT T p left) ([] ++ [k]) (subT T (p ++ [k])) = halfT T p (fun z => left z && !z.sameKey (.string k)) := by
  funext q
  cases q with
  | nil => rw [graftF_out _ _ _ (by simp)]; rfl
  | cons x r =>
    by_cases e : x = k
    · subst e
      have : (x :: r : Pth) = ([] ++ [x]) ++ r := by simp
      rw [this, graftF_in]
      show T ((p ++ [x]) ++ r) = (if _ then none else T (p ++ x :: r))
      rw [if_neg (by simp [Lit.sameKey])]
      simp
    · rw [graftF_out _ _ _ (by simp; exact fun e2 => e e2.symm)]
      show (if left (.string x) = true then none else T (p ++ x :: r)) = (if (left (.string x) && !(Lit.string x).sameKey (.string k)) = true then none else T (p ++ x :: r))
      have : (left (.string x) && !(Lit.string x).sameKey (.string k)) = left (.string x) := by simp [Lit.sameKey, e]
      rw [this]
theorem half_end {T : Tr} {p : Pth} {left : Lit → Bool} (h : ∀ kl, left kl = false) : halfT T p left = subT T p := by
  funext q
  cases q with
  | nil => show T p = T (p ++ []); rw [List.append_nil]
  | cons x r => show (if left (.string x) = true then none else T (p ++ x :: r)) = _; rw [h]; rfl
theorem half_cnt (h : TreeAt w B N f ty tl T A M V) {p : Pth} (hp : (T p).isSome = true) (left : Lit → Bool) (q : Pth) (hq : (halfT T p left q).isSome = true) : Cnt (halfT T p left) q N := by
  have hsub : ∀ r, (halfT T p left r).isSome = true → (T (p ++ r)).isSome = true := fun r hr => by
    cases r with
    | nil => rw [List.append_nil]; exact hp
    | cons x r =>
      have hr : (if left (.string x) = true then none else T (p ++ x :: r)).isSome = true := hr
      by_cases e : left (.string x) = true
      · rw [if_pos e] at hr; cases hr
      · rw [if_neg e] at hr; exact hr
  intro ks h1 h2
  exact h.cnt (hsub q hq) ks h1 (fun k hk => by rw [List.append_assoc]; exact hsub _ (h2 k hk))
/-- What lies at a place and below it is taken out. -/
def cutT (T : Tr) (p : Pth) : Tr := graftF T p fun _ => none
theorem TreeAt.prune (h : TreeAt w B N f ty tl T A M V) {d : Pth} {k : Bz} (hty : ty ≠ 5) {dn : Nd} (hd : T d = some dn) {X : Nat → Prop} (ho : Only X w w') (hX : ∀ j, X j → M d = some j)
    (hk : Kids w' N (M d) (fun x => if x = k then none else kidsOf T A d x)) : TreeAt w' B N f ty tl (cutT T (d ++ [k])) A M V := by
  have hin : ∀ {q : Pth} {n : Nd}, cutT T (d ++ [k]) q = some n → T q = some n ∧ ¬ (d ++ [k]) <+: q := fun {q n} e => by
    by_cases hp : (d ++ [k]) <+: q
    · obtain ⟨r, rfl⟩ := hp
      unfold cutT at e
      rw [graftF_in] at e
      cases e
    · unfold cutT at e
      rw [graftF_out _ _ _ hp] at e
      exact ⟨e, hp⟩
  have hins : ∀ {q : Pth}, (cutT T (d ++ [k]) q).isSome = true → (T q).isSome = true := fun {q} e => by
    obtain ⟨n, hn⟩ := Option.isSome_iff_exists.1 e
    rw [(hin hn).1]; rfl
  have hout : ∀ {q : Pth}, ¬ (d ++ [k]) <+: q → cutT T (d ++ [k]) q = T q := fun {q} hp => graftF_out _ _ _ hp
  have hds : (T d).isSome = true := by rw [hd]; rfl
  refine ⟨h.a0, ?_, fun q x hq => ?_, fun q n hq => ?_, fun q n hq => ?_, fun q n hq => ?_, fun q n hq => h.base q n (hin hq).1, fun a b ha hb e => h.injA a b (hins ha) (hins hb) e, fun a b j ha hb e1 e2 => h.injM a b j (hins ha) (hins hb) e1 e2, fun a b j ha hb e1 e2 => h.injV a b j (hins ha) (hins hb) e1 e2⟩
  · obtain ⟨n, hn⟩ := h.root
    exact ⟨n, (hout (by simp)).trans hn⟩
  · obtain ⟨m, hm⟩ := Option.isSome_iff_exists.1 hq
    obtain ⟨h1, h2⟩ := hin hm
    obtain ⟨n, hn, hf⟩ := h.up q x (by rw [h1]; rfl)
    exact ⟨n, (hout (fun e => h2 (e.trans (List.prefix_append _ _)))).trans hn, hf⟩
  · have h1 := (hin hq).1
    exact (ho.block _ (h.lt ⟨q, n, h1, .inl rfl⟩) (fun e => h.neAM (by rw [h1]; rfl) hds (hX _ e) rfl)).trans (h.blk q n h1)
  · have h1 := (hin hq).1
    exact row_only (h.data q n h1) (fun g hg hl => ho.block g hl (fun e => h.neMV hds (by rw [h1]; rfl) (hX _ e) hg rfl))
  · obtain ⟨h1, h2⟩ := hin hq
    by_cases e : q = d
    · subst e
      refine hk.congr (fun x => ?_)
      unfold kidsOf
      by_cases hx : x = k
      · subst hx
        have : cutT T (q ++ [x]) (q ++ [x]) = none := graft_self _ _ _
        rw [this, if_pos rfl]; rfl
      · have hnp : ¬ (q ++ [k]) <+: (q ++ [x]) := fun e => hx (by
          obtain ⟨t, ht⟩ := (List.prefix_append_right_inj q).1 e
          have ht : k :: t = [x] := ht
          injection ht with h1 h2
          exact h1.symm)
        rw [hout hnp, if_neg hx]
    · have hkk : kidsOf (cutT T (d ++ [k])) A q = kidsOf T A q := funext fun x => by
        unfold kidsOf
        have hnp : ¬ (d ++ [k]) <+: (q ++ [x]) := fun e2 => by
          rcases List.prefix_concat_iff.1 (by simpa using e2) with e3 | e3
          · exact e (List.append_inj' e3 rfl).1.symm
          · exact h2 e3
        rw [hout hnp]
      rw [hkk]
      exact (h.kids q n h1).only (fun b hm hl => ho.block b hl (fun e2 => e (h.injM q d b (by rw [h1]; rfl) hds hm (hX _ e2))))
end
end Go.Proofs.YtcmjpkfinbakkaaDoor

namespace Go.Proofs.YtcmjpkfinbakkaaDoor
open Go.RowKit Go.Maps Go.ChangeMaps
set_option linter.unusedVariables false
/-! drop, Remove. -/
section
variable {w : World} {B N f : Nat} {c : Cn} {T : Tr} {A : Pth → Nat} {M : Pth → Option Nat} {V : Pth → Value}
def DropP (w : World) (B N f : Nat) (c : Cn) (T : Tr) (A : Pth → Nat) (M : Pth → Option Nat) (V : Pth → Value) (d : Pth) (k : Bz) (e : Ending) (w' : World) : Prop :=
  e = .returned (.tuple #[]) ∧ TreeAt w' B N f 47 c.tl (cutT T (d ++ [k])) A M V ∧ Only (fun j => j = f ∨ M d = some j) w w'
theorem own_has {w : World} {b nn : Nat} {D : DataW Unit} (h : w.ownsMap Tryd.prog 9 ptrR b nn D) {k : Bz} (hk : Maps.has D (.string k) = true) : k.length ≤ maxLen := Go.strKeys_le h Tryd.underlying9 k (((keys_of h).2 k).2 hk)
theorem row_form {w : World} {B : Nat} {v : Value} {l : Bz} (h : w.ownsRow B 5 1 v l.length (u8s l)) : ∃ a c, v = .slice a l.length c := by
  rcases h.2 with ⟨rfl, e⟩ | ⟨g, cap, cur, rfl, _⟩
  · exact ⟨none, 0, by rw [e]⟩
  · exact ⟨_, _, rfl⟩
set_option maxRecDepth 100000 in
set_option maxHeartbeats 4000000 in
theorem drop_any {d : Pth} {k : Bz} {n dn r0 : Nd} (h : TreeAt w B N f 47 c.tl T A M V) (h0 : T [] = some r0) (hd : T d = some dn) (hn : T (d ++ [k]) = some n) (hc : c.Ok) (hl : (n.data.length : Int) ≤ 1000000000) (a4 : Option Addr) (l4 c4 : Nat) :
    Calls Tryd.prog 28 #[.pointer (some ⟨f, 0, none⟩), spotV (.pointer (some ⟨A d, 0, none⟩)) ⟨k.toArray⟩ (.pointer (some ⟨A (d ++ [k]), 0, none⟩)) (.slice a4 l4 c4)] w
      (DropP w B N f { c with count := c.count - 1, size := c.size - n.data.length } T A M V d k) := by
  obtain ⟨Q, hQ⟩ : ∃ Q, DropP w B N f { c with count := c.count - 1, size := c.size - n.data.length } T A M V d k = Q := ⟨_, rfl⟩
  rw [hQ]
  have HQ := Lib.hid hQ
  have hkk : (kidsOf T A d k).isSome = true := by rw [kidsOf_some, hn]; rfl
  have hkids := h.kids d dn hd
  obtain ⟨b, hMb⟩ : ∃ b, M d = some b := by
    cases hm : M d with
    | none => rw [hkids.no hm] at hkk; cases hkk
    | some b => exact ⟨b, rfl⟩
  obtain ⟨nn, D, hnn, hown, hg⟩ := hkids.yes b hMb
  have hkl := own_has hown (by rw [(hg k).2]; exact hkk)
  have hkey := Go.WideMaps.keyOf_string_mk Tryd.underlying9 (s := ⟨k.toArray⟩) (by simpa [ByteArray.size] using hkl)
  have hkd : (⟨k.toArray⟩ : ByteArray).data.toList = k := by simp
  rw [hkd] at hkey
  obtain ⟨w0, hw0⟩ : ∃ w0, w.alloc (.cells #[.pointer (some ⟨A d, 0, none⟩), .string ⟨k.toArray⟩, .pointer (some ⟨A (d ++ [k]), 0, none⟩), .slice a4 l4 c4] 50) = w0 := ⟨_, rfl⟩
  have hbel : Below w.heap.size w w0 := by rw [← hw0]; exact (Below.refl _ _).alloc (Nat.le_refl _) _
  have hT0 := h.only (X := fun _ => False) (Only.of_below hbel) (fun _ h => h.elim)
  have hown0 : w0.ownsMap Tryd.prog 9 ptrR b nn D := by rw [← hw0]; exact hown.alloc _
  have hbox : w0.heap[w.heap.size]? = some (.cells [.pointer (some ⟨A d, 0, none⟩), .string ⟨k.toArray⟩, .pointer (some ⟨A (d ++ [k]), 0, none⟩), .slice a4 l4 c4].toArray 50 (0, 0)) := by rw [← hw0]; exact heap_alloc_new w _
  have x0 := cell_of hbox 0
  have x1 := cell_of hbox 1
  have n3 : w0.cell? ⟨A d, 3, none⟩ = some (.map (some b)) := by rw [← hMb]; exact cell_of (hT0.blk d dn hd) 3
  have HW := Lib.hid hw0
  have HT0 := Lib.hid hT0
  have HBEL := Lib.hid hbel
  have HBOX := Lib.hid hbox
  have H0 : Hid (cutT T (d ++ [k]) [] = some r0) := by
    show cutT T (d ++ [k]) [] = some r0
    unfold cutT
    rw [graftF_out _ _ _ (by simp)]
    exact h0
  have HD := Lib.hid hd
  have HN := Lib.hid hn
  have HG := Lib.hid hg
  have HMB := Lib.hid hMb
  have HC := Lib.hid hc
  have hnf : A (d ++ [k]) ≠ f := fun e => by
    have := h.injA (d ++ [k]) [] (by rw [hn]; rfl) (by rw [h0]; rfl) (e.trans h.a0.symm)
    simp at this
  have hwc : IntKind.i64.wrap (c.count - 1) = c.count - 1 := IntWalk.i64_in _ (by have := hc.count; omega)
  have hws : IntKind.i64.wrap (c.size - (n.data.length : Int)) = c.size - (n.data.length : Int) := IntWalk.i64_in _ (by have := hc.size; omega)
  obtain ⟨na, hna⟩ : ∃ na, A (d ++ [k]) = na := ⟨_, rfl⟩
  rw [hna] at hnf hbox x0 x1 HBOX HW ⊢
  have HNA := Lib.hid hna
  obtain ⟨da, hda⟩ : ∃ da, A d = da := ⟨_, rfl⟩
  rw [hda] at hbox x0 n3 HBOX HW ⊢
  have hlt0 : w.heap.size < w0.heap.size := blk_lt hbox
  have HLT : Hid (∀ j, (j = f ∨ M d = some j) → j < w.heap.size) := fun j e => by
    rcases e with e | e
    · rw [e]; exact h.lt ⟨[], r0, h0, .inl h.a0⟩
    · exact h.lt ⟨d, dn, hd, .inr (.inl e)⟩
  obtain ⟨va, vc, hvf⟩ := row_form (h.data _ n hn)
  have HVF := Lib.hid hvf
  clear h h0 hd hn hQ hkk hkids hMb hg hkl hown hw0 hT0 hbel hc hbox hkd hna hda hvf
  simp only [spotV]
  go_enter Tryd.func28, Tryd.ntmps28
  go_wp2_with fail
  rw [HW.out]
  go_still_tail 7, (by kernel_rfl)
  change wpList _ _ _ _ _ w0.drew
  obtain ⟨w1, hw1⟩ : ∃ w1, w0.drew = w1 := ⟨_, rfl⟩
  have hb01 : Below w0.heap.size w0 w1 := by rw [← hw1]; exact (Below.refl _ _).drew
  have hown1 : w1.ownsMap Tryd.prog 9 ptrR b nn D := by rw [← hw1]; exact hown0.drew
  have hT1 := HT0.out.only (w' := w1) (X := fun _ => False) (Only.of_below hb01) (fun _ h => h.elim)
  rw [hw1]
  have HB01 := Lib.hid hb01
  have HT1 := Lib.hid hT1
  clear hw1 hb01 hT1 x0 x1 n3 hown0
  have HDEL : Hid (∀ w2 : World, w2.ownsMap Tryd.prog 9 ptrR b nn (D.del (.string k)) → w1.grownBy w2 (some b) → TreeAt w2 B N f 47 c.tl (cutT T (d ++ [k])) A M V ∧ Only (fun j => M d = some j) w1 w2) := fun w2 h2 g2 => by
    have ho : Only (fun j => M d = some j) w1 w2 := Only.of_grown g2 (fun j e => by rw [HMB.out, e])
    exact ⟨HT1.out.prune (by decide) HD.out ho (fun j e => e) (by rw [HMB.out]; exact Kids.of_del h2 hnn HG.out (fun x => rfl)), ho⟩
  go_wp2_with (at_delete; refine wpList_delete_own _ rfl _ _ 43 9 rfl 48 keyedS Tryd.underlying43 _ b nn D rfl hown1 (.string ⟨k.toArray⟩) (.string k) rfl hkey ?_; intro w2 h2 g2; have HT2 := Lib.hid (HDEL.out w2 h2 g2.grown); have q6 : w2.cell? ⟨f, 6, none⟩ = some (.int .i64 c.count) := cell_of (HT2.out.1.rootBlk H0.out) 6; have f6 := free_of (HT2.out.1.rootBlk H0.out) 6; clear h2 g2)
  have hc3 := counted HT2.out.1 H0.out (c.count - 1)
  obtain ⟨w3, hw3⟩ : ∃ w3, w2.setCell ⟨f, 6, none⟩ (.int .i64 (c.count - 1)) = w3 := ⟨_, rfl⟩
  rw [hw3] at hc3
  have HC3 := Lib.hid hc3
  have hof : Only (fun j => M d = some j ∨ j = f) w1 w3 := HT2.out.2.trans hc3.2 (fun j e => .inl e) (fun j _ e => .inr e)
  have hbx3 : w3.heap[w.heap.size]? = some (.cells [.pointer (some ⟨da, 0, none⟩), .string ⟨k.toArray⟩, .pointer (some ⟨na, 0, none⟩), .slice a4 l4 c4].toArray 50 (0, 0)) := by
    rw [hof.block _ (Nat.lt_of_lt_of_le hlt0 HB01.out.size) (fun e => by
      rcases e with e | e
      · exact absurd (HLT.out _ (.inr e)) (by omega)
      · exact absurd (HLT.out f (.inl rfl)) (by omega)), HB01.out.block _ hlt0]
    exact HBOX.out
  have hnd3 : w3.heap[na]? = some (.cells (ndC n (V (d ++ [k])) (M (d ++ [k])) ++ []).toArray 45 (0, 0)) := by
    have h1 := HT1.out.blk (d ++ [k]) n HN.out
    rw [HNA.out] at h1
    rw [hof.block na (blk_lt h1) (fun e => by
      rcases e with e | e
      · exact absurd HNA.out (HT1.out.neAM (by rw [HN.out]; rfl) (by rw [HD.out]; rfl) e)
      · exact hnf e)]
    have e2 : tlOf c.tl (d ++ [k]) = [] := by cases d <;> rfl
    have e3 : tyOf 47 (d ++ [k]) = 45 := by cases d <;> rfl
    rw [e2, e3] at h1
    exact h1
  rw [HVF.out] at hnd3
  have y2 : w3.cell? ⟨w.heap.size, 2, none⟩ = some (.pointer (some ⟨na, 0, none⟩)) := cell_of hbx3 2
  have y1 : w3.cell? ⟨na, 1, none⟩ = some (.slice va n.data.length vc) := cell_of hnd3 1
  have y7 : w3.cell? ⟨f, 7, none⟩ = some (.int .i64 c.size) := cell_of (hc3.1.rootBlk H0.out) 7
  have f7 := free_of (hc3.1.rootBlk H0.out) 7
  rw [hw3]
  clear hof hbx3 hnd3 hc3 q6 f6
  go_still_tail 13, (by kernel_rfl)
  change wpList _ _ _ _ _ w3.drew
  go_wp2_with fail
  go_end0
  rw [← HQ.out]
  obtain ⟨s1, s2⟩ := sized HC3.out.1 H0.out (c.size - (n.data.length : Int))
  have hd : ∀ x : World, Below x.heap.size x x.drew := fun x => (Below.refl _ x).drew
  have hO : Only (fun j => j = f ∨ M d = some j) w w3.drew := by
    have hS : Only (fun j => j = f ∨ M d = some j) w1 w3 := HT2.out.2.trans HC3.out.2 (fun j e => .inr e) (fun j _ e => .inl e)
    exact ((Only.of_below HBEL.out).trans ((Only.of_below HB01.out).trans (hS.trans (Only.of_below (hd w3)) (fun _ h => h) (fun _ _ h => h)) (fun _ h => h) (fun _ _ h => h)) (fun _ h => h) (fun _ _ h => h))
  refine ⟨rfl, s1.only (X := fun _ => False) (Only.of_below (hd _)) (fun _ h => h.elim), ?_⟩
  exact hO.set (.inl (.inl rfl)) 7 _
/-- What a call of Remove comes to. -/
theorem len0 {w : World} {b nn : Nat} {D : DataW Unit} (h : w.ownsMap Tryd.prog 9 ptrR b nn D) (hk : ∀ k : Bz, Maps.has D (.string k) = false) : Maps.size D = 0 := by
  rw [← keys_len h]
  cases hs : strKeys D with
  | nil => rfl
  | cons x r =>
    have := ((keys_of h).2 x).1 (by rw [hs]; simp)
    rw [hk] at this
    cases this
theorem len_pos {w : World} {b nn : Nat} {D : DataW Unit} (h : w.ownsMap Tryd.prog 9 ptrR b nn D) {k : Bz} (hk : Maps.has D (.string k) = true) : 0 < Maps.size D := by
  rw [← keys_len h]
  exact List.length_pos_of_mem (((keys_of h).2 k).2 hk)
end
end Go.Proofs.YtcmjpkfinbakkaaDoor

namespace Go.Proofs.YtcmjpkfinbakkaaDoor
open Go.RowKit Go.Maps Go.ChangeMaps
set_option linter.unusedVariables false
/-! Remove. -/
section
variable {w : World} {B N f : Nat} {c : Cn} {T : Tr} {F : Nat → Prop} {p : ByteArray}
theorem foot_cut {A : Pth → Nat} {M : Pth → Option Nat} {V : Pth → Value} {q : Pth} {j : Nat} (h : foot (cutT T q) A M V j) : foot T A M V j := by
  obtain ⟨r, n, hr, e⟩ := h
  unfold cutT at hr
  rcases pre_cases q r with ⟨s, rfl⟩ | hn
  · rw [graftF_in] at hr; cases hr
  · rw [graftF_out _ _ _ hn] at hr
    exact ⟨r, n, hr, e⟩
set_option maxRecDepth 100000 in
set_option maxHeartbeats 4000000 in
theorem Remove_err (hF : Fs w B N f c T F) (hp : PathOk p) (hE : presE T p ≠ 0) : Calls Tryd.prog 13 #[.pointer (some ⟨f, 0, none⟩), .string p] w (MutP w B N f F (presE T p) T c) := by
  obtain ⟨A, M, V, hT, hft, r0, h0, hr0⟩ := hF
  have HF : Hid (Fs w B N f c T F) := ⟨A, M, V, hT, hft, r0, h0, hr0⟩
  have HB := Lib.hid (present_err hT h0 hr0 hp hE)
  obtain ⟨er, her⟩ : ∃ er, presE T p = er := ⟨_, rfl⟩
  rw [her] at HB hE ⊢
  obtain ⟨Q, hQ⟩ : ∃ Q, MutP w B N f F er T c = Q := ⟨_, rfl⟩
  rw [hQ]
  have HQ := Lib.hid hQ
  have hne : (er != 0) = true := by simpa using hE
  clear hT hft h0 hr0 hQ hp hE her
  go_enter Tryd.func13, Tryd.ntmps13
  go_wp2_with (go_at_call 24; refine HB.out.mono ?_; rintro e w1 ⟨⟨a, b, c, d, l, rfl⟩, h1⟩; have H1 := Lib.hid h1; clear h1; simp only [])
  rw [← HQ.out]
  exact MutP.same HF.out (H1.out.alloc H1.out.size _)
set_option maxRecDepth 100000 in
set_option maxHeartbeats 4000000 in
theorem Remove_root (hF : Fs w B N f c T F) (hp : PathOk p) (hE : findE T p = 0) (hL : findL p = []) : Calls Tryd.prog 13 #[.pointer (some ⟨f, 0, none⟩), .string p] w (MutP w B N f F 1 T c) := by
  obtain ⟨A, M, V, hT, hft, r0, h0, hr0⟩ := hF
  have HF : Hid (Fs w B N f c T F) := ⟨A, M, V, hT, hft, r0, h0, hr0⟩
  have HB := Lib.hid (present_root (w := w) hT h0 hr0 hp hE hL)
  obtain ⟨Q, hQ⟩ : ∃ Q, MutP w B N f F 1 T c = Q := ⟨_, rfl⟩
  rw [hQ]
  have HQ := Lib.hid hQ
  clear hT hft h0 hr0 hQ hp hE
  go_enter Tryd.func13, Tryd.ntmps13
  go_wp2_with (go_at_call 24; refine HB.out.mono ?_; rintro e w1 ⟨rfl, h1⟩; have H1 := Lib.hid h1; clear h1; simp only [spotV])
  rw [← HQ.out]
  exact MutP.same HF.out (H1.out.alloc H1.out.size _)
set_option maxRecDepth 100000 in
set_option maxHeartbeats 4000000 in
theorem Remove_used (hF : Fs w B N f c T F) (hp : PathOk p) (hE : findE T p = 0) (hL : findL p ≠ []) (hn : (T (findL p)).isSome = true) {x : Bz} (hx : (T (findL p ++ [x])).isSome = true) : Calls Tryd.prog 13 #[.pointer (some ⟨f, 0, none⟩), .string p] w (MutP w B N f F 14 T c) := by
  obtain ⟨A, M, V, hT, hft, r0, h0, hr0⟩ := hF
  have HF : Hid (Fs w B N f c T F) := ⟨A, M, V, hT, hft, r0, h0, hr0⟩
  obtain ⟨n, hn⟩ := Option.isSome_iff_exists.1 hn
  rcases List.eq_nil_or_concat (findL p) with hL2 | ⟨d, k, hL2⟩
  · exact absurd hL2 hL
  have hL2 : findL p = d ++ [k] := by rw [hL2]; simp
  rw [hL2] at hn hx
  have HB := Lib.hid (present_good (w := w) hT h0 hr0 hp hE hL2 hn)
  obtain ⟨Q, hQ⟩ : ∃ Q, MutP w B N f F 14 T c = Q := ⟨_, rfl⟩
  rw [hQ]
  have HQ := Lib.hid hQ
  have hkids := hT.kids _ n hn
  have hkk : (kidsOf T A (d ++ [k]) x).isSome = true := by rw [kidsOf_some]; exact hx
  obtain ⟨b, hMb⟩ : ∃ b, M (d ++ [k]) = some b := by
    cases hm : M (d ++ [k]) with
    | none => rw [hkids.no hm] at hkk; cases hkk
    | some b => exact ⟨b, rfl⟩
  obtain ⟨nn, D, hnn, hown, hg⟩ := hkids.yes b hMb
  have hsz : (0 : Int) < (Maps.size D : Int) := by have := len_pos hown (by rw [(hg x).2]; exact hkk); omega
  have HT := Lib.hid hT
  have HN := Lib.hid hn
  have HMB := Lib.hid hMb
  have HOWN := Lib.hid hown
  obtain ⟨na, hna⟩ : ∃ na, A (d ++ [k]) = na := ⟨_, rfl⟩
  rw [hna] at HB
  have HNA := Lib.hid hna
  have HAFT : Hid (∀ w1 : World, Below w.heap.size w w1 → w1.cell? ⟨na, 3, none⟩ = some (.map (some b)) ∧ w1.ownsMap Tryd.prog 9 ptrR b nn D) := fun w1 h1 => by
    have h2 := (HT.out.only (X := fun _ => False) (Only.of_below h1) (fun _ h => h.elim)).blk _ n HN.out
    rw [HNA.out] at h2
    exact ⟨by rw [← HMB.out]; exact cell_of h2 3, HOWN.out.kept (gb_below h1) (by simp)⟩
  clear hT hft h0 hr0 hQ hp hE hL hL2 hn hx hkids hkk hMb hown hg hna
  go_enter Tryd.func13, Tryd.ntmps13
  go_wp2_with (first
    | (go_at_call 24; refine HB.out.mono ?_; rintro e w1 ⟨⟨g, l, cc, rfl⟩, h1⟩; have H1 := Lib.hid h1; obtain ⟨q3, hown2⟩ := HAFT.out _ (h1.alloc h1.size (.cells #[.pointer (some ⟨A d, 0, none⟩), .string ⟨k.toArray⟩, .pointer (some ⟨na, 0, none⟩), .slice g cc l] 50)); clear h1; simp only [spotV])
    | (at_len; refine wpList_len_own _ rfl _ 43 rfl 9 48 Tryd.underlying43 _ b nn D rfl hown2 ?_))
  rw [← HQ.out]
  exact MutP.same HF.out (H1.out.alloc H1.out.size _)
/-- Remove of what is there and has nothing below it. -/
theorem cleared {w : World} {B N f : Nat} {c : Cn} {T : Tr} {A : Pth → Nat} {M : Pth → Option Nat} {V : Pth → Value} {F : Nat → Prop} {d : Pth} {k : Bz} {r0 dn : Nd} {w1 w2 : World} (hT : TreeAt w B N f 47 c.tl T A M V) (hft : ∀ j, foot T A M V j → F j) (h0 : T [] = some r0) (hr0 : r0.file = false) (hd : T d = some dn) (c2 : Cn) (hb : Below w.heap.size w w1)
    (h2 : TreeAt w2 B N f 47 c2.tl (cutT T (d ++ [k])) A M V) (ho : Only (fun j => j = f ∨ M d = some j) w1 w2) (t : Int) :
    MutP w B N f F 0 (cutT T (d ++ [k])) { c2 with clock := t } (.returned (.int .i64 0)) (w2.setCell ⟨f, 8, none⟩ (.int .i64 t)) := by
  have e0 : cutT T (d ++ [k]) [] = some r0 := by
    unfold cutT
    rw [graftF_out _ _ _ (by simp)]
    exact h0
  obtain ⟨s1, s2⟩ := clocked h2 e0 t
  have hff : F f := hft f ⟨[], r0, h0, .inl hT.a0⟩
  refine ⟨rfl, ⟨A, M, V, s1.mono (Nat.le_succ N), fun j hj => .inl (hft j (foot_cut hj)), r0, e0, hr0⟩, ?_⟩
  have hX : Only F w1 w2 := ho.mono fun j e => by
    rcases e with e | e
    · rw [e]; exact hff
    · exact hft j ⟨d, dn, hd, .inr (.inl e)⟩
  exact ((Only.of_below (S := F) hb).trans hX (fun _ h => h) (fun _ _ h => h)).trans s2 (fun _ h => h) (fun j _ e => by rw [e]; exact hff)
set_option maxRecDepth 100000 in
set_option maxHeartbeats 8000000 in
theorem Remove_ok {n : Nd} (hF : Fs w B N f c T F) (hp : PathOk p) (hc : c.Ok) (hE : findE T p = 0) (hL : findL p ≠ []) (hn : T (findL p) = some n) (hno : ∀ x, T (findL p ++ [x]) = none) (hl : (n.data.length : Int) ≤ 1000000000) :
    Calls Tryd.prog 13 #[.pointer (some ⟨f, 0, none⟩), .string p] w (MutP w B N f F 0 (cutT T (findL p)) { c with count := c.count - 1, size := c.size - n.data.length, clock := c.clock + 1 }) := by
  obtain ⟨A, M, V, hT, hft, r0, h0, hr0⟩ := hF
  rcases List.eq_nil_or_concat (findL p) with hL2 | ⟨d, k, hL2⟩
  · exact absurd hL2 hL
  have hL2 : findL p = d ++ [k] := by rw [hL2]; simp
  rw [hL2] at hn hno ⊢
  have HB := Lib.hid (present_good (w := w) hT h0 hr0 hp hE hL2 hn)
  obtain ⟨dn, hd, _⟩ := hT.up d k (by rw [hn]; rfl)
  have HDR := Lib.hid (fun (w1 : World) (h1 : Below w.heap.size w w1) (a4 : Option Addr) (l4 c4 : Nat) => drop_any (hT.only (X := fun _ => False) (Only.of_below h1) (fun _ h => h.elim)) h0 hd hn hc hl a4 l4 c4)
  have HCL := Lib.hid (fun (w1 w2 : World) (hb : Below w.heap.size w w1) (h2 : DropP w1 B N f { c with count := c.count - 1, size := c.size - n.data.length } T A M V d k (.returned (.tuple #[])) w2) => cleared (k := k) hT hft h0 hr0 hd { c with count := c.count - 1, size := c.size - n.data.length } hb h2.2.1 h2.2.2 (c.clock + 1))
  obtain ⟨Q, hQ⟩ : ∃ Q, MutP w B N f F 0 (cutT T (d ++ [k])) { c with count := c.count - 1, size := c.size - n.data.length, clock := c.clock + 1 } = Q := ⟨_, rfl⟩
  rw [hQ]
  have HQ := Lib.hid hQ
  have hkids := hT.kids _ n hn
  have HT := Lib.hid hT
  have HN := Lib.hid hn
  have H0 : Hid (cutT T (d ++ [k]) [] = some r0) := by
    show cutT T (d ++ [k]) [] = some r0
    unfold cutT
    rw [graftF_out _ _ _ (by simp)]
    exact h0
  have hck : IntKind.i64.wrap (c.clock + 1) = c.clock + 1 := IntWalk.i64_in _ (by have := hc.clock; omega)
  have hkno : ∀ x, kidsOf T A (d ++ [k]) x = none := fun x => by unfold kidsOf; rw [hno]; rfl
  obtain ⟨na, hna⟩ : ∃ na, A (d ++ [k]) = na := ⟨_, rfl⟩
  rw [hna] at HB HDR
  simp only [spotV] at HDR
  have HNA := Lib.hid hna
  obtain ⟨C2, hC2⟩ : ∃ C2 : Cn, ({ c with count := c.count - 1, size := c.size - n.data.length } : Cn) = C2 := ⟨_, rfl⟩
  have hC8 : C2.clock = c.clock := by rw [← hC2]
  rw [hC2] at HDR HCL
  have HC2 := Lib.hid hC2
  have HQ8 : Hid (∀ w2 : World, TreeAt w2 B N f 47 C2.tl (cutT T (d ++ [k])) A M V → w2.cell? ⟨f, 8, none⟩ = some (.int .i64 c.clock) ∧ w2.frozen? ⟨f, 8, none⟩ = false) := fun w2 h3 => by
    rw [← hC8]
    exact ⟨cell_of (h3.rootBlk H0.out) 8, free_of (h3.rootBlk H0.out) 8⟩
  cases hm : M (d ++ [k]) with
  | none =>
    have hln : ∀ w : World, (Builtin.len_ #[43] 3 #[.map none]).run Tryd.prog w = .ok (.int .i64 0) w := fun w => Maps.len_nil Tryd.underlying43 3
    have HAFT : Hid (∀ w1 : World, Below w.heap.size w w1 → w1.cell? ⟨na, 3, none⟩ = some (.map none)) := fun w1 h1 => by
      have h2 := (HT.out.only (X := fun _ => False) (Only.of_below h1) (fun _ h => h.elim)).blk _ n HN.out
      rw [HNA.out, hm] at h2
      exact cell_of h2 3
    clear hT hft h0 hr0 hQ hp hE hL hL2 hn hno hkids hkno hd hc hl hna hm hC2
    go_enter Tryd.func13, Tryd.ntmps13
    go_wp2_with (first
      | (go_at_call 24; refine HB.out.mono ?_; rintro e w1 ⟨⟨g, l, cc, rfl⟩, h1⟩; have H1 := Lib.hid (h1.alloc h1.size (.cells #[.pointer (some ⟨A d, 0, none⟩), .string ⟨k.toArray⟩, .pointer (some ⟨na, 0, none⟩), .slice g cc l] 50)); have q3 := HAFT.out _ H1.out; clear h1; simp only [spotV])
      | (go_at_call 28; refine (HDR.out _ H1.out g cc l).mono ?_; rintro e w2 h2; obtain ⟨rfl, h3, h4⟩ := id h2; have H2 := Lib.hid h2; obtain ⟨q8, f8⟩ := HQ8.out w2 h3; clear h2 h3 h4))
    rw [← HQ.out]
    have := HCL.out _ _ H1.out H2.out
    rw [← HC2.out] at this
    exact this
  | some b =>
    obtain ⟨nn, D, hnn, hown, hg⟩ := hkids.yes b hm
    have hsz : Maps.size D = 0 := len0 hown (fun x => by rw [(hg x).2, hkno]; rfl)
    have HOWN := Lib.hid hown
    have HAFT : Hid (∀ w1 : World, Below w.heap.size w w1 → w1.cell? ⟨na, 3, none⟩ = some (.map (some b)) ∧ w1.ownsMap Tryd.prog 9 ptrR b nn D) := fun w1 h1 => by
      have h2 := (HT.out.only (X := fun _ => False) (Only.of_below h1) (fun _ h => h.elim)).blk _ n HN.out
      rw [HNA.out, hm] at h2
      exact ⟨cell_of h2 3, HOWN.out.kept (gb_below h1) (by simp)⟩
    clear hT hft h0 hr0 hQ hp hE hL hL2 hn hno hkids hkno hd hc hl hna hm hown hg hC2
    go_enter Tryd.func13, Tryd.ntmps13
    go_wp2_with (first
      | (go_at_call 24; refine HB.out.mono ?_; rintro e w1 ⟨⟨g, l, cc, rfl⟩, h1⟩; have H1 := Lib.hid (h1.alloc h1.size (.cells #[.pointer (some ⟨A d, 0, none⟩), .string ⟨k.toArray⟩, .pointer (some ⟨na, 0, none⟩), .slice g cc l] 50)); obtain ⟨q3, hown2⟩ := HAFT.out _ H1.out; clear h1; simp only [spotV])
      | (at_len; refine wpList_len_own _ rfl _ 43 rfl 9 48 Tryd.underlying43 _ b nn D rfl hown2 ?_; rw [hsz])
      | (go_at_call 28; refine (HDR.out _ H1.out g cc l).mono ?_; rintro e w2 h2; obtain ⟨rfl, h3, h4⟩ := id h2; have H2 := Lib.hid h2; obtain ⟨q8, f8⟩ := HQ8.out w2 h3; clear h2 h3 h4))
    rw [← HQ.out]
    have := HCL.out _ _ H1.out H2.out
    rw [← HC2.out] at this
    exact this
end
end Go.Proofs.YtcmjpkfinbakkaaDoor

namespace Go.Proofs.YtcmjpkfinbakkaaDoor
set_option maxRecDepth 100000
open Go.RowKit Go.Maps Go.ChangeMaps Go.Sort
set_option linter.unusedVariables false
theorem own_slice {w : World} {B e sz n : Nat} {v : Value} {xs : List Value} (h : w.ownsRow B e sz v n xs) : ∃ a c, v = .slice a n c ∧ n ≤ c := by
  rcases h.2 with ⟨h1, h0⟩ | ⟨b, cap, cur, rfl, h2, h3, h4, _⟩
  · exact ⟨none, 0, by rw [h0]; exact h1, by omega⟩
  · exact ⟨_, cap, rfl, h4⟩
theorem clone_own {w : World} {B : Nat} {v : Value} {bs : Bz} (h : w.ownsRow B 5 1 v bs.length (u8s bs)) (hl : bs.length ≤ 1000000) :
    Calls Tryd.prog 25 #[v] w fun e w' => ∃ v', e = .returned v' ∧ w'.ownsRow w.heap.size 5 1 v' bs.length (u8s bs) ∧ Below w.heap.size w w' := by
  rcases h.2 with ⟨rfl, h0⟩ | ⟨g, cap, cur, rfl, h2, h3, h4, _⟩
  · refine (Tryd.bytes_Clone_nil 0 0 w).mono ?_
    rintro e w' ⟨rfl, rfl⟩
    have hbs : bs = [] := List.eq_nil_of_length_eq_zero h0
    subst hbs
    exact ⟨_, rfl, World.ownsRow_nil _ _ _ _, Below.refl _ _⟩
  · have hm : (bs.map (fun c => (c.toNat : Int))).map (Value.int .u8) = u8s bs := by
      rw [List.map_map]; rfl
    refine (Tryd.bytes_Clone_at ⟨g, 0, none⟩ bs.length cap (bs.map (fun c => (c.toNat : Int))) w (by simp) (by omega) (fun i hi => ?_)).mono ?_
    · refine h.cells (g := g) rfl i _ ?_
      rw [← hm, List.getElem?_map, List.getElem?_eq_getElem (by simpa using hi)]
      simp [hi]
    · rintro e w' ⟨v', rfl, k1, _, k2⟩
      rw [hm] at k1
      exact ⟨v', rfl, k1, k2⟩
theorem row5_old {w w1 : World} {B n : Nat} {v : Value} {xs : List Value} (h : w.ownsRow B 5 1 v n xs) (hb : Below w.heap.size w w1) : w1.ownsRow B 5 1 v n xs :=
  row_only h (fun g _ hl => hb.block g hl)
/-- A copy of what lies at a place. -/
def CopyP (w : World) (N : Nat) (T : Tr) (p : Pth) (e : Ending) (w' : World) : Prop :=
  ∃ c A2 M2 V2, e = .returned (.pointer (some ⟨c, 0, none⟩)) ∧ TreeAt w' w.heap.size N c 45 [] (subT T p) A2 M2 V2 ∧ Below w.heap.size w w'
theorem key_inv {key : Value} {kl : Lit} (h : keyOf Tryd.prog 9 key = some kl) : ∃ s : ByteArray, key = .string s ∧ kl = .string s.data.toList ∧ s.size ≤ maxLen := by
  rw [keyOf_string Tryd.underlying9] at h
  cases key with
  | string s =>
    simp [mapKey] at h
    obtain ⟨h1, h2⟩ := h
    refine ⟨s, rfl, ?_, ?_⟩
    · simpa using h2.symm
    · simpa using h1
  | _ => simp [mapKey] at h
theorem left_has {w : World} {b r n cnt : Nat} {D : DataW Unit} {left : Lit → Bool} (h : w.ranges Tryd.prog 9 ptrR b r n D left cnt) {kl : Lit} (hk : left kl = true) : Maps.has D kl = true := by
  have hown := h.owns
  obtain ⟨es, hD, _, hkey⟩ := hown.entries keyedS
  obtain ⟨es', clock, since, seen, c0, hb, F, hs, hD', hr, hold, hc, hl1, hl2, _⟩ := h
  obtain ⟨x, hx, rfl⟩ := hl2 kl hk
  have hm : (WideElems.rg Tryd.prog 9 ptrR x) ∈ es := by
    rw [hD'] at hD
    injection hD with hD
    rw [← hD]
    exact mem_sorted.2 (List.mem_map.2 ⟨x, hx, rfl⟩)
  rw [hD]
  exact List.any_eq_true.2 ⟨_, hm, WideAt.sameKey_self (hkey _ hm)⟩
end Go.Proofs.YtcmjpkfinbakkaaDoor
