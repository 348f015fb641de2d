import Derived.Test.YthbemfpoanmjcaaDoorI
import Derived.StillTailTactics
namespace Go.Proofs.YthbemfpoanmjcaaDoor
open Go.RowKit
set_option linter.unusedVariables false

def dat (l : List ByteArray) : List Bs := l.map (·.data.toList)
/-- What a call of the expander's answers and leaves. -/
def EP (B eb : Nat) (w : World) (lv av : Value) (l au : Prs) (op : List ByteArray) (r : R) (e : Ending) (w' : World) : Prop :=
  ∃ t : ByteArray, e = .returned (.tuple #[.string t, .int .i64 r.1.2]) ∧ t.data.toList = r.1.1 ∧ Ex B eb w' lv av l au r.2 op ∧ Kp B eb w w'
/-- expand, d references deep at the most. -/
def EH (B eb : Nat) (lv av : Value) (l au : Prs) (d : Nat) : Prop :=
  ∀ (w : World) (cnt ne : Nat) (op : List ByteArray) (s : ByteArray), Ex B eb w lv av l au cnt op → cnt ≤ 10000 → ne + d = 40 → op.length + d ≤ 40 →
    Calls Tryd.prog 23 #[.pointer (some ⟨eb, 0, none⟩), .string s, .int .i64 ne] w (EP B eb w lv av l au op (expandF (bsl l) (bsl au) d (dat op) s.data.toList cnt))
theorem EP.mk {B eb : Nat} {w w' : World} {lv av : Value} {l au : Prs} {op : List ByteArray} {r : R} {t : ByteArray} {x : Int} {c : Nat} (hr : r = ((t.data.toList, x), c)) (hE : Ex B eb w' lv av l au c op) (hk : Kp B eb w w') : EP B eb w lv av l au op r (.returned (.tuple #[.string t, .int .i64 x])) w' := by
  subst hr
  exact ⟨t, rfl, rfl, hE, hk⟩
theorem val_auto {l au : List Pr} {ex : List Bs → Bs → Nat → R} {op : List Bs} {nm v : Bs} {c : Nat} (h : lastV au nm = some v) : valueF l au ex op nm c = ((v, 0), c) := by unfold valueF; rw [h]
theorem val_none {l au : List Pr} {ex : List Bs → Bs → Nat → R} {op : List Bs} {nm : Bs} {c : Nat} (h : lastV au nm = none) (h2 : lastV l nm = none) : valueF l au ex op nm c = (([], 0), c) := by unfold valueF; rw [h, h2]
theorem val_ring {l au : List Pr} {ex : List Bs → Bs → Nat → R} {op : List Bs} {nm v : Bs} {c : Nat} (h : lastV au nm = none) (h2 : lastV l nm = some v) (h3 : nm ∈ op) : valueF l au ex op nm c = (([], 18), c) := by unfold valueF; rw [h, h2]; exact if_pos h3
theorem val_in {l au : List Pr} {ex : List Bs → Bs → Nat → R} {op : List Bs} {nm v : Bs} {c : Nat} (h : lastV au nm = none) (h2 : lastV l nm = some v) (h3 : nm ∉ op) : valueF l au ex op nm c = ex (op ++ [nm]) v c := by unfold valueF; rw [h, h2]; exact if_neg h3
set_option maxRecDepth 100000 in
set_option maxHeartbeats 8000000 in
theorem value_any (B eb : Nat) (lv av : Value) (l au : Prs) (d ne : Nat) (hne : ne + d = 40) (IH : EH B eb lv av l au d) (w : World) (cnt : Nat) (op : List ByteArray) (nm : ByteArray) (hE : Ex B eb w lv av l au cnt op) (hc : cnt ≤ 10000) (hop : op.length + 1 + d ≤ 40) :
    Calls Tryd.prog 40 #[.pointer (some ⟨eb, 0, none⟩), .string nm, .int .i64 ne] w (EP B eb w lv av l au op (valueF (bsl l) (bsl au) (expandF (bsl l) (bsl au) d) (dat op) nm.data.toList cnt)) := by
  obtain ⟨G, hG⟩ : ∃ G, valueF (bsl l) (bsl au) (expandF (bsl l) (bsl au) d) (dat op) nm.data.toList cnt = G := ⟨_, rfl⟩
  rw [hG]
  have HG := Lib.hid hG
  obtain ⟨vo, c0, c1, c2, c3, f2, f3, hown, ao, co, hvo⟩ := hE.cells
  subst hvo
  have HEX := Lib.hid hE
  have HOWN := Lib.hid hown
  have HLA := Lib.hid (last_any B w av au nm hE.pa)
  have HLL := Lib.hid (last_any B w lv l nm hE.pl)
  have HIH := Lib.hid IH
  clear hG hE hown IH
  go_enter Tryd.func40, Tryd.ntmps40
  go_wp2_with (go_at_call 50; refine HLA.out.mono ?_)
  rintro e w5 ⟨h5, hres⟩
  obtain rfl := h5.symm
  clear h5 HLA
  rcases hres with ⟨hn, rfl⟩ | ⟨v, b, o, hs, ⟨p, hp, hpv⟩, rfl, hb, hcv⟩
  case inr =>
    have HEND : Hid (EP B eb w lv av l au op G (.returned (.tuple #[.string v, .int .i64 0])) w) := EP.mk (by rw [← HG.out]; exact val_auto hs) HEX.out (Kp.refl _ _ _)
    clear hs hp hpv HLL
    simp only []
    go_wp2_with fail
    go_ret2
    exact HEND.out
  case inl =>
  have HN := Lib.hid hn
  clear hn
  simp only []
  go_wp2_with (go_at_call 50; refine HLL.out.mono ?_)
  rintro e w5 ⟨h5, hres⟩
  obtain rfl := h5.symm
  clear h5 HLL
  rcases hres with ⟨hn, rfl⟩ | ⟨v, b, o, hs, ⟨p, hp, hpv⟩, rfl, hb, hcv⟩
  case inl =>
    have HEND : Hid (EP B eb w lv av l au op G (.returned (.tuple #[.string ⟨#[]⟩, .int .i64 0])) w) := EP.mk (t := ⟨#[]⟩) (by rw [← HG.out]; exact val_none HN.out hn) HEX.out (Kp.refl _ _ _)
    clear hn
    simp only []
    go_wp2_with fail
    go_ret2
    exact HEND.out
  case inr =>
  have HS := Lib.hid hs
  clear hs hp hpv
  simp only []
  go_wp2_with fail
  go_loopw [39] (fun i wx => ∃ k : Nat, k ≤ op.length ∧ i = .int .i64 k ∧ wx = w ∧ Hid (∀ x ∈ (dat op).take k, x ≠ nm.data.toList)) (fun i _ => op.length - (intOf i).toNat)
  case atStart => exact ⟨0, Nat.zero_le _, rfl, rfl, fun x hx => by cases hx⟩
  case round =>
    obtain ⟨k, hk, rfl, rfl, HK⟩ := hrel
    by_cases hlt : k < op.length
    case pos =>
      have hltd : decide ((k : Int) < (op.length : Int)) = true := decide_eq_true (by omega)
      have hltI : (k : Int) < (op.length : Int) := by omega
      have hk0 : (0 : Int) ≤ (k : Int) := by omega
      have hb64 : IntKind.i64.wrap ((k : Int) + 1) = (k : Int) + 1 := IntWalk.i64_in _ (by omega)
      obtain ⟨g, rfl⟩ : ∃ g, ao = some ⟨g, 0, none⟩ := by
        rcases HOWN.out.2 with ⟨_, h0⟩ | ⟨g, cap, cur, h1, _⟩
        · omega
        · injection h1 with e1 _ _
          exact ⟨g, e1⟩
      obtain ⟨x, hx⟩ : ∃ x, op[k] = x := ⟨_, rfl⟩
      have hcx : wr.cell? ⟨g, k, none⟩ = some (.string x) := by
        have := HOWN.out.cellAt k (by omega)
        rw [this, List.getElem?_map, List.getElem?_eq_getElem hlt, hx]; rfl
      have hadd : (⟨g, 0, none⟩ : Addr).add k = ⟨g, k, none⟩ := by rw [addn, Nat.zero_add]
      have hse := str_eq x nm
      have hdk : (dat op)[k]? = some x.data.toList := by unfold dat; rw [List.getElem?_map, List.getElem?_eq_getElem hlt, hx]; rfl
      by_cases he : x.data.toList = nm.data.toList
      · have g1 : (x.toList == nm.toList) = true := by rw [hse, he]; simp
        have HEND : Hid (EP B eb wr lv av l au op G (.returned (.tuple #[.string ⟨#[]⟩, .int .i64 18])) wr) := EP.mk (t := ⟨#[]⟩) (by rw [← HG.out]; exact val_ring HN.out HS.out (by rw [← he]; exact List.mem_of_getElem? hdk)) HEX.out (Kp.refl _ _ _)
        clear hse he hdk hx
        go_wp2_with fail
        go_ret2
        exact HEND.out
      · have g1 : (x.toList == nm.toList) = false := by rw [hse]; simpa using he
        have HN2 : Hid (∀ x ∈ (dat op).take (k + 1), x ≠ nm.data.toList) := fun y hy => by
          rw [List.take_add_one, hdk] at hy
          rcases List.mem_append.1 hy with hy | hy
          · exact HK.out y hy
          · simp at hy; rw [hy]; exact he
        clear hse he hdk hx
        go_wp2_with fail
        go_roundw
        case measure => simp [intOf]; omega
        case rel => exact ⟨k + 1, by omega, by go_num, by simp, HN2.out⟩
    case neg =>
    have HKK : Hid (k = op.length) := (show k = op.length by omega)
    have hltd : decide ((k : Int) < (op.length : Int)) = false := decide_eq_false (by omega)
    have HGX : Hid (expandF (bsl l) (bsl au) d (dat (op ++ [nm])) v.data.toList cnt = G) := by
      rw [Hid, ← HG.out, val_in HN.out HS.out (fun hm => HK.out _ (by rw [HKK.out, List.take_of_length_le (by simp [dat])]; exact hm) rfl)]
      unfold dat; simp
    obtain ⟨g, c, w', hr, ⟨vx, hvx⟩, hfz, hE2, hK2⟩ := HEX.out.push nm (by omega) HOWN.out
    have HE2 := Lib.hid hE2
    have HK2 := Lib.hid hK2
    have hcv2 := (hK2.bl.cell (p := ⟨b, o + 1, none⟩) hb).trans hcv
    clear hE2 hK2 HKK HK
    go_wp2_with (at_builtin; refine wpList_run_append _ rfl _ _ 38 38 rfl _ _ rfl rfl hr ?_)
    refine (HIH.out _ cnt ne (op ++ [nm]) v HE2.out hc hne (by simp; omega)).mono ?_
    rw [HGX.out]
    rintro e w6 ⟨t, rfl, ht, hE6, hK6⟩
    have HT := Lib.hid ht
    have HK6 := Lib.hid (HK2.out.trans hK6)
    obtain ⟨vo6, e0, e1, e2, e3, g2, g3, hown6, a6, c6, hvo6⟩ := hE6.cells
    rw [List.length_append, List.length_singleton] at hvo6
    subst hvo6
    obtain ⟨h6, rfl⟩ : ∃ h6, a6 = some ⟨h6, 0, none⟩ := by
      rcases hown6.2 with ⟨h1, _⟩ | ⟨g, cap, cur, h1, _⟩
      · injection h1 with _ h2 _; omega
      · injection h1 with e1 _ _
        exact ⟨g, e1⟩
    have hcap : op.length + 1 ≤ c6 := by
      rcases hown6.2 with ⟨h1, _⟩ | ⟨g, cap, cur, h1, _, _, h2, _⟩
      · cases h1
      · injection h1 with _ _ h3
        rw [List.length_append, List.length_singleton] at h2
        omega
    rw [List.length_append, List.length_singleton] at hown6
    have hsh := own_shorter hown6
    have HE7 : Hid (∀ n, Ex B eb ((w6.drewN n).setCell ⟨eb, 3, none⟩ (.slice (some ⟨h6, 0, none⟩) op.length c6)) lv av l au G.2 op) := fun n => (hE6.below (drew_below w6 n)).opens hsh
    have HK7 : Hid (∀ n, Kp B eb wr ((w6.drewN n).setCell ⟨eb, 3, none⟩ (.slice (some ⟨h6, 0, none⟩) op.length c6))) := fun n => HK6.out.trans ((Kp.of_below (drew_below w6 n) (Nat.le_trans hE6.le (Nat.le_of_lt hE6.lt))).trans (put_kp hE6.le 3 _))
    have hb1 : IntKind.i64.wrap ((op.length : Int) + 1 - 1) = (op.length : Int) := by rw [IntWalk.i64_in _ (by omega)]; omega
    have hb2 : IntKind.i64.wrap (((op.length + 1 : Nat) : Int) - 1) = (op.length : Int) := by rw [IntWalk.i64_in _ (by omega)]; omega
    have hb3 : IntKind.i64.wrap (op.length : Int) = (op.length : Int) := IntWalk.i64_in _ (by omega)
    have hcI : (op.length : Int) ≤ (c6 : Int) := by omega
    have hl0 : (0 : Int) ≤ (op.length : Int) := by omega
    clear hown6 hsh ht hE6 hK6 e0 e1 e2 g2 c0 c1 c2 c3 f2 f3
    simp only []
    go_wp2_with fail
    go_still_tail 14, (by kernel_rfl)
    change wpList _ _ _ _ _ w6.drew
    have e3d : w6.drew.cell? ⟨eb, 3, none⟩ = some (.slice (some ⟨h6, 0, none⟩) (op.length + 1) c6) := e3
    have g3d : w6.drew.frozen? ⟨eb, 3, none⟩ = false := g3
    have HE8 : Hid (Ex B eb (w6.drew.setCell ⟨eb, 3, none⟩ (.slice (some ⟨h6, 0, none⟩) op.length c6)) lv av l au G.2 op) := HE7.out 1
    have HK8 : Hid (Kp B eb wr (w6.drew.setCell ⟨eb, 3, none⟩ (.slice (some ⟨h6, 0, none⟩) op.length c6))) := HK7.out 1
    clear e3 g3 HE7 HK7 HK6
    generalize w6.drew = w7 at e3d g3d HE8 HK8 ⊢
    go_wp2_with fail
    go_ret2
    exact ⟨t, rfl, HT.out, HE8.out, HK8.out⟩
end Go.Proofs.YthbemfpoanmjcaaDoor
