import Derived.Test.YtjagnihkpgbjeaaDoorJA
import Derived.Test.YtjagnihkpgbjeaaDoorHK
namespace Go.Proofs.YtjagnihkpgbjeaaDoor
open Go.RowKit Go.Maps Go.ChangeMaps
set_option linter.unusedVariables false
/-! The pieces of a pattern rule: the kind of a need, the stem of a target, a need filled. -/
def Hm (w : World) : Prop := ∃ m, w.cell? ⟨0, 0, none⟩ = some (.int .i64 m)
theorem Hm.below {w w' : World} (h : Hm w) (hb : Below w.heap.size w w') : Hm w' := by
  obtain ⟨m, hm⟩ := h
  have hlt := World.block_lt_of_cell? w _ hm
  exact ⟨m, by rw [hb.cell (p := ⟨0, 0, none⟩) hlt]; exact hm⟩
section
variable {w : World} {B N f : Nat} {c : Cn} {T : Tr} {F : Nat → Prop} {s : Bz}
set_option maxRecDepth 100000 in
set_option maxHeartbeats 4000000 in
theorem kindG_any (hF : Fs w B N f c T F) (hs : Nm s) (k : Int) (hk : kdF T s = k) (sb : Nat) (hlt : sb < w.heap.size) (q2 : w.cell? ⟨sb, 2, none⟩ = some (.pointer (some ⟨f, 0, none⟩))) (q3 : w.cell? ⟨sb, 3, none⟩ = some (.string ⟨#[47]⟩)) :
    Calls Tryd.prog 107 #[.pointer (some ⟨sb, 0, none⟩), .string (nameB s)] w fun e w' => e = .returned (.int .i64 k) ∧ Below w.heap.size w w' := by
  have HA := Lib.hid (AbsN_any s hs w)
  have HK := Lib.hid (fun (w' : World) (hb : Below w.heap.size w w') => Kind_any (hF.below hb) hs k hk)
  obtain ⟨nb, hnb⟩ : ∃ nb, nameB s = nb := ⟨_, rfl⟩
  obtain ⟨pb, hpb⟩ : ∃ pb, pathB s = pb := ⟨_, rfl⟩
  rw [hnb] at HA ⊢
  rw [hpb] at HA HK
  clear hF hs hk hnb hpb
  go_enter Tryd.func107, Tryd.ntmps107
  go_wp2_with (first
    | (go_at_call 64; refine HA.out.mono ?_; rintro e w1 ⟨rfl, h1⟩; have H1 := Lib.hid h1; have p2 := (h1.cell (p := ⟨sb, 2, none⟩) hlt).trans q2; clear h1; simp only [])
    | (go_at_call 88; refine (HK.out _ H1.out).mono ?_; rintro e w2 ⟨rfl, h2⟩; have H2 := Lib.hid h2; clear h2; simp only []))
  go_ret
  exact ⟨rfl, below_trans H1.out H2.out⟩
end
theorem extract_nm (a b : Bs) : (nameB (a ++ b)).extract 0 a.length = nameB a := by
  refine ByteArray.ext (Array.toList_inj.1 ?_)
  rw [ByteArray.data_extract, Array.toList_extract, nameB_list, nameB_list]
  simp [List.extract]
theorem extract_nm2 (a b : Bs) : (nameB (a ++ b)).extract a.length (a ++ b).length = nameB b := by
  refine ByteArray.ext (Array.toList_inj.1 ?_)
  rw [ByteArray.data_extract, Array.toList_extract, nameB_list, nameB_list]
  simp [List.extract]
theorem match_pt (w : World) (hm : Hm w) (st back : Bs) (hs : st ≠ []) (hl : st.length + back.length ≤ 10000) :
    Calls Tryd.prog 105 #[.string (nameB (37 :: back)), .string (nameB (st ++ back))] w fun e w' => e = .returned (.tuple #[.string (nameB st), .bool true]) ∧ Below w.heap.size w w' := by
  obtain ⟨m, hm⟩ := hm
  have h0 : 0 < st.length := List.length_pos_iff.2 hs
  have hsz : (nameB (st ++ back)).size = st.length + back.length := by rw [nameB_size, List.length_append]
  have hG : (nameB back).size = back.length := nameB_size back
  have hF : (nameB []).size = 0 := nameB_size []
  have hok : Stem.stemOk (nameB []) (nameB back) (nameB (st ++ back)) = true := by
    unfold Stem.stemOk Stem.hp Stem.ends
    rw [hsz, hG, hF]
    have e1 : (nameB (st ++ back)).extract (st.length + back.length - back.length) (st.length + back.length) = nameB back := by
      have := extract_nm2 st back
      rw [List.length_append] at this
      rw [Nat.add_sub_cancel]; exact this
    have e2 : (nameB (st ++ back)).extract 0 0 = nameB [] := extract_nm [] (st ++ back)
    rw [e1, e2]
    simp [h0]
  have := Stem.Match_at (nameB (37 :: back)) (nameB (st ++ back)) (nameB []) (nameB back) [] back w m hm (by rw [nameB_size]; simp; omega) (by rw [hsz]; omega) (by rw [nameB_list]; rfl) (by simp) rfl rfl
  rw [hok, if_pos rfl, hsz, hG, hF] at this
  rw [Nat.add_sub_cancel, extract_nm st back] at this
  refine this.mono ?_
  rintro e w' ⟨rfl, n, rfl⟩
  exact ⟨rfl, below_drewN (Below.refl _ _) n⟩
theorem fill_pt (w : World) (hm : Hm w) (st nb : Bs) (hl : st.length + nb.length ≤ 10000) :
    Calls Tryd.prog 106 #[.string (nameB (37 :: nb)), .string (nameB st)] w fun e w' => e = .returned (.string (nameB (st ++ nb))) ∧ Below w.heap.size w w' := by
  obtain ⟨m, hm⟩ := hm
  refine Stem.Fill_any (nameB (37 :: nb)) (nameB st) w m hm (by rw [nameB_size]; simp; omega) (by rw [nameB_size]; omega) _ ?_
  rw [nameB_list, nameB_list, show (37 : UInt8) :: nb = [] ++ 37 :: nb from rfl, Stem.replace_at [] nb (by simp) st]
  rfl
end Go.Proofs.YtjagnihkpgbjeaaDoor
