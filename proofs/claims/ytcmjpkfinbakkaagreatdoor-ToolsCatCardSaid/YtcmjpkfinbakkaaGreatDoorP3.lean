/-
  ToolsCat: cat tells the files that it is asked for one behind the other and goes on behind one that is not there, and tells what came in where a - stands, for all rows of up to ten files of up to 200 bytes.
-/
import Derived.Test.YtcmjpkfinbakkaaGreatDoorRows
import Derived.Test.YtcmjpkfinbakkaaGreatDoorTie
import Derived.Test.YtcmjpkfinbakkaaGreatDoorCards
import Derived.Test.YtcmjpkfinbakkaaGreatDoorKM
import Derived.Test.YtcmjpkfinbakkaaGreatDoorL
import Derived.WalkKit
import Derived.ProofKit
import Derived.OpenShut
import Derived.ShutString
import Derived.JoinedCond
import Derived.LaidMore
import Derived.Lay
import Derived.Deep.DeepHandedRow
import Derived.WideKeyArgs
import Derived.SevenTiedAt
import Derived.Stop.Joined
namespace Go.Proofs.YtcmjpkfinbakkaaGreatDoor.toolsCat
open Go.ChangeShapes Go.WideShapes Go.ChangeAt Go.RowKit
open Go.ChangeMaps (open_string shut_string)
set_option linter.unusedVariables false

theorem own : ownKnob Tryz.prog.godebug = none := by kernel_rfl

theorem reads (os : Os) {H : Type} (enc : TypeId × Value → H) : ∃ places, DataW.whole enc Tryz.prog ((World.laidAll Tryz.prog os Rows.toolsCatRow.laid).forCall (fun _ _ => 0) ⟨#[], #[.slice none 0 0, .slice none 0 0, .slice none 0 0], []⟩).memory Tryz.f11.params.toList Rows.toolsCatSpec.vars false #[.slice none 0 0, .slice none 0 0, .slice none 0 0].toList 8 = some ([.nil, .nil, .nil], [], places) :=
  ⟨[], by kernel_rfl⟩

theorem laidOut : laidOutB Tryz.prog = true := by kernel_rfl
set_option maxRecDepth 100000 in
theorem lifted (os : Os) (started : os.Started) (H : Type) (enc : TypeId × Value → H) (F : Stop.Interp) :
    ReturnsInHanded {} Tryz.checked os 11 .any ((OpenSpec.ofChange Rows.toolsCatSpec).preRow enc Tryz.prog Tryz.f11 Rows.toolsCatRow.domain false Rows.toolsCatRow.laid) (((OpenSpec.ofChange Rows.toolsCatSpec).at F).post enc Tryz.prog Tryz.f11 false true false false) := by
  obtain ⟨places, hx⟩ := reads os enc
  refine returnsInHanded_of_row (C := Tryz.checked) (s := OpenSpec.ofChange Rows.toolsCatSpec) own started (by kernel_rfl) Tryz.func11
    (witness_row_at (enc := enc) (C := Tryz.checked) false (World.laidAll Tryz.prog os Rows.toolsCatRow.laid) #[.slice none 0 0, .slice none 0 0, .slice none 0 0] rfl (by kernel_rfl) (by kernel_rfl) (by kernel_rfl)
      (OpenSpec.preRow_of_cond 8 hx (by kernel_rfl) (fun k hk => by cases hk) (by kernel_rfl) (laidMet_laidAll _ (by kernel_rfl) (by kernel_rfl)))) ?_
  intro W base args ds gs before hval0 hW _ hcond hsz hL hsh _
  have hval : ∀ (j : Nat) t v, Tryz.f11.params[j]? = some t → args[j]? = some v → Value.okWide Tryz.prog W .any base t v := hval0
  have hW' := hW
  obtain ⟨p, q, hA0, hV, rfl, hfz, hnd⟩ := hW
  have hA : DataW.TrodAll enc Tryz.prog W 0 (fun _ => true) true Tryz.f11.params.toList args.toList ds p := hA0
  rw [Tryz.params11] at hA hval
  obtain ⟨v0, vs0, d0, ds0, p0, q0, hargs, rfl, rfl, h0, r0⟩ := trodAll_cons hA
  obtain ⟨v1, vs1, d1, ds1, p1, q1, rfl, rfl, rfl, h1, r1⟩ := trodAll_cons r0
  obtain ⟨v2, vs2, d2, ds2, p2, q2, rfl, rfl, rfl, h2, r2⟩ := trodAll_cons r1
  obtain ⟨rfl, rfl, rfl⟩ := trodAll_nil r2
  obtain rfl : args = #[v0, v1, v2] := by cases args; simp_all
  obtain ⟨rfl, rfl⟩ := trodVars_none hV
  have h0k := h0
  obtain ⟨n0, ls0, T0, hn0⟩ := open_bytss (hval 0 61 v0 rfl rfl) h0
  have h1k := h1
  obtain ⟨l1, T1, hl1⟩ := open_bools (hval 1 62 v1 rfl rfl) h1
  have h2k := h2
  obtain ⟨l2, T2, U2, hl2⟩ := open_byts (hval 2 41 v2 rfl rfl) h2
  clear hA0 hval0
  simp only [List.append_nil, List.nil_append] at hW'
  have hlt0 : ∀ x ∈ p0, x.block < W.heap.size := fun x hx => by simpa using hW'.lt x (by simp [hx])
  have hlt1 : ∀ x ∈ p1, x.block < W.heap.size := fun x hx => by simpa using hW'.lt x (by simp [hx])
  have hlt2 : ∀ x ∈ p2, x.block < W.heap.size := fun x hx => by simpa using hW'.lt x (by simp [hx])
  refine (toolscat_walk v0 v1 v2 n0 ls0 l1 l2 W T0 T1 T2 U2).mono fun e W' ⟨he, hg⟩ => ?_
  subst he
  exact ⟨_, rfl, lawPost (s := Rows.toolsCatSpec) (pa := (p0 ++ (p1 ++ (p2 ++ [])))) (pv := []) hW' (fun _ _ _ => (trodAll_cons_mk (shut_bool Tryz.underlying4 _) trodAll_mk0)) (fun sp hsp => (trodAll_cons_mk (WideElems.Trod_stays laidOut (by kernel_rfl) (of_decide_eq_true (by kernel_rfl)) h0k (fun x hx => hg.same (hlt0 x hx)) (fun x hx => hsp x (by simp [hx]))) (trodAll_cons_mk (WideElems.Trod_stays laidOut (by kernel_rfl) (of_decide_eq_true (by kernel_rfl)) h1k (fun x hx => hg.same (hlt1 x hx)) (fun x hx => hsp x (by simp [hx]))) (trodAll_cons_mk (WideElems.Trod_stays laidOut (by kernel_rfl) (of_decide_eq_true (by kernel_rfl)) h2k (fun x hx => hg.same (hlt2 x hx)) (fun x hx => hsp x (by simp [hx]))) trodAll_mk0)))) (fun _ _ => rfl) (by simp) hg (ok_one (by kernel_rfl) rfl (okWide_bool_mk Tryz.underlying4 _))⟩

theorem k_unf : Tryz.prog.unfollowed 11 = true := by kernel_rfl
theorem k_inp : Tryz.prog.inPlace 11 = Rows.toolsCatRow.inPlace := by kernel_rfl
theorem k_named : Tryz.prog.varsNamed 11 = Rows.toolsCatRow.named := by kernel_rfl
theorem k_rec : Tryz.prog.recurses 11 = true := by unfold Program.recurses; rw [k_unf]; rfl
theorem k_maps : mapsRowed Tryz.prog = true := by kernel_rfl
theorem k_heard : Tryz.prog.stopsHeard = true := by kernel_rfl
theorem k_enter : Tryz.prog.mayEnter = true := by kernel_rfl
theorem k_keys : Tryz.prog.plainKeys = Rows.toolsCatRow.plainKeys := by kernel_rfl
theorem k_lift : Tryz.prog.liftsFinal = Rows.toolsCatRow.lifted := by kernel_rfl
theorem k_goes : Rows.toolsCatRow.goesBy Tryz.prog = false := by kernel_rfl
theorem k_looks : Tryz.prog.looks [] = true := by kernel_rfl
theorem closed : joinedFacts Tryz.prog 11 Tryz.f11 (OpenSpec.ofChange Rows.toolsCatSpec).bare Rows.toolsCatRow = true := by
  unfold joinedFacts
  rw [laidOut, k_maps, k_inp, k_unf, k_rec, k_named, k_keys, k_heard, k_enter, k_lift]
  kernel_rfl

theorem over : Rows.toolsCatRow.holds Tryz.pinned (OpenSpec.ofChange Rows.toolsCatSpec) :=
  OpenClaim.holds_of_cond 11 Tryz.f11 rfl rfl rfl rfl rfl rfl rfl ⟨rfl, rfl, rfl, rfl, rfl⟩ rfl rfl rfl rfl rfl (by kernel_rfl) Tryz.func11 closed
    (of_decide_eq_true (by kernel_rfl)) (by unfold Func.isWrapper; first | (rw [if_pos (by decide +kernel)]; kernel_rfl) | (rw [if_neg (by decide +kernel)]; exact ⟨rfl, rfl⟩))
    (fun os started H enc _ F => by rw [OpenClaim.pre_eq_preRow]; exact lifted os started H enc F)

theorem proved : Rows.ToolsCatCardSaid :=
  Claim7.holds_tied_plain_at .later [] _ _ _ _ over (fun _ h => by cases h) (by kernel_rfl) (fun _ h => by cases h) toolsCat_row_tie rfl ⟨rfl, rfl⟩ (by kernel_rfl) rfl
    (fun f fn hf hfn => by
      obtain rfl : f = 11 := Option.some.inj ((show Tryz.prog.funcNamed "quartermaster/quartermasterlaw15.ToolsCat" = some 11 by kernel_rfl).symm.trans hf) |>.symm
      obtain rfl : fn = Tryz.f11 := (Option.some.inj (Tryz.func11.symm.trans hfn)).symm
      exact ⟨k_looks.symm, fun j t ht => by
        rw [Tryz.params11] at ht
        have hm : t ∈ [61, 62, 41] := by simpa using Array.mem_of_getElem? ht
        have hall : ([61, 62, 41].all fun u => !Tryz.prog.wantsStandIn u) = true := by kernel_rfl
        exact (show Tryz.prog.wantsStandIn t = false by simpa using List.all_eq_true.1 hall t hm)⟩)
    k_goes.symm
#print axioms proved
end Go.Proofs.YtcmjpkfinbakkaaGreatDoor.toolsCat
