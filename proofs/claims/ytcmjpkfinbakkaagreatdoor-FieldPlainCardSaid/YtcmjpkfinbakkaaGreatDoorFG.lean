import Derived.Test.YtcmjpkfinbakkaaGreatDoorFC
import Derived.Test.YtcmjpkfinbakkaaGreatDoorRows
import Derived.WalkKit
import Derived.OwnWalk
import Derived.Lib.Builder
import Derived.Lib.FrozenHead
import Derived.Lib.OthersKept
import Derived.Laws.Externs
import Derived.Lib.Hide
import Derived.Lib.AppendStr
import Derived.Deep.SlicePairs
import Derived.ChangeArms
namespace Go.Proofs.YtcmjpkfinbakkaaGreatDoor.Fd
open Go.RowKit
set_option linter.unusedVariables false

theorem take_p2 {L : List Pt} {i : Nat} (h : i < L.length) : p2s (L.take (i + 1)) = p2s (L.take i) ++ [L[i].p2] := by
  unfold p2s
  rw [List.take_add_one, List.getElem?_eq_getElem h, List.map_append]; rfl
theorem Left.below {w0 w w' : World} {fsv fv : Value} {r : ByteArray} {g : List (List P2) × List P2} {n : Nat} (h : Left w0 w fsv fv r g n) (hb : Below w.heap.size w w') : Left w0 w' fsv fv r g n := by
  obtain ⟨st, h1, h2⟩ := h
  exact ⟨st, h1.below hb, h2⟩
theorem drew_below (w : World) (n : Nat) : Below w.heap.size w (w.drewN n) := below_drewN (Below.refl _ w) n
def szOf : Value → Nat | .string s => s.size | _ => 0
/-- What Split answers. -/
def SplitR (w0 : World) (goal : List (List P2)) (e : Ending) (w' : World) : Prop :=
  ∃ v vals FS, e = .returned v ∧ Flds w' w0.heap.size v vals FS ∧ p3s FS = goal ∧ FS.length ≤ 90000 ∧ (∀ F ∈ FS, F.length ≤ 90000) ∧ Below w0.heap.size w0 w'
set_option maxRecDepth 100000 in
set_option maxHeartbeats 8000000 in
theorem Split_any (v : Value) (L : List Pt) (w : World) (hL : L.length ≤ 40) (hs : ∀ p ∈ L, p.t.size ≤ 2000 ∧ -9223372036854775808 ≤ p.k ∧ p.k ≤ 9223372036854775807) (hS : Sl w v L) :
    Calls Tryz.prog 32 #[v] w (SplitR w (splitL (p2s L))) := by
  obtain ⟨a0, c0, hv, _⟩ := hS.form
  subst hv
  have HS := Lib.hid hS
  have HSZ := Lib.hid hs
  have hlI : (L.length : Int) ≤ 40 := by omega
  clear hS hs
  go_enter Tryz.func32, Tryz.ntmps32
  go_wp2_with fail
  go_loopw [3, 4, 11] (fun x y i wr => ∃ (k : Nat) (fsv fv : Value), k ≤ L.length ∧ fsv = x ∧ fv = y ∧ i = .int .i64 k ∧ Hid (At w wr fsv fv (runL (p2s (L.take k))) (k * 2001))) (fun _ _ i _ => L.length - (intOf i).toNat)
  case atStart => exact ⟨0, _, _, by omega, rfl, rfl, rfl, ⟨[], [], [], ⟨Flds.nil _ _, Row.nil _ _, (fun u hu => by cases hu), Below.refl _ _⟩, rfl, by simp, by simp, fun f hf => by cases hf⟩⟩
  case round =>
    obtain ⟨k, fsv, fv, hk, rfl, rfl, rfl, HA⟩ := hrel
    by_cases hlt : k < L.length
    · have hltI : (k : Int) < (L.length : Int) := by omega
      have hk0 : (0 : Int) ≤ (k : Int) := by omega
      obtain ⟨⟨a', c', e1, e2⟩, _⟩ := HS.out.below HA.out.old
      obtain ⟨b, off, e3, hb, hcs⟩ := e2 k hlt
      injection e1 with e4 _ e6
      subst e4
      subst e6
      subst e3
      have q0 := hcs 0 _ rfl
      have q1 := hcs 1 _ rfl
      have q2 := hcs 2 _ rfl
      have q3 := hcs 3 _ rfl
      have q4 := hcs 4 _ rfl
      have q5 := hcs 5 _ rfl
      rw [Nat.add_zero] at q0
      obtain ⟨wa, wc, hwv⟩ := HS.out.ok L[k] (List.getElem_mem hlt)
      have hsz := HSZ.out L[k] (List.getElem_mem hlt)
      have HT := Lib.hid (take_p2 hlt)
      rw [hwv] at q4
      obtain ⟨kd, hkd⟩ : ∃ kd, L[k].k = kd := ⟨_, rfl⟩
      obtain ⟨t, ht⟩ : ∃ t, L[k].t = t := ⟨_, rfl⟩
      have HP : Hid (L[k].p2 = (kd, t.data.toList)) := by unfold Hid Pt.p2; rw [hkd, ht]
      rw [hkd] at q0 hsz
      rw [ht] at q1 hsz
      have ad := add6 b off k
      have HSZT := Lib.hid hsz.1
      clear e2 hcs hwv hkd ht hsz
      by_cases h1 : kd = 1
      · subst h1
        have HG : Hid (runL (p2s (L.take (k + 1))) = tx (runL (p2s (L.take k))).1 (runL (p2s (L.take k))).2 t.data.toList) := by
          rw [Hid, HT.out, runL_snoc, HP.out]; rfl
        have HAB : Hid (Below wr.heap.size wr (wr.alloc (.cells #[.int .i64 1, .string t, .string ⟨#[]⟩, .string ⟨#[]⟩, .slice wa 0 wc, .bool false] 36))) := (Below.refl _ _).alloc (Nat.le_refl _) _
        have HA1 := Lib.hid (HA.out.below HAB.out)
        have HLt : Hid (Left w (wr.alloc (.cells #[.int .i64 1, .string t, .string ⟨#[]⟩, .string ⟨#[]⟩, .slice wa 0 wc, .bool false] 36)) fsv fv t (tx (runL (p2s (L.take k))).1 (runL (p2s (L.take k))).2 t.data.toList) (k * 2001 + (t.size - t.size))) := by
          rw [Nat.sub_self]; exact ⟨_, HA1.out, rfl⟩
        rw [← HG.out] at HLt
        obtain ⟨G, hG⟩ : ∃ G, runL (p2s (L.take (k + 1))) = G := ⟨_, rfl⟩
        rw [hG] at HLt
        have HGG := Lib.hid hG
        clear hG HG HP HT
        go_wp2_with fail
        refine wp_scope_straight ?_
        go_wp2_with fail
        refine wp_label ?_
        go_wp2_with fail
        go_loopw [3, 4, 7] (fun x y z wx => ∃ (fsv fv : Value) (rest : ByteArray), fsv = x ∧ fv = y ∧ z = .string rest ∧ rest.size ≤ t.size ∧ Hid (Left w wx fsv fv rest G (k * 2001 + (t.size - rest.size)))) (fun _ _ z _ => szOf z)
        case atStart => exact ⟨_, _, t, rfl, rfl, rfl, Nat.le_refl _, HLt.out⟩
        case round =>
          obtain ⟨fsv, fv, rest, rfl, rfl, rfl, hrt, HL⟩ := hrel
          obtain ⟨st, hat, hgo⟩ := HL.out
          obtain ⟨vals, FS, F, hst, hp, hFS, hFl, hFA⟩ := hat.ex
          subst hp
          have HSt := Lib.hid hst
          have hts : t.size ≤ 2000 := HSZT.out
          have hb1 : rest.size ≤ 2000 := by omega
          have hF9 : F.length ≤ 90000 := by omega
          have hFS9 : FS.length ≤ 90000 := by omega
          have HGO := Lib.hid hgo
          have HFS := Lib.hid hFS
          have HFl := Lib.hid hFl
          have HFA := Lib.hid hFA
          have HIX := Lib.hid (IndexAny_any rest wr (by omega))
          clear HL hst hgo hFS hFl hat hts hFA
          obtain ⟨c, hc⟩ : ∃ c, Lib.indexAny rest.data.toList [32, 9, 10] = c := ⟨_, rfl⟩
          rw [hc] at HIX
          by_cases hneg : c < 0
          · have HN := Lib.hid (any_none (by rw [hc]; exact hneg))
            clear hc
            go_wp2_with ((go_at_call 74; refine HIX.out.mono ?_; rintro e w5 ⟨rfl, hb⟩; have HB := Lib.hid (HSt.out.below hb); clear hb; simp only []))
            refine (withText_any fv F rest w.heap.size w5 hF9 HB.out.f HB.out.old.size).mono ?_
            rintro e w6 ⟨v6, rfl, hR, hO, hal⟩
            have HC : Hid (At w w6 fsv v6 G ((k + 1) * 2001)) := by
              refine ⟨vals, FS, _, HB.out.grow hR hO hal, ?_, ?_, ?_, ?_⟩
              · rw [← HGO.out, tx_none HN.out]; rw [show p2s (wtP F rest) = wt (p2s F) rest.data.toList from wtP_p2 F rest]
              · have := HFS.out; have := HSZT.out; omega
              · have := HFl.out; have := HSZT.out; have := wtP_len F rest; omega
              · intro f hf; have := HFA.out f hf; have := HSZT.out; omega
            clear hR hO hal
            simp only []
            go_wp2_with fail
            simp +zetaDelta only [Exit.noGoto_normal, Exit.inBlock, Exit.then]
            go_wp2_with fail
            go_roundw
            case measure => simp [intOf]; omega
            case rel => exact ⟨k + 1, _, _, by omega, rfl, rfl, rfl, by rw [HGG.out]; exact HC.out⟩
          · obtain ⟨n, rfl⟩ : ∃ n : Nat, c = n := ⟨c.toNat, by omega⟩
            obtain ⟨ch, hn1, hn2, hn3, hn4⟩ := any_some hc
            rw [show rest.data.toList.length = rest.size from Array.length_toList] at hn1
            have hn0 : (0 : Int) ≤ (n : Int) := by omega
            have hnr : (n : Int) ≤ (rest.size : Int) := by omega
            have hnr1 : ((n : Int) + 1) ≤ (rest.size : Int) := by omega
            have hn01 : (0 : Int) ≤ (n : Int) + 1 := by omega
            have hsl := (sl_p2 rest (show n ≤ rest.size by omega)).1
            have hsr := (sl_p2 rest (show n + 1 ≤ rest.size by omega)).2
            have HG2 : Hid (tx (shut (p3s FS) (wt (p2s F) (rest.extract 0 n).data.toList)) [] (rest.extract (n + 1) rest.size).data.toList = G) := by
              rw [Hid, ← HGO.out, hsl, hsr]
              have e : rest.data.toList = rest.data.toList.take n ++ ch :: rest.data.toList.drop (n + 1) := by rw [← hn3, List.take_append_drop]
              conv => rhs; rw [e]
              rw [tx_some hn2 hn4]
            clear hc hn2 hn3 hn4 hsl hsr
            go_wp2_with ((go_at_call 74; refine HIX.out.mono ?_; rintro e w5 ⟨rfl, hb⟩; have HB := Lib.hid (HSt.out.below hb); clear hb; simp only []))
            refine (withText_any fv F (rest.extract 0 n) w.heap.size w5 hF9 HB.out.f HB.out.old.size).mono ?_
            rintro e w6 ⟨v6, rfl, hR, hO, hal⟩
            have hwl := wtP_len F (rest.extract 0 n)
            obtain ⟨F6, hF6⟩ : ∃ F6, wtP F (rest.extract 0 n) = F6 := ⟨_, rfl⟩
            rw [hF6] at hR hwl
            have hp6 : wt (p2s F) (rest.extract 0 n).data.toList = p2s F6 := by rw [← hF6]; exact (wtP_p2 F _).symm
            have HC := Lib.hid (HB.out.grow hR hO hal)
            have HG3 := Lib.hid (hp6 ▸ HG2.out)
            obtain ⟨s6, c6, e6⟩ := hR.form
            subst e6
            clear hR hO hal hF6 hp6 HG2 HB
            have hgood : ∀ wx fsx, Hid (At w wx fsx (.slice none 0 0) (shut (p3s FS) (p2s F6), []) (k * 2001 + (t.size - (rest.extract (n + 1) rest.size).size))) → Hid (Left w wx fsx (.slice none 0 0) (rest.extract (n + 1) rest.size) G (k * 2001 + (t.size - (rest.extract (n + 1) rest.size).size))) := fun wx fsx h => ⟨_, h.out, HG3.out⟩
            have hes : (rest.extract (n + 1) rest.size).size = rest.size - (n + 1) := by simp
            have hb64 : IntKind.i64.wrap ((n : Int) + 1) = (n : Int) + 1 := IntWalk.i64_in _ (by omega)
            by_cases h6 : F6 = []
            · subst h6
              have HL2 := hgood w6 fsv (by
                refine ⟨vals, FS, [], ?_, ?_, ?_, by simp, fun f hf => by have := HFA.out f hf; rw [hes]; omega⟩
                · have := HC.out
                  exact ⟨this.fs, Row.nil _ _, fun u _ k _ e => by simp [Value.ownBlock] at e, this.old⟩
                · rfl
                · have := HFS.out; rw [hes]; omega)
              simp only [List.length_nil]
              clear hgood HG3
              go_wp2_with fail
              go_quiet (fail)
              go_wp2_with fail
              go_roundw
              case measure => simp [szOf]; omega
              case rel => exact ⟨_, _, _, rfl, rfl, rfl, by omega, HL2.out.below (drew_below _ _)⟩
            · have h6l : (0 : Int) < (F6.length : Int) := by
                have := List.length_pos_iff.2 h6
                omega
              obtain ⟨v8, w8, hrun, hst8⟩ := HC.out.push (by omega) 26
              have HL2 := hgood w8 v8 (by
                refine ⟨_, _, [], hst8, ?_, ?_, by simp, ?_⟩
                · rw [shut_p3, if_neg h6]; rfl
                · have := HFS.out; rw [hes, List.length_append, List.length_singleton]; omega
                · intro f hf
                  have := HFl.out
                  rcases List.mem_append.1 hf with hf | hf
                  · have := HFA.out f hf; rw [hes]; omega
                  · rw [List.mem_singleton] at hf; subst hf; rw [hes]; omega)
              have hrun' : (Builtin.append_ #[65, 65] 65 #[fsv, .slice (some ⟨w6.heap.size, 0, none⟩) 1 1]).run Tryz.prog (w6.alloc (.cells #[.slice s6 F6.length c6] 34)) = .ok v8 w8 := hrun
              clear hgood HG3 hst8 hrun
              simp only []
              go_wp2_with (at_builtin; refine wpList_run_append _ rfl _ _ 65 65 rfl _ _ rfl rfl hrun' ?_)
              go_quiet (fail)
              go_wp2_with fail
              go_roundw
              case measure => simp [szOf]; omega
              case rel => exact ⟨_, _, _, rfl, rfl, rfl, by omega, HL2.out.below (drew_below _ _)⟩
      · have h1' : (kd == 1) = false := by simpa using h1
        have HG : Hid (runL (p2s (L.take (k + 1))) = ((runL (p2s (L.take k))).1, (runL (p2s (L.take k))).2 ++ [(kd, t.data.toList)])) := by
          rw [Hid, HT.out, runL_snoc, HP.out]; unfold onePart; rw [if_neg h1]
        obtain ⟨W1, hW1⟩ : ∃ W1, wr.alloc (.cells #[.int .i64 kd, .string t, .string ⟨#[]⟩, .string ⟨#[]⟩, .slice wa 0 wc, .bool false] 36) = W1 := ⟨_, rfl⟩
        have HAB : Below wr.heap.size wr W1 := by rw [← hW1]; exact (Below.refl _ _).alloc (Nat.le_refl _) _
        have hz1 : wr.heap.size + 1 = W1.heap.size := by rw [← hW1]; simp
        obtain ⟨vals, FS, F, hst, hp, hFS, hFl, hFA⟩ := (HA.out.below HAB).ex
        have hw0 : Below W1.heap.size W1 (W1.alloc (.cells (lit kd t).cs.toArray 36)) := (Below.refl _ _).alloc (Nat.le_refl _) _
        obtain ⟨v', w', r1, r2, r3, r4⟩ := append_part (W1.alloc (.cells (lit kd t).cs.toArray 36)) w.heap.size fv F (by omega) (hst.f.below hw0) (by have := hw0.size; have := hst.old.size; omega) W1.heap.size 1 (lit kd t) (lit_ok _ _) (lit_new W1 _) 22
        have HC : Hid (At w w' fsv v' (runL (p2s (L.take (k + 1)))) ((k + 1) * 2001)) := by
          rw [HG.out]
          refine ⟨vals, FS, _, (hst.below hw0).grow r2 (Only.of_grown (S := fun i => fv.ownBlock = some i) r3 (fun k hk => hk)) ?_, ?_, ?_, ?_, fun f hf => by have := hFA f hf; omega⟩
          · rcases r4 with e | e
            · exact .inl e
            · exact .inr fun j hj => by rw [e] at hj; cases hj; exact Nat.le_refl _
          · rw [← hp]; unfold p2s; rw [List.map_append]; rfl
          · omega
          · rw [List.length_append, List.length_singleton]; omega
        have r1' : (Builtin.append_ #[34, 34] 34 #[fv, .slice (some ⟨wr.heap.size + 1, 0, none⟩) 1 1]).run Tryz.prog ((wr.alloc (.cells #[.int .i64 kd, .string t, .string ⟨#[]⟩, .string ⟨#[]⟩, .slice wa 0 wc, .bool false] 36)).alloc (.cells #[.int .i64 kd, .string t, .string ⟨#[]⟩, .string ⟨#[]⟩, .slice none 0 0, .bool false] 36)) = .ok v' w' := by
          rw [hW1, hz1]; exact r1
        clear r1 r2 r3 r4 hst hp hFS hFl hFA hw0 hz1 HAB hW1 HG HP HT
        go_wp2_with fail
        refine wp_scope_straight ?_
        go_wp2_with (at_builtin; refine wpList_run_append _ rfl _ _ 34 34 rfl _ _ rfl rfl r1' ?_)
        simp +zetaDelta only [Exit.noGoto_exit, Exit.inBlock, Exit.then]
        go_wp2_with fail
        go_roundw
        case measure => simp [intOf]; omega
        case rel => exact ⟨k + 1, _, _, by omega, rfl, rfl, rfl, HC.out⟩
    · obtain rfl : k = L.length := by omega
      have hk' : (L.length : Int) < (L.length : Int) ↔ False := by simp
      have HA2 : Hid (At w wr fsv fv (runL (p2s L)) (L.length * 2001)) := by
        have := HA.out
        rw [List.take_length] at this
        exact this
      obtain ⟨vals, FS, F, hst, hp, hFS, hFl, hFA⟩ := HA2.out.ex
      obtain ⟨s6, c6, e6⟩ := hst.f.form
      subst e6
      clear HA HA2
      by_cases h6 : F = []
      · subst h6
        have HE : Hid (SplitR w (splitL (p2s L)) (.returned fsv) wr) := by
          refine ⟨fsv, vals, FS, rfl, hst.fs, ?_, by omega, ?_, hst.old⟩
          · unfold splitL; rw [← hp]; exact (shut_nil _).symm
          · intro f hf; have := hFA f hf; omega
        clear hst hp hFA
        simp only [List.length_nil] at *
        go_wp2_with fail
        go_ret
        exact HE.out
      · have h6l : (0 : Int) < (F.length : Int) := by
          have := List.length_pos_iff.2 h6
          omega
        obtain ⟨v8, w8, hrun, hst8⟩ := hst.push (by omega) 26
        have hrun' : (Builtin.append_ #[65, 65] 65 #[fsv, .slice (some ⟨wr.heap.size, 0, none⟩) 1 1]).run Tryz.prog (wr.alloc (.cells #[.slice s6 F.length c6] 34)) = .ok v8 w8 := hrun
        have HE : Hid (SplitR w (splitL (p2s L)) (.returned v8) w8) := by
          refine ⟨v8, _, _, rfl, hst8.fs, ?_, by rw [List.length_append, List.length_singleton]; omega, ?_, hst8.old⟩
          · unfold splitL; rw [← hp, shut_p3, if_neg h6]
          · intro f hf
            rcases List.mem_append.1 hf with hf | hf
            · have := hFA f hf; omega
            · rw [List.mem_singleton] at hf; subst hf; omega
        clear hst hst8 hp hrun hFA
        go_wp2_with (at_builtin; refine wpList_run_append _ rfl _ _ 65 65 rfl _ _ rfl rfl hrun' ?_)
        go_ret
        exact HE.out
end Go.Proofs.YtcmjpkfinbakkaaGreatDoor.Fd

namespace Go.Proofs.YtcmjpkfinbakkaaGreatDoor.Fd
open Go.RowKit

theorem bd_size : (Tryz.prog.info? 121).map (·.size) = some 2 := by kernel_rfl
theorem bd_lies : liesAt Tryz.prog Tryz.prog.depth 121 (2 / Tryz.prog.cellsOf 121) 0 121 1 = true := by kernel_rfl
theorem bd_byte : (Tryz.prog.info? 5).map (fun i => (i.zero, i.size, i.bytes)) = some (some (.int .u8 0), 1, 1) := by kernel_rfl

set_option maxHeartbeats 1000000 in
set_option maxRecDepth 100000 in
/-- The check ahead of each write: behind it the builder knows its own address. -/
theorem bd_check (B b : Nat) (bs : List Value) (w : World) (h : Lib.IsBuilder 121 5 B b bs w) :
    Calls Tryz.prog 127 #[.pointer (some ⟨b, 0, none⟩)] w fun e w' => e = .returned (.tuple #[]) ∧ Lib.BuilderAt 121 5 B b (.pointer (some ⟨b, 0, none⟩)) bs w' ∧ Below B w w' ∧ Lib.OthersKept 5 (some b) w w' := by
  obtain ⟨j, hj, hjs⟩ := Option.map_eq_some_iff.1 bd_size
  rcases h with h | h
  · have h0 := h.cell0
    have hsh := h.shape
    have hfz := h.frozen0
    have HA := Lib.hid h
    clear h
    go_enter Tryz.func127, Tryz.ntmps127
    go_wp2
    rw [Lib.run_to_unsafe w ⟨b, 0, none⟩ Tryz.underlying119 Tryz.underlying209 hj (by rw [hjs]; decide) hsh (Nat.zero_lt_succ 1)]
    simp only [Result.andThen]
    rw [Oper.upon_value]
    go_wp2
    rw [run_callFunc_extern Tryz.func183 (by kernel_rfl) (by kernel_rfl) (by kernel_rfl) (e := Extern.AbiNoEscape.same) (by kernel_rfl), Lib.run_noEscape]
    simp only [Result.andThen]
    rw [Oper.upon_value]
    go_wp2
    rw [Lib.run_from_unsafe w ⟨b, 0, none⟩ Tryz.underlying209 Tryz.underlying119 hj hsh bd_lies]
    simp only [Result.andThen]
    rw [Oper.upon_value]
    go_wp2
    go_end0
    exact ⟨rfl, HA.out.used _, (Below.refl B w).setCell (p := ⟨b, 0, none⟩) HA.out.1 _, (Lib.OthersKept.refl 5 (some b) w).setCell ⟨b, 0, none⟩ rfl _⟩
  · have h0 := h.cell0
    have HA := Lib.hid h
    clear h
    go_enter Tryz.func127, Tryz.ntmps127
    go_wp2
    rw [Lib.run_neq_ptr_same w _ Tryz.underlying119 hj]
    go_wp2
    go_end0
    exact ⟨rfl, HA.out, Below.refl B w, Lib.OthersKept.refl 5 (some b) w⟩

set_option maxHeartbeats 2000000 in
set_option maxRecDepth 100000 in
theorem bd_writeByte (B b : Nat) (bs : List Value) (c : Int) (w : World) (h : Lib.IsBuilder 121 5 B b bs w) (hlen : bs.length + 1 ≤ 140737488355328) (hBw : B ≤ w.heap.size) :
    Calls Tryz.prog 85 #[.pointer (some ⟨b, 0, none⟩), .int .u8 c] w fun e w' => e = .returned .nilIface ∧ Lib.IsBuilder 121 5 B b (bs ++ [.int .u8 c]) w' ∧ Below B w w' ∧ Lib.OthersKept 5 (some b) w w' := by
  obtain ⟨i0, hi, hz0, hz1, hz2⟩ := info_parts bd_byte
  go_enter Tryz.func85, Tryz.ntmps85
  go_wp2_with (go_at_call 127; refine (bd_check B b bs _ h).mono ?_)
  rintro e w1 ⟨rfl, ⟨hB, v, hbk, hown, hne⟩, hb1, hk1⟩
  have c0 : w1.cell? ⟨b, 0, none⟩ = some (.pointer (some ⟨b, 0, none⟩)) := by rw [Lib.cell_of_heap hbk]; rfl
  have c1 : w1.cell? ⟨b, 1, none⟩ = some v := by rw [Lib.cell_of_heap hbk]; rfl
  go_wp2_with (at_builtin; refine wpList_append_own _ rfl _ _ 41 rfl B 5 i0 (.int .u8 0) 1 1 Tryz.underlying41 hi hz0 hz1 hz2 rfl (by decide) _ _ _ rfl (hown.alloc _) ⟨w1.heap.size, 0, none⟩ 1 1 [.int .u8 c] rfl rfl ?c1 ?c2 ?c3 ?c4 ?c5 ?_)
  case c1 =>
    intro j u hj
    match j, hj with
    | 0, hj => simp at hj; subst hj; simp [Addr.add]
  case c2 => intro u hu; simp at hu; subst hu; rfl
  case c3 => unfold maxLen; omega
  case c4 => omega
  case c5 => have := hb1.size; simp; omega
  intro v' w2 hown' hgrow _
  have hlt : b < w1.heap.size := by
    rcases Nat.lt_or_ge b w1.heap.size with h' | h'
    · exact h'
    · simp [Array.getElem?_eq_none h'] at hbk
  have hb2 : w2.heap[b]? = some (.cells #[.pointer (some ⟨b, 0, none⟩), v] 121 (0, 0)) := by
    rw [hgrow.block b (by simp; omega) (fun e => hne e.symm), Lib.alloc_old w1 _ b hlt]
    exact hbk
  have d0 : w2.cell? ⟨b, 0, none⟩ = some (.pointer (some ⟨b, 0, none⟩)) := by rw [Lib.cell_of_heap hb2]; rfl
  have d1 : w2.cell? ⟨b, 1, none⟩ = some v := by rw [Lib.cell_of_heap hb2]; rfl
  have f1 : w2.frozen? ⟨b, 1, none⟩ = false := Lib.frozen_of_heap hb2 1
  obtain ⟨g, cap, rfl⟩ : ∃ g cap, v' = .slice (some ⟨g, 0, none⟩) (bs.length + 1) cap := by
    rcases hown'.2 with ⟨_, h0⟩ | ⟨g, cap, cur, hv, _⟩
    · omega
    · exact ⟨g, cap, hv⟩
  go_wp2
  go_ret
  refine ⟨rfl, .inr ?_, ?_, ((hk1.alloc _).grown hgrow (Lib.ownsRowF_kind (World.ownsRowF_of (hown.alloc _)))).setCell ⟨b, 1, none⟩ rfl _⟩
  · exact Lib.BuilderAt.put (T := 121) (e := 5) hB hb2 (bs' := bs ++ [.int .u8 c]) (by simpa using hown') (by decide)
  · exact ((hb1.alloc (by have := hb1.size; omega) _).grown hgrow (by have := hb1.size; simp; omega) (fun k hk => (hown.lt k hk).1)).setCell (p := ⟨b, 1, none⟩) hB _


set_option maxHeartbeats 2000000 in
set_option maxRecDepth 100000 in
theorem bd_writeString (B b : Nat) (bs : List Value) (s : ByteArray) (w : World) (h : Lib.IsBuilder 121 5 B b bs w) (hs : 0 < s.size) (hlen : bs.length + s.size ≤ 140737488355328) (hBw : B ≤ w.heap.size) :
    Calls Tryz.prog 81 #[.pointer (some ⟨b, 0, none⟩), .string s] w fun e w' => e = .returned (.tuple #[.int .i64 s.size, .nilIface]) ∧ Lib.IsBuilder 121 5 B b (bs ++ Lib.strCells s) w' ∧ Below B w w' ∧ Lib.OthersKept 5 (some b) w w' := by
  obtain ⟨i0, hi, hz0, hz1, hz2⟩ := info_parts bd_byte
  go_enter Tryz.func81, Tryz.ntmps81
  go_wp2_with (go_at_call 127; refine (bd_check B b bs _ h).mono ?_)
  rintro e w1 ⟨rfl, ⟨hB, v, hbk, hown, hne⟩, hb1, hk1⟩
  have c0 : w1.cell? ⟨b, 0, none⟩ = some (.pointer (some ⟨b, 0, none⟩)) := by rw [Lib.cell_of_heap hbk]; rfl
  have c1 : w1.cell? ⟨b, 1, none⟩ = some v := by rw [Lib.cell_of_heap hbk]; rfl
  go_wp2_with (at_builtin; refine Lib.wpList_append_own_string _ rfl _ _ 41 9 rfl B 5 i0 Tryz.underlying41 Tryz.underlying9 hi hz0 hz1 hz2 _ _ _ rfl hown s rfl (by unfold maxLen; omega) hlen (by have := hb1.size; omega) ?_)
  intro v' w2 hown' hgrow _
  have hb2 : w2.heap[b]? = some (.cells #[.pointer (some ⟨b, 0, none⟩), v] 121 (0, 0)) := by
    rw [hgrow.block b (Array.getElem?_eq_some_iff.1 hbk).1 (fun e => hne e.symm)]
    exact hbk
  have d0 : w2.cell? ⟨b, 0, none⟩ = some (.pointer (some ⟨b, 0, none⟩)) := by rw [Lib.cell_of_heap hb2]; rfl
  have d1 : w2.cell? ⟨b, 1, none⟩ = some v := by rw [Lib.cell_of_heap hb2]; rfl
  have f1 : w2.frozen? ⟨b, 1, none⟩ = false := Lib.frozen_of_heap hb2 1
  obtain ⟨g, cap, rfl⟩ : ∃ g cap, v' = .slice (some ⟨g, 0, none⟩) (bs.length + s.size) cap := by
    rcases hown'.2 with ⟨_, h0⟩ | ⟨g, cap, cur, hv, _⟩
    · omega
    · exact ⟨g, cap, hv⟩
  go_wp2
  go_ret2
  refine ⟨rfl, .inr ?_, ?_, (hk1.grown hgrow (Lib.ownsRowF_kind (World.ownsRowF_of hown))).setCell ⟨b, 1, none⟩ rfl _⟩
  · exact Lib.BuilderAt.put (T := 121) (e := 5) hB hb2 (bs' := bs ++ Lib.strCells s) (by rw [List.length_append, Lib.strCells_length]; exact hown') (by decide)
  · exact (hb1.grown hgrow (by have := hb1.size; omega) (fun k hk => (hown.lt k hk).1)).setCell (p := ⟨b, 1, none⟩) hB _

/-- A builder that has just been made. -/
theorem bd_new (w : World) (B : Nat) (hB : B ≤ w.heap.size) : Lib.IsBuilder 121 5 B w.heap.size [] (w.alloc (.cells #[.pointer none, .slice none 0 0] 121)) :=
  .inl ⟨hB, _, heap_alloc_new _ _, ⟨rfl, .inl ⟨rfl, rfl⟩⟩, by simp [Value.ownBlock]⟩
/-- What is made elsewhere leaves a builder as it was. -/
theorem bd_below {B b : Nat} {bs : List Value} {w w' : World} (h : Lib.IsBuilder 121 5 B b bs w) (hb : Below w.heap.size w w') : Lib.IsBuilder 121 5 B b bs w' := by
  have key : ∀ p, Lib.BuilderAt 121 5 B b p bs w → Lib.BuilderAt 121 5 B b p bs w' := by
    rintro p ⟨hB, v, hbk, hown, hne⟩
    refine ⟨hB, v, ?_, hown.kept (row := none) ⟨hb.os, hb.tape, hb.output, hb.size, fun k hk _ => hb.block k hk⟩ (Classical.em _), hne⟩
    rw [hb.block b (Array.getElem?_eq_some_iff.1 hbk).1, hbk]
  exact h.elim (fun x => .inl (key _ x)) (fun x => .inr (key _ x))
end Go.Proofs.YtcmjpkfinbakkaaGreatDoor.Fd

namespace Go.Proofs.YtcmjpkfinbakkaaGreatDoor.Fd
open Go.RowKit
set_option linter.unusedVariables false

set_option maxHeartbeats 2000000 in
set_option maxRecDepth 100000 in
theorem bd_writeAny (B b : Nat) (bs : List Value) (s : ByteArray) (w : World) (h : Lib.IsBuilder 121 5 B b bs w) (hlen : bs.length + s.size ≤ 140737488355328) (hBw : B ≤ w.heap.size) :
    Calls Tryz.prog 81 #[.pointer (some ⟨b, 0, none⟩), .string s] w fun e w' => e = .returned (.tuple #[.int .i64 s.size, .nilIface]) ∧ Lib.IsBuilder 121 5 B b (bs ++ Lib.strCells s) w' ∧ Below B w w' ∧ Lib.OthersKept 5 (some b) w w' := by
  obtain ⟨i0, hi, hz0, hz1, hz2⟩ := info_parts bd_byte
  go_enter Tryz.func81, Tryz.ntmps81
  go_wp2_with (go_at_call 127; refine (bd_check B b bs _ h).mono ?_)
  rintro e w1 ⟨rfl, ⟨hB, v, hbk, hown, hne⟩, hb1, hk1⟩
  have c0 : w1.cell? ⟨b, 0, none⟩ = some (.pointer (some ⟨b, 0, none⟩)) := by rw [Lib.cell_of_heap hbk]; rfl
  have c1 : w1.cell? ⟨b, 1, none⟩ = some v := by rw [Lib.cell_of_heap hbk]; rfl
  go_wp2_with (at_builtin; refine Lib.wpList_append_own_string _ rfl _ _ 41 9 rfl B 5 i0 Tryz.underlying41 Tryz.underlying9 hi hz0 hz1 hz2 _ _ _ rfl hown s rfl (by unfold maxLen; omega) hlen (by have := hb1.size; omega) ?_)
  intro v' w2 hown' hgrow _
  have hb2 : w2.heap[b]? = some (.cells #[.pointer (some ⟨b, 0, none⟩), v] 121 (0, 0)) := by
    rw [hgrow.block b (Array.getElem?_eq_some_iff.1 hbk).1 (fun e => hne e.symm)]
    exact hbk
  have d0 : w2.cell? ⟨b, 0, none⟩ = some (.pointer (some ⟨b, 0, none⟩)) := by rw [Lib.cell_of_heap hb2]; rfl
  have d1 : w2.cell? ⟨b, 1, none⟩ = some v := by rw [Lib.cell_of_heap hb2]; rfl
  have f1 : w2.frozen? ⟨b, 1, none⟩ = false := Lib.frozen_of_heap hb2 1
  obtain ⟨g, cap, rfl⟩ : ∃ g cap, v' = .slice g (bs.length + s.size) cap := by
    rcases hown'.2 with ⟨h1, h0⟩ | ⟨g, cap, cur, hv, _⟩
    · exact ⟨none, 0, by rw [h0]; exact h1⟩
    · exact ⟨_, cap, hv⟩
  go_wp2
  go_ret2
  refine ⟨rfl, .inr ?_, ?_, (hk1.grown hgrow (Lib.ownsRowF_kind (World.ownsRowF_of hown))).setCell ⟨b, 1, none⟩ rfl _⟩
  · exact Lib.BuilderAt.put (T := 121) (e := 5) hB hb2 (bs' := bs ++ Lib.strCells s) (by rw [List.length_append, Lib.strCells_length]; exact hown') (by decide)
  · exact (hb1.grown hgrow (by have := hb1.size; omega) (fun k hk => (hown.lt k hk).1)).setCell (p := ⟨b, 1, none⟩) hB _


theorem cells_add (a : Bs) (s : ByteArray) : Lib.byteCells a ++ Lib.strCells s = Lib.byteCells (a ++ s.data.toList) := by
  rw [Lib.strCells_eq]; simp [Lib.byteCells]
/-- A builder of the call's own that holds l. -/
structure Bd (w0 w : World) (b : Nat) (l : Bs) : Prop where
  bd : Lib.IsBuilder 121 5 w0.heap.size b (Lib.byteCells l) w
  old : Below w0.heap.size w0 w
theorem Bd.new (w0 : World) : Bd w0 (w0.alloc (.cells #[.pointer none, .slice none 0 0] 121)) w0.heap.size [] := ⟨bd_new w0 _ (Nat.le_refl _), (Below.refl _ _).alloc (Nat.le_refl _) _⟩
theorem Bd.below {w0 w w' : World} {b : Nat} {l : Bs} (h : Bd w0 w b l) (hb : Below w.heap.size w w') : Bd w0 w' b l := ⟨bd_below h.bd hb, h.old.trans (hb.mono h.old.size)⟩
theorem Bd.write {w0 w : World} {b : Nat} {l : Bs} (h : Bd w0 w b l) (s : ByteArray) (hl : l.length + s.size ≤ 1000000) :
    Calls Tryz.prog 81 #[.pointer (some ⟨b, 0, none⟩), .string s] w fun e w' => e = .returned (.tuple #[.int .i64 s.size, .nilIface]) ∧ Bd w0 w' b (l ++ s.data.toList) := by
  refine (bd_writeAny w0.heap.size b _ s w h.bd (by rw [Lib.byteCells_length]; omega) h.old.size).mono ?_
  rintro e w' ⟨rfl, h1, h2, _⟩
  rw [cells_add] at h1
  exact ⟨rfl, h1, h.old.trans h2⟩
theorem Bd.str {w0 w : World} {b : Nat} {l : Bs} (h : Bd w0 w b l) : Calls Tryz.prog 83 #[.pointer (some ⟨b, 0, none⟩)] w fun e w' => e = .returned (.string ⟨l.toArray⟩) ∧ Below w0.heap.size w0 w' := by
  refine (Tryz.Builder_String_any w0.heap.size b l w h.bd h.old.size).mono ?_
  rintro e w' ⟨rfl, h2⟩
  exact ⟨rfl, h.old.trans h2⟩
theorem textL_take {L : List Pt} {k : Nat} (h : k < L.length) : textL (p2s (L.take (k + 1))) = textL (p2s (L.take k)) ++ L[k].t.data.toList := by
  rw [take_p2 h, textL_app]; simp [textL, Pt.p2]
theorem textL_le (L : List Pt) (k : Nat) : (textL (p2s (L.take k))).length ≤ (textL (p2s L)).length := by
  conv => rhs; rw [← List.take_append_drop k L]
  unfold p2s
  rw [List.map_append, textL_app, List.length_append]; omega
end Go.Proofs.YtcmjpkfinbakkaaGreatDoor.Fd

namespace Go.Proofs.YtcmjpkfinbakkaaGreatDoor.Fd
open Go.RowKit
set_option linter.unusedVariables false

set_option maxRecDepth 100000 in
set_option maxHeartbeats 8000000 in
theorem Text_any (v : Value) (L : List Pt) (w : World) (hL : L.length ≤ 100000) (hT : (textL (p2s L)).length ≤ 1000000) (hS : Sl w v L) :
    Calls Tryz.prog 43 #[v] w fun e w' => e = .returned (.string ⟨(textL (p2s L)).toArray⟩) ∧ Below w.heap.size w w' := by
  obtain ⟨a0, c0, hv, _⟩ := hS.form
  subst hv
  have HS := Lib.hid hS
  have hlI : (L.length : Int) ≤ 100000 := by omega
  have HB0 := Lib.hid (Bd.new w)
  clear hS
  go_enter Tryz.func43, Tryz.ntmps43
  go_wp2_with fail
  go_loopw [8] (fun i wx => ∃ k : Nat, k ≤ L.length ∧ i = .int .i64 k ∧ Hid (Bd w wx w.heap.size (textL (p2s (L.take k))))) (fun i _ => L.length - (intOf i).toNat)
  case atStart => exact ⟨0, by omega, rfl, HB0.out⟩
  case round =>
    obtain ⟨k, hk, rfl, HB⟩ := hrel
    by_cases hlt : k < L.length
    · have hltI : (k : Int) < (L.length : Int) := by omega
      have hk0 : (0 : Int) ≤ (k : Int) := by omega
      obtain ⟨⟨a', c', e1, e2⟩, _⟩ := HS.out.below HB.out.old
      obtain ⟨b, off, e3, hb, hcs⟩ := e2 k hlt
      injection e1 with e4 _ e6
      subst e4
      subst e6
      subst e3
      have q0 := hcs 0 _ rfl
      have q1 := hcs 1 _ rfl
      have q2 := hcs 2 _ rfl
      have q3 := hcs 3 _ rfl
      have q4 := hcs 4 _ rfl
      have q5 := hcs 5 _ rfl
      rw [Nat.add_zero] at q0
      obtain ⟨wa, wc, hwv⟩ := HS.out.ok L[k] (List.getElem_mem hlt)
      have HT := Lib.hid (textL_take hlt)
      have hle := textL_le L (k + 1)
      rw [HT.out, List.length_append] at hle
      rw [hwv] at q4
      obtain ⟨kd, hkd⟩ : ∃ kd, L[k].k = kd := ⟨_, rfl⟩
      obtain ⟨t, ht⟩ : ∃ t, L[k].t = t := ⟨_, rfl⟩
      rw [hkd] at q0
      rw [ht] at q1 HT hle
      have hts : (textL (p2s (L.take k))).length + t.size ≤ 1000000 := by
        rw [show t.data.toList.length = t.size from Array.length_toList] at hle; omega
      have HB1 : Hid (Bd w (wr.alloc (.cells #[.int .i64 kd, .string t, .string ⟨#[]⟩, .string ⟨#[]⟩, .slice wa 0 wc, .bool false] 36)) w.heap.size (textL (p2s (L.take k)))) := HB.out.below ((Below.refl _ _).alloc (Nat.le_refl _) _)
      have HW := Lib.hid (HB1.out.write t hts)
      rw [← HT.out] at HW
      have ad := add6 b off k
      clear e2 hcs hwv hkd ht hle HB HB1 HT
      go_wp2_with (go_at_call 81; refine HW.out.mono ?_; rintro e w5 ⟨rfl, h5⟩; have HC := Lib.hid h5; clear h5; simp only [])
      go_roundw
      case measure => simp [intOf]; omega
      case rel => exact ⟨k + 1, by omega, rfl, HC.out⟩
    · obtain rfl : k = L.length := by omega
      rw [List.take_length] at HB
      have HF := Lib.hid (HB.out.str)
      clear HB
      go_wp2_with (go_at_call 83; refine HF.out.mono ?_; rintro e w5 ⟨rfl, h5⟩; have HC := Lib.hid h5; clear h5; simp only [])
      go_ret
      exact ⟨rfl, HC.out⟩
end Go.Proofs.YtcmjpkfinbakkaaGreatDoor.Fd

namespace Go.Proofs.YtcmjpkfinbakkaaGreatDoor.Fd
open Go.RowKit Go.ChangeShapes Go.WideShapes
set_option linter.unusedVariables false

/-- A part that has just been laid. -/
theorem lit_sl (w : World) (k : Int) (t : ByteArray) : Sl (w.alloc (.cells (lit k t).cs.toArray 36)) (.slice (some ⟨w.heap.size, 0, none⟩) 1 1) [lit k t] := by
  refine ⟨⟨_, 1, rfl, fun i hi => ⟨w.heap.size, 0, rfl, by simp, fun q u hq => ?_⟩⟩, fun p hp => by rw [List.mem_singleton] at hp; subst hp; exact lit_ok _ _⟩
  obtain rfl : i = 0 := by simpa using hi
  have := lit_new w (lit k t) q u hq
  simpa using this
theorem one_part (w : World) (k : Int) (t : ByteArray) (ht : t.size ≤ 2000) (hk : -9223372036854775808 ≤ k ∧ k ≤ 9223372036854775807) :
    Calls Tryz.prog 32 #[.slice (some ⟨w.heap.size, 0, none⟩) 1 1] (w.alloc (.cells #[.int .i64 k, .string t, .string ⟨#[]⟩, .string ⟨#[]⟩, .slice none 0 0, .bool false] 36)) (SplitR (w.alloc (.cells #[.int .i64 k, .string t, .string ⟨#[]⟩, .string ⟨#[]⟩, .slice none 0 0, .bool false] 36)) (splitL [(k, t.data.toList)])) := by
  have := Split_any _ [lit k t] _ (by simp) (by intro p hp; rw [List.mem_singleton] at hp; subst hp; exact ⟨ht, hk⟩) (lit_sl w k t)
  exact this
theorem Flds.form {w : World} {B : Nat} {v : Value} {vals : List Value} {FS : List (List Pt)} (h : Flds w B v vals FS) : ∃ a c, v = .slice a FS.length c ∧ ∀ i (hi : i < FS.length), ∃ b, a = some ⟨b, 0, none⟩ ∧ w.cell? ⟨b, i, none⟩ = some (vals[i]'(by rw [h.len]; exact hi)) := by
  rcases h.own.2 with ⟨h1, h0⟩ | ⟨b, cap, cur, rfl, h2, h3, h4⟩
  · exact ⟨none, 0, by rw [h0]; exact h1, fun i hi => by omega⟩
  · refine ⟨_, cap, rfl, fun i hi => ⟨b, rfl, ?_⟩⟩
    rw [World.ownsRow.cellAt h.own i (by omega), List.getElem?_eq_getElem]
theorem p3s_len (FS : List (List Pt)) : (p3s FS).length = FS.length := by simp [p3s]
set_option maxRecDepth 100000 in
set_option maxHeartbeats 2000000 in
theorem alive_any (w : World) : Calls Tryz.prog 13 #[] w fun e w' => e = .returned (.bool true) ∧ Below w.heap.size w w' := by
  have HO := Lib.hid (one_part w 1 ⟨#[97, 32, 98]⟩ (by decide) (by decide))
  have HB : Hid (Below w.heap.size w (w.alloc (.cells #[.int .i64 1, .string ⟨#[97, 32, 98]⟩, .string ⟨#[]⟩, .string ⟨#[]⟩, .slice none 0 0, .bool false] 36))) := (Below.refl _ _).alloc (Nat.le_refl _) _
  go_enter Tryz.func13, Tryz.ntmps13
  go_wp2_with (go_at_call 32; refine HO.out.mono ?_)
  rintro e w5 ⟨v, vals, FS, rfl, hF, hp, _, _, hb⟩
  have hl : FS.length = 2 := by rw [← p3s_len, hp]; decide
  obtain ⟨a, c, rfl, h0⟩ := hF.form
  rw [hl]
  have HB2 := Lib.hid (HB.out.trans (hb.mono HB.out.size))
  clear h0 hF hp hl hb
  simp only []
  go_wp2_with fail
  go_ret
  exact ⟨rfl, HB2.out⟩

end Go.Proofs.YtcmjpkfinbakkaaGreatDoor.Fd

namespace Go.Proofs.YtcmjpkfinbakkaaGreatDoor.Fd
open Go.RowKit

def gb (s : ByteArray) (i : Nat) : UInt8 := s.data.toList.getD i 0
theorem gb_eq (s : ByteArray) (i : Nat) (h : i < s.size) : s[i] = gb s i := by
  have : i < s.data.toList.length := by simpa using h
  unfold gb
  rw [List.getD_eq_getElem?_getD, List.getElem?_eq_getElem this]; rfl
/-- The bytes that are quoted, and a text so. -/
def spc (c : UInt8) : Bool := c == 42 || c == 63 || c == 91 || c == 92
def qt (l : List UInt8) : List UInt8 := l.flatMap fun c => if spc c then [92, c] else [c]
theorem qt_snoc (l : List UInt8) (c : UInt8) : qt (l ++ [c]) = qt l ++ (if spc c then [92, c] else [c]) := by simp [qt]
theorem bc_snoc (l : List UInt8) (c : UInt8) : Lib.byteCells l ++ [.int .u8 c.toNat] = Lib.byteCells (l ++ [c]) := by simp [Lib.byteCells]
theorem bc_len (l : List UInt8) : (Lib.byteCells l).length = l.length := by simp [Lib.byteCells]
theorem qt_le (l : List UInt8) : (qt l).length ≤ 2 * l.length := by
  unfold qt
  induction l with
  | nil => simp
  | cons c l ih =>
    rw [List.flatMap_cons, List.length_append, List.length_cons]
    generalize (l.flatMap fun c => if spc c then [92, c] else [c]).length = n at *
    split
    · rw [show ([92, c] : List UInt8).length = 2 from rfl]; omega
    · rw [show ([c] : List UInt8).length = 1 from rfl]; omega
theorem take_gb (s : ByteArray) (k : Nat) (h : k < s.size) : s.data.toList.take (k + 1) = s.data.toList.take k ++ [gb s k] := by
  unfold gb
  rw [List.take_succ_eq_append_getElem (by simpa using h), List.getD_eq_getElem?_getD, List.getElem?_eq_getElem (by simpa using h)]; rfl

set_option maxRecDepth 100000 in
set_option maxHeartbeats 4000000 in
theorem Quote_any (s : ByteArray) (w : World) (hs : s.size ≤ 100000) :
    Calls Tryz.prog 82 #[.string s] w fun e w' => e = .returned (.string ⟨(qt s.data.toList).toArray⟩) ∧ Below w.heap.size w w' := by
  obtain ⟨r, hr⟩ : ∃ r, qt s.data.toList = r := ⟨_, rfl⟩
  rw [hr]
  have HR := Lib.hid hr
  clear hr
  go_enter Tryz.func82, Tryz.ntmps82
  go_wp2_with fail
  have HN := Lib.hid (bd_new w w.heap.size (Nat.le_refl _))
  have HB := Lib.hid ((Below.refl w.heap.size w).alloc (Nat.le_refl _) (.cells #[.pointer none, .slice none 0 0] 121))
  go_loopw [7] (fun i wr => ∃ k : Nat, i = .int .i64 k ∧ k ≤ s.size ∧ Hid (Lib.IsBuilder 121 5 w.heap.size w.heap.size (Lib.byteCells (qt (s.data.toList.take k))) wr ∧ Below w.heap.size w wr)) (fun i _ => s.size - (intOf i).toNat)
  case atStart => exact ⟨0, rfl, by omega, Lib.hid ⟨by simpa [qt, Lib.byteCells] using HN.out, HB.out⟩⟩
  case round =>
    obtain ⟨k, rfl, hk, HK⟩ := hrel
    by_cases hlt : k < s.size
    · have hltI : (k : Int) < (s.size : Int) := by omega
      have hgb := gb_eq s k hlt
      have HT : Hid (qt (s.data.toList.take (k + 1)) = qt (s.data.toList.take k) ++ (if spc (gb s k) then [92, gb s k] else [gb s k])) := by unfold Hid; rw [take_gb s k hlt, qt_snoc]
      have hq := qt_le (s.data.toList.take k)
      have hlen : (s.data.toList.take k).length = k := by simp; omega
      rw [hlen] at hq
      have HQ := Lib.hid hq
      clear hq hlen
      generalize gb s k = c at *
      generalize qt (s.data.toList.take k) = l at *
      have hB := HK.out.2.size
      cases hc : spc c
      · have HC : Hid (qt (s.data.toList.take (k + 1)) = l ++ [c]) := by unfold Hid; rw [HT.out, hc]; rfl
        have hne : c.toNat ≠ 42 ∧ c.toNat ≠ 63 ∧ c.toNat ≠ 91 ∧ c.toNat ≠ 92 := by
          unfold spc at hc
          simp only [Bool.or_eq_false_iff, beq_eq_false_iff_ne] at hc
          exact ⟨fun h => hc.1.1.1 (UInt8.toNat.inj h), fun h => hc.1.1.2 (UInt8.toNat.inj h), fun h => hc.1.2 (UInt8.toNat.inj h), fun h => hc.2 (UInt8.toNat.inj h)⟩
        have c1 : ((c.toNat : Int) == 42) = false := by rw [beq_eq_false_iff_ne]; omega
        have c2 : ((c.toNat : Int) == 63) = false := by rw [beq_eq_false_iff_ne]; omega
        have c3 : ((c.toNat : Int) == 91) = false := by rw [beq_eq_false_iff_ne]; omega
        have c4 : ((c.toNat : Int) == 92) = false := by rw [beq_eq_false_iff_ne]; omega
        clear hc hne HT
        go_wp2_with fail
        refine (bd_writeByte w.heap.size w.heap.size _ c.toNat _ HK.out.1 (by rw [bc_len]; have := HQ.out; omega) hB).mono ?_
        rintro e w2 ⟨rfl, hb2, hB2, _⟩
        have HX := Lib.hid (And.intro hb2 (HK.out.2.trans hB2))
        clear hb2 hB2
        go_wp2_with fail
        exact ⟨⟨k + 1, by go_num, by omega, by rw [HC.out, ← bc_snoc]; exact HX.out⟩, by simp [intOf]; omega⟩
      · have HC : Hid (qt (s.data.toList.take (k + 1)) = l ++ [92] ++ [c]) := by unfold Hid; rw [HT.out, hc]; simp
        have hcs : c = 42 ∨ c = 63 ∨ c = 91 ∨ c = 92 := by
          unfold spc at hc
          simpa [Bool.or_eq_true, or_assoc] using hc
        clear hc HT
        rcases hcs with rfl | rfl | rfl | rfl
        all_goals
          go_wp2_with fail
          refine (bd_writeByte w.heap.size w.heap.size _ 92 _ HK.out.1 (by rw [bc_len]; have := HQ.out; omega) hB).mono ?_
          rintro e w2 ⟨rfl, hb2, hB2, _⟩
          have HX := Lib.hid (And.intro hb2 (HK.out.2.trans hB2))
          have hB3 := HX.out.2.size
          clear hb2 hB2
          go_wp2_with fail
          refine (bd_writeByte w.heap.size w.heap.size _ _ _ HX.out.1 (by rw [List.length_append, bc_len]; have := HQ.out; simp; omega) hB3).mono ?_
          rintro e w3 ⟨rfl, hb3, hB4, _⟩
          have HY := Lib.hid (And.intro hb3 (HX.out.2.trans hB4))
          clear hb3 hB4
          go_wp2_with fail
          exact ⟨⟨k + 1, by go_num, by omega, by rw [HC.out, ← bc_snoc, ← bc_snoc]; exact HY.out⟩, by simp [intOf]; omega⟩
    · have hge : ¬ (k : Int) < (s.size : Int) := by omega
      have HL : Hid (qt (s.data.toList.take k) = r) := by unfold Hid; rw [← HR.out, List.take_of_length_le (by simp; omega)]
      have hB := HK.out.2.size
      rw [HL.out] at HK
      go_wp2_with fail
      refine (Tryz.Builder_String_any w.heap.size w.heap.size r _ HK.out.1 hB).mono ?_
      rintro e w2 ⟨rfl, hB2⟩
      have HX := Lib.hid (HK.out.2.trans hB2)
      clear hB2
      go_wp2_with fail
      go_ret
      exact ⟨rfl, HX.out⟩
end Go.Proofs.YtcmjpkfinbakkaaGreatDoor.Fd
