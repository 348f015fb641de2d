import Derived.Test.YtdkkfcpnfhfjdaaF
namespace Go.Proofs.Ytdkkfcpnfhfjdaa
open Go.RowKit
set_option linter.unusedVariables false

theorem take_p2 {L : List Pt} {i : Nat} (h : i < L.length) : p2s (L.take (i + 1)) = p2s (L.take i) ++ [L[i].p2] := by
  unfold p2s
  rw [List.take_add_one, List.getElem?_eq_getElem h, List.map_append]; rfl
theorem Left.below {w0 w w' : World} {fsv fv : Value} {r : ByteArray} {g : List (List P2) × List P2} {n : Nat} (h : Left w0 w fsv fv r g n) (hb : Below w.heap.size w w') : Left w0 w' fsv fv r g n := by
  obtain ⟨st, h1, h2⟩ := h
  exact ⟨st, h1.below hb, h2⟩
theorem drew_below (w : World) (n : Nat) : Below w.heap.size w (w.drewN n) := below_drewN (Below.refl _ w) n
def szOf : Value → Nat | .string s => s.size | _ => 0
/-- What Split answers. -/
def SplitR (w0 : World) (goal : List (List P2)) (e : Ending) (w' : World) : Prop :=
  ∃ v vals FS, e = .returned v ∧ Flds w' w0.heap.size v vals FS ∧ p3s FS = goal ∧ FS.length ≤ 90000 ∧ (∀ F ∈ FS, F.length ≤ 90000) ∧ Below w0.heap.size w0 w'
set_option maxRecDepth 100000 in
set_option maxHeartbeats 8000000 in
theorem Split_any (v : Value) (L : List Pt) (w : World) (hL : L.length ≤ 40) (hs : ∀ p ∈ L, p.t.size ≤ 2000 ∧ -9223372036854775808 ≤ p.k ∧ p.k ≤ 9223372036854775807) (hS : Sl w v L) :
    Calls Try.prog 9 #[v] w (SplitR w (splitL (p2s L))) := by
  obtain ⟨a0, c0, hv, _⟩ := hS.form
  subst hv
  have HS := Lib.hid hS
  have HSZ := Lib.hid hs
  have hlI : (L.length : Int) ≤ 40 := by omega
  clear hS hs
  go_enter Try.func9, Try.ntmps9
  go_wp2_with fail
  go_loopw [3, 4, 11] (fun x y i wr => ∃ (k : Nat) (fsv fv : Value), k ≤ L.length ∧ fsv = x ∧ fv = y ∧ i = .int .i64 k ∧ Hid (At w wr fsv fv (runL (p2s (L.take k))) (k * 2001))) (fun _ _ i _ => L.length - (intOf i).toNat)
  case atStart => exact ⟨0, _, _, by omega, rfl, rfl, rfl, ⟨[], [], [], ⟨Flds.nil _ _, Row.nil _ _, (fun u hu => by cases hu), Below.refl _ _⟩, rfl, by simp, by simp, fun f hf => by cases hf⟩⟩
  case round =>
    obtain ⟨k, fsv, fv, hk, rfl, rfl, rfl, HA⟩ := hrel
    by_cases hlt : k < L.length
    · have hltI : (k : Int) < (L.length : Int) := by omega
      have hk0 : (0 : Int) ≤ (k : Int) := by omega
      obtain ⟨⟨a', c', e1, e2⟩, _⟩ := HS.out.below HA.out.old
      obtain ⟨b, off, e3, hb, hcs⟩ := e2 k hlt
      injection e1 with e4 _ e6
      subst e4
      subst e6
      subst e3
      have q0 := hcs 0 _ rfl
      have q1 := hcs 1 _ rfl
      have q2 := hcs 2 _ rfl
      have q3 := hcs 3 _ rfl
      have q4 := hcs 4 _ rfl
      have q5 := hcs 5 _ rfl
      rw [Nat.add_zero] at q0
      obtain ⟨wa, wc, hwv⟩ := HS.out.ok L[k] (List.getElem_mem hlt)
      have hsz := HSZ.out L[k] (List.getElem_mem hlt)
      have HT := Lib.hid (take_p2 hlt)
      rw [hwv] at q4
      obtain ⟨kd, hkd⟩ : ∃ kd, L[k].k = kd := ⟨_, rfl⟩
      obtain ⟨t, ht⟩ : ∃ t, L[k].t = t := ⟨_, rfl⟩
      have HP : Hid (L[k].p2 = (kd, t.data.toList)) := by unfold Hid Pt.p2; rw [hkd, ht]
      rw [hkd] at q0 hsz
      rw [ht] at q1 hsz
      have ad := add6 b off k
      have HSZT := Lib.hid hsz.1
      clear e2 hcs hwv hkd ht hsz
      by_cases h1 : kd = 1
      · subst h1
        have HG : Hid (runL (p2s (L.take (k + 1))) = tx (runL (p2s (L.take k))).1 (runL (p2s (L.take k))).2 t.data.toList) := by
          rw [Hid, HT.out, runL_snoc, HP.out]; rfl
        have HAB : Hid (Below wr.heap.size wr (wr.alloc (.cells #[.int .i64 1, .string t, .string ⟨#[]⟩, .string ⟨#[]⟩, .slice wa 0 wc, .bool false] 31))) := (Below.refl _ _).alloc (Nat.le_refl _) _
        have HA1 := Lib.hid (HA.out.below HAB.out)
        have HLt : Hid (Left w (wr.alloc (.cells #[.int .i64 1, .string t, .string ⟨#[]⟩, .string ⟨#[]⟩, .slice wa 0 wc, .bool false] 31)) fsv fv t (tx (runL (p2s (L.take k))).1 (runL (p2s (L.take k))).2 t.data.toList) (k * 2001 + (t.size - t.size))) := by
          rw [Nat.sub_self]; exact ⟨_, HA1.out, rfl⟩
        rw [← HG.out] at HLt
        obtain ⟨G, hG⟩ : ∃ G, runL (p2s (L.take (k + 1))) = G := ⟨_, rfl⟩
        rw [hG] at HLt
        have HGG := Lib.hid hG
        clear hG HG HP HT
        go_wp2_with fail
        refine wp_scope_straight ?_
        go_wp2_with fail
        refine wp_label ?_
        go_wp2_with fail
        go_loopw [3, 4, 7] (fun x y z wx => ∃ (fsv fv : Value) (rest : ByteArray), fsv = x ∧ fv = y ∧ z = .string rest ∧ rest.size ≤ t.size ∧ Hid (Left w wx fsv fv rest G (k * 2001 + (t.size - rest.size)))) (fun _ _ z _ => szOf z)
        case atStart => exact ⟨_, _, t, rfl, rfl, rfl, Nat.le_refl _, HLt.out⟩
        case round =>
          obtain ⟨fsv, fv, rest, rfl, rfl, rfl, hrt, HL⟩ := hrel
          obtain ⟨st, hat, hgo⟩ := HL.out
          obtain ⟨vals, FS, F, hst, hp, hFS, hFl, hFA⟩ := hat.ex
          subst hp
          have HSt := Lib.hid hst
          have hts : t.size ≤ 2000 := HSZT.out
          have hb1 : rest.size ≤ 2000 := by omega
          have hF9 : F.length ≤ 90000 := by omega
          have hFS9 : FS.length ≤ 90000 := by omega
          have HGO := Lib.hid hgo
          have HFS := Lib.hid hFS
          have HFl := Lib.hid hFl
          have HFA := Lib.hid hFA
          have HIX := Lib.hid (IndexAny_any rest wr (by omega))
          clear HL hst hgo hFS hFl hat hts hFA
          obtain ⟨c, hc⟩ : ∃ c, Lib.indexAny rest.data.toList [32, 9, 10] = c := ⟨_, rfl⟩
          rw [hc] at HIX
          by_cases hneg : c < 0
          · have HN := Lib.hid (any_none (by rw [hc]; exact hneg))
            clear hc
            go_wp2_with ((go_at_call 16; refine HIX.out.mono ?_; rintro e w5 ⟨rfl, hb⟩; have HB := Lib.hid (HSt.out.below hb); clear hb; simp only []))
            refine (withText_any fv F rest w.heap.size w5 hF9 HB.out.f HB.out.old.size).mono ?_
            rintro e w6 ⟨v6, rfl, hR, hO, hal⟩
            have HC : Hid (At w w6 fsv v6 G ((k + 1) * 2001)) := by
              refine ⟨vals, FS, _, HB.out.grow hR hO hal, ?_, ?_, ?_, ?_⟩
              · rw [← HGO.out, tx_none HN.out]; rw [show p2s (wtP F rest) = wt (p2s F) rest.data.toList from wtP_p2 F rest]
              · have := HFS.out; have := HSZT.out; omega
              · have := HFl.out; have := HSZT.out; have := wtP_len F rest; omega
              · intro f hf; have := HFA.out f hf; have := HSZT.out; omega
            clear hR hO hal
            simp only []
            go_wp2_with fail
            simp +zetaDelta only [Exit.noGoto_normal, Exit.inBlock, Exit.then]
            go_wp2_with fail
            go_roundw
            case measure => simp [intOf]; omega
            case rel => exact ⟨k + 1, _, _, by omega, rfl, rfl, rfl, by rw [HGG.out]; exact HC.out⟩
          · obtain ⟨n, rfl⟩ : ∃ n : Nat, c = n := ⟨c.toNat, by omega⟩
            obtain ⟨ch, hn1, hn2, hn3, hn4⟩ := any_some hc
            rw [show rest.data.toList.length = rest.size from Array.length_toList] at hn1
            have hn0 : (0 : Int) ≤ (n : Int) := by omega
            have hnr : (n : Int) ≤ (rest.size : Int) := by omega
            have hnr1 : ((n : Int) + 1) ≤ (rest.size : Int) := by omega
            have hn01 : (0 : Int) ≤ (n : Int) + 1 := by omega
            have hsl := (sl_p2 rest (show n ≤ rest.size by omega)).1
            have hsr := (sl_p2 rest (show n + 1 ≤ rest.size by omega)).2
            have HG2 : Hid (tx (shut (p3s FS) (wt (p2s F) (rest.extract 0 n).data.toList)) [] (rest.extract (n + 1) rest.size).data.toList = G) := by
              rw [Hid, ← HGO.out, hsl, hsr]
              have e : rest.data.toList = rest.data.toList.take n ++ ch :: rest.data.toList.drop (n + 1) := by rw [← hn3, List.take_append_drop]
              conv => rhs; rw [e]
              rw [tx_some hn2 hn4]
            clear hc hn2 hn3 hn4 hsl hsr
            go_wp2_with ((go_at_call 16; refine HIX.out.mono ?_; rintro e w5 ⟨rfl, hb⟩; have HB := Lib.hid (HSt.out.below hb); clear hb; simp only []))
            refine (withText_any fv F (rest.extract 0 n) w.heap.size w5 hF9 HB.out.f HB.out.old.size).mono ?_
            rintro e w6 ⟨v6, rfl, hR, hO, hal⟩
            have hwl := wtP_len F (rest.extract 0 n)
            obtain ⟨F6, hF6⟩ : ∃ F6, wtP F (rest.extract 0 n) = F6 := ⟨_, rfl⟩
            rw [hF6] at hR hwl
            have hp6 : wt (p2s F) (rest.extract 0 n).data.toList = p2s F6 := by rw [← hF6]; exact (wtP_p2 F _).symm
            have HC := Lib.hid (HB.out.grow hR hO hal)
            have HG3 := Lib.hid (hp6 ▸ HG2.out)
            obtain ⟨s6, c6, e6⟩ := hR.form
            subst e6
            clear hR hO hal hF6 hp6 HG2 HB
            have hgood : ∀ wx fsx, Hid (At w wx fsx (.slice none 0 0) (shut (p3s FS) (p2s F6), []) (k * 2001 + (t.size - (rest.extract (n + 1) rest.size).size))) → Hid (Left w wx fsx (.slice none 0 0) (rest.extract (n + 1) rest.size) G (k * 2001 + (t.size - (rest.extract (n + 1) rest.size).size))) := fun wx fsx h => ⟨_, h.out, HG3.out⟩
            have hes : (rest.extract (n + 1) rest.size).size = rest.size - (n + 1) := by simp
            have hb64 : IntKind.i64.wrap ((n : Int) + 1) = (n : Int) + 1 := IntWalk.i64_in _ (by omega)
            by_cases h6 : F6 = []
            · subst h6
              have HL2 := hgood w6 fsv (by
                refine ⟨vals, FS, [], ?_, ?_, ?_, by simp, fun f hf => by have := HFA.out f hf; rw [hes]; omega⟩
                · have := HC.out
                  exact ⟨this.fs, Row.nil _ _, fun u _ k _ e => by simp [Value.ownBlock] at e, this.old⟩
                · rfl
                · have := HFS.out; rw [hes]; omega)
              simp only [List.length_nil]
              clear hgood HG3
              go_wp2_with fail
              go_quiet (fail)
              go_wp2_with fail
              go_roundw
              case measure => simp [szOf]; omega
              case rel => exact ⟨_, _, _, rfl, rfl, rfl, by omega, HL2.out.below (drew_below _ _)⟩
            · have h6l : (0 : Int) < (F6.length : Int) := by
                have := List.length_pos_iff.2 h6
                omega
              obtain ⟨v8, w8, hrun, hst8⟩ := HC.out.push (by omega) 26
              have HL2 := hgood w8 v8 (by
                refine ⟨_, _, [], hst8, ?_, ?_, by simp, ?_⟩
                · rw [shut_p3, if_neg h6]; rfl
                · have := HFS.out; rw [hes, List.length_append, List.length_singleton]; omega
                · intro f hf
                  have := HFl.out
                  rcases List.mem_append.1 hf with hf | hf
                  · have := HFA.out f hf; rw [hes]; omega
                  · rw [List.mem_singleton] at hf; subst hf; rw [hes]; omega)
              have hrun' : (Builtin.append_ #[26, 26] 26 #[fsv, .slice (some ⟨w6.heap.size, 0, none⟩) 1 1]).run Try.prog (w6.alloc (.cells #[.slice s6 F6.length c6] 22)) = .ok v8 w8 := hrun
              clear hgood HG3 hst8 hrun
              simp only []
              go_wp2_with (at_builtin; refine wpList_run_append _ rfl _ _ 26 26 rfl _ _ rfl rfl hrun' ?_)
              go_quiet (fail)
              go_wp2_with fail
              go_roundw
              case measure => simp [szOf]; omega
              case rel => exact ⟨_, _, _, rfl, rfl, rfl, by omega, HL2.out.below (drew_below _ _)⟩
      · have h1' : (kd == 1) = false := by simpa using h1
        have HG : Hid (runL (p2s (L.take (k + 1))) = ((runL (p2s (L.take k))).1, (runL (p2s (L.take k))).2 ++ [(kd, t.data.toList)])) := by
          rw [Hid, HT.out, runL_snoc, HP.out]; unfold onePart; rw [if_neg h1]
        obtain ⟨W1, hW1⟩ : ∃ W1, wr.alloc (.cells #[.int .i64 kd, .string t, .string ⟨#[]⟩, .string ⟨#[]⟩, .slice wa 0 wc, .bool false] 31) = W1 := ⟨_, rfl⟩
        have HAB : Below wr.heap.size wr W1 := by rw [← hW1]; exact (Below.refl _ _).alloc (Nat.le_refl _) _
        have hz1 : wr.heap.size + 1 = W1.heap.size := by rw [← hW1]; simp
        obtain ⟨vals, FS, F, hst, hp, hFS, hFl, hFA⟩ := (HA.out.below HAB).ex
        have hw0 : Below W1.heap.size W1 (W1.alloc (.cells (lit kd t).cs.toArray 31)) := (Below.refl _ _).alloc (Nat.le_refl _) _
        obtain ⟨v', w', r1, r2, r3, r4⟩ := append_part (W1.alloc (.cells (lit kd t).cs.toArray 31)) w.heap.size fv F (by omega) (hst.f.below hw0) (by have := hw0.size; have := hst.old.size; omega) W1.heap.size 1 (lit kd t) (lit_ok _ _) (lit_new W1 _) 22
        have HC : Hid (At w w' fsv v' (runL (p2s (L.take (k + 1)))) ((k + 1) * 2001)) := by
          rw [HG.out]
          refine ⟨vals, FS, _, (hst.below hw0).grow r2 (Only.of_grown (S := fun i => fv.ownBlock = some i) r3 (fun k hk => hk)) ?_, ?_, ?_, ?_, fun f hf => by have := hFA f hf; omega⟩
          · rcases r4 with e | e
            · exact .inl e
            · exact .inr fun j hj => by rw [e] at hj; cases hj; exact Nat.le_refl _
          · rw [← hp]; unfold p2s; rw [List.map_append]; rfl
          · omega
          · rw [List.length_append, List.length_singleton]; omega
        have r1' : (Builtin.append_ #[22, 22] 22 #[fv, .slice (some ⟨wr.heap.size + 1, 0, none⟩) 1 1]).run Try.prog ((wr.alloc (.cells #[.int .i64 kd, .string t, .string ⟨#[]⟩, .string ⟨#[]⟩, .slice wa 0 wc, .bool false] 31)).alloc (.cells #[.int .i64 kd, .string t, .string ⟨#[]⟩, .string ⟨#[]⟩, .slice none 0 0, .bool false] 31)) = .ok v' w' := by
          rw [hW1, hz1]; exact r1
        clear r1 r2 r3 r4 hst hp hFS hFl hFA hw0 hz1 HAB hW1 HG HP HT
        go_wp2_with fail
        refine wp_scope_straight ?_
        go_wp2_with (at_builtin; refine wpList_run_append _ rfl _ _ 22 22 rfl _ _ rfl rfl r1' ?_)
        simp +zetaDelta only [Exit.noGoto_exit, Exit.inBlock, Exit.then]
        go_wp2_with fail
        go_roundw
        case measure => simp [intOf]; omega
        case rel => exact ⟨k + 1, _, _, by omega, rfl, rfl, rfl, HC.out⟩
    · obtain rfl : k = L.length := by omega
      have hk' : (L.length : Int) < (L.length : Int) ↔ False := by simp
      have HA2 : Hid (At w wr fsv fv (runL (p2s L)) (L.length * 2001)) := by
        have := HA.out
        rw [List.take_length] at this
        exact this
      obtain ⟨vals, FS, F, hst, hp, hFS, hFl, hFA⟩ := HA2.out.ex
      obtain ⟨s6, c6, e6⟩ := hst.f.form
      subst e6
      clear HA HA2
      by_cases h6 : F = []
      · subst h6
        have HE : Hid (SplitR w (splitL (p2s L)) (.returned fsv) wr) := by
          refine ⟨fsv, vals, FS, rfl, hst.fs, ?_, by omega, ?_, hst.old⟩
          · unfold splitL; rw [← hp]; exact (shut_nil _).symm
          · intro f hf; have := hFA f hf; omega
        clear hst hp hFA
        simp only [List.length_nil] at *
        go_wp2_with fail
        go_ret
        exact HE.out
      · have h6l : (0 : Int) < (F.length : Int) := by
          have := List.length_pos_iff.2 h6
          omega
        obtain ⟨v8, w8, hrun, hst8⟩ := hst.push (by omega) 26
        have hrun' : (Builtin.append_ #[26, 26] 26 #[fsv, .slice (some ⟨wr.heap.size, 0, none⟩) 1 1]).run Try.prog (wr.alloc (.cells #[.slice s6 F.length c6] 22)) = .ok v8 w8 := hrun
        have HE : Hid (SplitR w (splitL (p2s L)) (.returned v8) w8) := by
          refine ⟨v8, _, _, rfl, hst8.fs, ?_, by rw [List.length_append, List.length_singleton]; omega, ?_, hst8.old⟩
          · unfold splitL; rw [← hp, shut_p3, if_neg h6]
          · intro f hf
            rcases List.mem_append.1 hf with hf | hf
            · have := hFA f hf; omega
            · rw [List.mem_singleton] at hf; subst hf; omega
        clear hst hst8 hp hrun hFA
        go_wp2_with (at_builtin; refine wpList_run_append _ rfl _ _ 26 26 rfl _ _ rfl rfl hrun' ?_)
        go_ret
        exact HE.out
end Go.Proofs.Ytdkkfcpnfhfjdaa
