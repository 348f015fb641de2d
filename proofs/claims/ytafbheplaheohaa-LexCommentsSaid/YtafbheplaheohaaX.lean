import Derived.Test.YtafbheplaheohaaS
import Derived.Test.YtafbheplaheohaaT
namespace Go.Proofs.Ytafbheplaheohaa
open Go.RowKit
set_option linter.unusedVariables false
/-- Where the reading has come to. -/
structure Rel (w wx : World) (B rb pb : Nat) (S : ByteArray) (e : Nat) (q : Bool) (d a : Nat) (p : PS) (a' : Nat) (p' : PS) : Prop where
  rs : Rs w wx B rb pb S a' p'
  ge : a ≤ a'
  sz : p'.sz + (S.size - a') ≤ p.sz + (S.size - a)
  eq : readC e q d p (S.data.toList.drop a) = readC e q d p' (S.data.toList.drop a')
theorem Rel.under {w wx w' : World} {B rb pb : Nat} {S : ByteArray} {e : Nat} {q : Bool} {d a : Nat} {p : PS} {a' : Nat} {p' : PS} (h : Rel w wx B rb pb S e q d a p a' p') (hb : Below wx.heap.size wx w') : Rel w w' B rb pb S e q d a p a' p' := by
  obtain ⟨⟨h1, h2, h3, lv, h4⟩, h5, h6, h7⟩ := h
  exact ⟨⟨h1.under hb, h2, Rb.trans h3 (Rb.of_new hb), lv, h4.under hb⟩, h5, h6, h7⟩
def Bad (w wx : World) (B rb : Nat) (S : ByteArray) (e : Nat) (q : Bool) (d a : Nat) (p : PS) (x : Nat) : Prop := x ≠ 0 ∧ Rb B rb w wx ∧ (∃ a', Rd wx rb S a' ∧ a' ≤ 20000) ∧ readC e q d p (S.data.toList.drop a) = .error x
theorem Rel.step {w w6 w7 : World} {B rb pb : Nat} {S : ByteArray} {e : Nat} {q : Bool} {d a : Nat} {p : PS} {a' a2 : Nat} {p' p2 : PS} (h : Rel w w6 B rb pb S e q d a p a' p') (hlt : a' < S.size) (h7 : Rs w6 w7 B rb pb S a2 p2) (hl : (S.data.toList.drop a2).length ≤ S.size - (a' + 1)) (hsz : p2.sz + (S.data.toList.drop a2).length ≤ p'.sz + (S.size - a')) (heq : readC e q d p' (S.data.toList.drop a') = readC e q d p2 (S.data.toList.drop a2)) : Rel w w7 B rb pb S e q d a p a2 p2 ∧ a' < a2 := by
  have h1 := h7.le
  have h2 := h.ge
  have h3 := h.sz
  rw [List.length_drop, dl] at hl hsz
  exact ⟨⟨⟨h7.rd, h1, Rb.trans h.rs.only h7.only, h7.p⟩, by omega, by omega, h.eq.trans heq⟩, by omega⟩
theorem Rel.bad {w w6 w7 : World} {B rb pb : Nat} {S : ByteArray} {e : Nat} {q : Bool} {d a : Nat} {p : PS} {a' x : Nat} {p' : PS} (h : Rel w w6 B rb pb S e q d a p a' p') (hx : x ≠ 0) (ho : Rb B rb w6 w7) (hr : ∃ a', Rd w7 rb S a' ∧ a' ≤ 20000) (heq : readC e q d p' (S.data.toList.drop a') = .error x) : Bad w w7 B rb S e q d a p x := ⟨hx, Rb.trans h.rs.only ho, hr, h.eq.trans heq⟩
theorem one_c {e d : Nat} {p : PS} {r : Bz} (h : endsB e 39 = false) : readC e false d p (39 :: r) = match singleF p r with
    | .error x => .error x
    | .ok (p', r') => readC e false d p' r' := by
  rw [readC_one h rfl]; unfold singleF
  cases cutAt 39 r with
  | none => rfl
  | some z => rfl
theorem one_sz {p p' : PS} {r t : Bz} (h : singleF p r = .ok (p', t)) : t.length ≤ r.length ∧ p'.sz + t.length ≤ p.sz + r.length := by
  unfold singleF at h
  split at h
  · cases h
  · next t0 r0 e1 =>
    cases h
    have h2 := congrArg List.length (cutAt_eq e1).1
    have h3 := put_sz p.mark 2 t0
    rw [mark_sz] at h3
    simp at h2; omega
theorem two_c {e d : Nat} {p : PS} {r : Bz} (h : endsB e 34 = false) : readC e false d p (34 :: r) = match doubF d p r with
    | .error x => .error x
    | .ok (p', r') => readC e false d p' r' := by
  rw [readC_two h rfl]; unfold doubF
  cases readC 3 true d p.mark r with
  | error x => rfl
  | ok z => obtain ⟨p', t⟩ := z; cases t <;> rfl
theorem two_sz {d : Nat} {p p' : PS} {r t : Bz} (h : doubF d p r = .ok (p', t)) : t.length ≤ r.length ∧ p'.sz + t.length ≤ p.sz + r.length := by
  unfold doubF at h
  split at h
  · cases h
  · cases h
  · next p1 c1 r1 e1 =>
    cases h
    have h1 := readC_len e1
    have h2 := readC_sz e1
    rw [mark_sz] at h2
    simp at h1 h2; omega
theorem doll_sz {q : Bool} {d : Nat} {p p' : PS} {r t : Bz} (h : dollF (wordC q (d + 1)) q d p r = .ok (p', t)) : t.length ≤ r.length ∧ p'.sz + t.length ≤ p.sz + r.length + 1 := 
  ⟨dollF_len (fun t w r _ hw => wordC_len hw) h, dollF_sz (fun t w r _ hw => wordC_len hw) h⟩
def mea (rb : Nat) (er : Value) (wx : World) : Nat := if intOf er = 0 then (match wx.cell? ⟨rb, 1, none⟩ with | some v => 20001 - (intOf v).toNat | none => 0) else 0
theorem mea_at {rb a : Nat} {wx : World} {S : ByteArray} (h : Rd wx rb S a) : mea rb (.int .i64 0) wx = 20001 - a := by
  have : wx.cell? ⟨rb, 1, none⟩ = some (.int .i64 a) := cell_of h 1
  simp [mea, intOf, this]
theorem mea_bad {rb x : Nat} {wx : World} (h : x ≠ 0) : mea rb (.int .i64 x) wx = 0 := by
  have : (x : Int) ≠ 0 := by omega
  exact if_neg this
set_option maxRecDepth 100000 in
set_option maxHeartbeats 8000000 in
theorem read_step {w : World} {B rb pb a : Nat} {lv : Value} {p : PS} {S : ByteArray} (e : Nat) (q : Bool) (d : Nat) (he : e ≤ 3) (hd : d + (S.size - a) ≤ 100000) (hp : PAt w B pb lv p) (hz : p.sz + (S.size - a) ≤ 60000) (hB : B ≤ w.heap.size) (hr : Rd w rb S a) (hrb : rb < B) (ha : a ≤ S.size) (hs : S.size ≤ 20000)
    (ih : ∀ m, m < S.size - a → RP m) : ReadAt w rb pb S e q d B a p := by
  unfold ReadAt
  obtain ⟨Q, hQ⟩ : ∃ Q, GoP w B rb pb S (readC e q d p (S.data.toList.drop a)) = Q := ⟨_, rfl⟩
  rw [hQ]
  have HQ := Lib.hid hQ
  have HR0 : Hid (Rel w w B rb pb S e q d a p a p) := ⟨⟨hr, ha, Only.refl _ _, lv, hp⟩, Nat.le_refl _, Nat.le_refl _, rfl⟩
  have HEND : Hid (∀ wx a' p', Rel w wx B rb pb S e q d a p a' p' → readC e q d p' (S.data.toList.drop a') = .ok (p', S.data.toList.drop a') → Q (.returned (.int .i64 0)) wx) := fun wx a' p' h h2 => by
    rw [← HQ.out, h.eq, h2]; exact ⟨rfl, a', h.rs, rfl⟩
  have HBAD : Hid (∀ wx x, Bad w wx B rb S e q d a p x → Q (.returned (.int .i64 x)) wx) := fun wx x h => by
    rw [← HQ.out, h.2.2.2]; exact ⟨rfl, h.1, h.2.1, h.2.2.1⟩
  obtain ⟨kq, hkq⟩ : ∃ kq : Nat, (if q then 2 else 1) = kq := ⟨_, rfl⟩
  clear hQ hp hr
  cases q with
  | false =>
    go_enter Try.func33, Try.ntmps33
    go_wp2_with fail
    refine wp_scope_straight ?_
    go_wp2_with fail
    refine wp_label ?_
    go_wp2_with fail
    go_loopw [12] (fun er wx => ∃ x : Nat, er = .int .i64 x ∧ ((x = 0 ∧ ∃ a' p', Hid (Rel w wx B rb pb S e false d a p a' p')) ∨ (x ≠ 0 ∧ Hid (Bad w wx B rb S e false d a p x)))) (fun er wx => mea rb er wx)
    case atStart => exact ⟨0, rfl, .inl ⟨rfl, a, p, HR0.out⟩⟩
    case round =>
      obtain ⟨x, rfl, ⟨rfl, a', p', HR⟩ | ⟨hx0, HB⟩⟩ := hrel
      · have hrd := HR.out.rs.rd
        have hle := HR.out.rs.le
        have q0 : wr.cell? ⟨rb, 0, none⟩ = some (.string S) := cell_of hrd 0
        have q1 : wr.cell? ⟨rb, 1, none⟩ = some (.int .i64 a') := cell_of hrd 1
        have f1 := free_of hrd 1
        clear hrd
        by_cases hlt : a' < S.size
        · have hltI : (a' : Int) < (S.size : Int) := by omega
          have hltd : decide ((a' : Int) < (S.size : Int)) = true := decide_eq_true hltI
          have ha0 : (0 : Int) ≤ (a' : Int) := by omega
          have hat := data_get S a' hlt
          obtain ⟨c, hc⟩ : ∃ c, S[a']'hlt = c := ⟨_, rfl⟩
          rw [hc] at hat
          have HDR := Lib.hid (at_drop hat)
          go_wp2_with fail
          go_quiet (fail)
          have hbn := drew_below wr nq
          obtain ⟨w5, hw5⟩ : ∃ wv, World.drewN wr nq = wv := ⟨_, rfl⟩
          rw [hw5] at hbn ⊢
          have HR5 := Lib.hid (HR.out.under hbn)
          clear hw5 hbn q0 q1 f1
          have q0 : w5.cell? ⟨rb, 0, none⟩ = some (.string S) := cell_of HR5.out.rs.rd 0
          have q1 : w5.cell? ⟨rb, 1, none⟩ = some (.int .i64 a') := cell_of HR5.out.rs.rd 1
          have f1 := free_of HR5.out.rs.rd 1
          go_wp2_with fail
          go_quiet (fail)
          have hbn := drew_below w5 nq
          obtain ⟨w6, hw5⟩ : ∃ wv, World.drewN w5 nq = wv := ⟨_, rfl⟩
          rw [hw5] at hbn ⊢
          have HR6 := Lib.hid (HR5.out.under hbn)
          clear hw5 hbn q0 q1 f1
          have q0 : w6.cell? ⟨rb, 0, none⟩ = some (.string S) := cell_of HR6.out.rs.rd 0
          have q1 : w6.cell? ⟨rb, 1, none⟩ = some (.int .i64 a') := cell_of HR6.out.rs.rd 1
          have f1 := free_of HR6.out.rs.rd 1
          go_wp2_with fail
          have HEN := Lib.hid (fun w => ends_any e c w he)
          cases hee : endsB e c with
          | true =>
            rw [hee] at HEN
            go_wp2_with (go_at_call 45; refine (HEN.out _).mono ?_; rintro e w7 ⟨rfl, h7⟩; obtain rfl := h7.symm; simp only [])
            refine HEND.out _ a' p' HR6.out ?_
            rw [HDR.out]
            exact readC_end hee
          | false =>
            rw [hee] at HEN
            have h92 := byte_eq c 92
            rw [show ((92 : UInt8).toNat : Int) = 92 from rfl] at h92
            have h39 := byte_eq c 39
            rw [show ((39 : UInt8).toNat : Int) = 39 from rfl] at h39
            have h34 := byte_eq c 34
            rw [show ((34 : UInt8).toNat : Int) = 34 from rfl] at h34
            have h36 := byte_eq c 36
            rw [show ((36 : UInt8).toNat : Int) = 36 from rfl] at h36
            have h96 := byte_eq c 96
            rw [show ((96 : UInt8).toNat : Int) = 96 from rfl] at h96
            obtain ⟨lv', hpa⟩ := HR6.out.rs.p
            have HPA := Lib.hid hpa
            have hB6 : B ≤ w6.heap.size := by have := HR6.out.rs.only.size; omega
            have hsz6 := HR6.out.sz
            have hge6 := HR6.out.ge
            clear hpa
            by_cases e92 : c = 92
            · skip
              have hz92 : ((c.toNat : Int) == 92) = true := by rw [h92, e92]; rfl
              clear h92 h39 h34 h36 h96
              have HESC := Lib.hid (escape_any false HPA.out (by omega) hB6 HR6.out.rs.rd hrb hlt hs)
              unfold EscP at HESC
              have HCC : Hid (readC e false d p' (S.data.toList.drop a') = readC e false d (escF false p' (S.data.toList.drop (a' + 1))).1 (escF false p' (S.data.toList.drop (a' + 1))).2) := by rw [Hid, HDR.out]; exact readC_esc hee e92
              have HSZ : Hid ((escF false p' (S.data.toList.drop (a' + 1))).2.length ≤ S.size - (a' + 1) ∧ (escF false p' (S.data.toList.drop (a' + 1))).1.sz + (escF false p' (S.data.toList.drop (a' + 1))).2.length ≤ p'.sz + (S.size - a')) := by
                have h1 := escF_sz false p' (S.data.toList.drop (a' + 1))
                have h2 := escF_len false p' (S.data.toList.drop (a' + 1))
                rw [List.length_drop, dl] at h1 h2
                exact ⟨h2, by omega⟩
              generalize escF false p' (S.data.toList.drop (a' + 1)) = r at HESC HCC HSZ
              obtain ⟨p2, t⟩ := r
              go_wp2_with (first
                | (go_at_call 45; refine (HEN.out _).mono ?_; rintro e w7 ⟨rfl, h7⟩; obtain rfl := h7.symm; simp only [])
                | (go_at_call 46; refine HESC.out.mono ?_; rintro e w7 ⟨rfl, a2, hrs, hdr⟩; have HST := Lib.hid (HR6.out.step hlt hrs (by rw [hdr]; exact HSZ.out.1) (by rw [hdr]; exact HSZ.out.2) (by rw [hdr]; exact HCC.out)); clear hrs hdr; simp only []))
              go_roundw
              case measure => change mea rb (.int .i64 (0 : Int)) w7 < mea rb (.int .i64 (0 : Int)) wr; rw [mea_at HST.out.1.rs.rd, mea_at HR.out.rs.rd]; have := HST.out.2; have := HST.out.1.rs.le; omega
              case rel => exact ⟨0, rfl, .inl ⟨rfl, a2, _, HST.out.1⟩⟩
            have hz92 : ((c.toNat : Int) == 92) = false := by rw [h92]; simpa using e92
            by_cases e39 : c = 39
            · have hz39 : ((c.toNat : Int) == 39) = true := by rw [h39, e39]; rfl
              clear h92 h39 h34 h36 h96
              have HC0 := Lib.hid (single_any HPA.out (by omega) hB6 HR6.out.rs.rd hrb hlt hs)
              have HCC : Hid (readC e false d p' (S.data.toList.drop a') = match singleF p' (S.data.toList.drop (a' + 1)) with
                | .error x => .error x
                | .ok (p', r') => readC e false d p' r') := by rw [Hid, HDR.out, e39]; exact one_c (by rw [← e39]; exact hee)
              have HSZ : Hid (∀ p2 t, singleF p' (S.data.toList.drop (a' + 1)) = .ok (p2, t) → t.length ≤ S.size - (a' + 1) ∧ p2.sz + t.length ≤ p'.sz + (S.size - a')) := fun p2 t h => by
                have h1 := one_sz h
                rw [List.length_drop, dl] at h1
                omega
              generalize singleF p' (S.data.toList.drop (a' + 1)) = r at HC0 HCC HSZ
              unfold GoP at HC0
              rcases r with x | ⟨p2, t⟩
              · simp only at HC0 HCC
                unfold ErrP at HC0
                go_wp2_with (first
                  | (go_at_call 45; refine (HEN.out _).mono ?_; rintro e w7 ⟨rfl, h7⟩; obtain rfl := h7.symm; simp only [])
                  | (go_at_call 47; refine HC0.out.mono ?_; rintro e w7 ⟨rfl, hx0, ho, hrr⟩; have HX0 := Lib.hid hx0; have HBB := Lib.hid (HR6.out.bad hx0 ho hrr HCC.out); clear hx0 ho hrr; simp only []))
                go_roundw
                case measure => change mea rb (.int .i64 (x : Int)) w7 < mea rb (.int .i64 (0 : Int)) wr; rw [mea_bad HX0.out, mea_at HR.out.rs.rd]; omega
                case rel => exact ⟨x, rfl, .inr ⟨HX0.out, HBB.out⟩⟩
              · simp only at HC0 HCC
                go_wp2_with (first
                  | (go_at_call 45; refine (HEN.out _).mono ?_; rintro e w7 ⟨rfl, h7⟩; obtain rfl := h7.symm; simp only [])
                  | (go_at_call 47; refine HC0.out.mono ?_; rintro e w7 ⟨rfl, a2, hrs, hdr⟩; have HST := Lib.hid (HR6.out.step hlt hrs (by rw [hdr]; exact (HSZ.out _ _ rfl).1) (by rw [hdr]; exact (HSZ.out _ _ rfl).2) (by rw [hdr]; exact HCC.out)); clear hrs hdr; simp only []))
                go_roundw
                case measure => change mea rb (.int .i64 (0 : Int)) w7 < mea rb (.int .i64 (0 : Int)) wr; rw [mea_at HST.out.1.rs.rd, mea_at HR.out.rs.rd]; have := HST.out.2; have := HST.out.1.rs.le; omega
                case rel => exact ⟨0, rfl, .inl ⟨rfl, a2, _, HST.out.1⟩⟩
            have hz39 : ((c.toNat : Int) == 39) = false := by rw [h39]; simpa using e39
            by_cases e34 : c = 34
            · have hz34 : ((c.toNat : Int) == 34) = true := by rw [h34, e34]; rfl
              clear h92 h39 h34 h36 h96
              have HC0 := Lib.hid (double_any d HPA.out hB6 HR6.out.rs.rd hrb hlt hs (fun w1 lv1 k1 k2 k3 => ih (S.size - (a' + 1)) (by omega) w1 B rb pb (a' + 1) lv1 p'.mark S 3 true d rfl (by decide) (by omega) k1 (by rw [mark_sz]; omega) k2 k3 hrb (by omega) hs))
              have HCC : Hid (readC e false d p' (S.data.toList.drop a') = match doubF d p' (S.data.toList.drop (a' + 1)) with
                | .error x => .error x
                | .ok (p', r') => readC e false d p' r') := by rw [Hid, HDR.out, e34]; exact two_c (by rw [← e34]; exact hee)
              have HSZ : Hid (∀ p2 t, doubF d p' (S.data.toList.drop (a' + 1)) = .ok (p2, t) → t.length ≤ S.size - (a' + 1) ∧ p2.sz + t.length ≤ p'.sz + (S.size - a')) := fun p2 t h => by
                have h1 := two_sz h
                rw [List.length_drop, dl] at h1
                omega
              generalize doubF d p' (S.data.toList.drop (a' + 1)) = r at HC0 HCC HSZ
              unfold GoP at HC0
              rcases r with x | ⟨p2, t⟩
              · simp only at HC0 HCC
                unfold ErrP at HC0
                go_wp2_with (first
                  | (go_at_call 45; refine (HEN.out _).mono ?_; rintro e w7 ⟨rfl, h7⟩; obtain rfl := h7.symm; simp only [])
                  | (go_at_call 48; refine HC0.out.mono ?_; rintro e w7 ⟨rfl, hx0, ho, hrr⟩; have HX0 := Lib.hid hx0; have HBB := Lib.hid (HR6.out.bad hx0 ho hrr HCC.out); clear hx0 ho hrr; simp only []))
                go_roundw
                case measure => change mea rb (.int .i64 (x : Int)) w7 < mea rb (.int .i64 (0 : Int)) wr; rw [mea_bad HX0.out, mea_at HR.out.rs.rd]; omega
                case rel => exact ⟨x, rfl, .inr ⟨HX0.out, HBB.out⟩⟩
              · simp only at HC0 HCC
                go_wp2_with (first
                  | (go_at_call 45; refine (HEN.out _).mono ?_; rintro e w7 ⟨rfl, h7⟩; obtain rfl := h7.symm; simp only [])
                  | (go_at_call 48; refine HC0.out.mono ?_; rintro e w7 ⟨rfl, a2, hrs, hdr⟩; have HST := Lib.hid (HR6.out.step hlt hrs (by rw [hdr]; exact (HSZ.out _ _ rfl).1) (by rw [hdr]; exact (HSZ.out _ _ rfl).2) (by rw [hdr]; exact HCC.out)); clear hrs hdr; simp only []))
                go_roundw
                case measure => change mea rb (.int .i64 (0 : Int)) w7 < mea rb (.int .i64 (0 : Int)) wr; rw [mea_at HST.out.1.rs.rd, mea_at HR.out.rs.rd]; have := HST.out.2; have := HST.out.1.rs.le; omega
                case rel => exact ⟨0, rfl, .inl ⟨rfl, a2, _, HST.out.1⟩⟩
            have hz34 : ((c.toNat : Int) == 34) = false := by rw [h34]; simpa using e34
            by_cases e36 : c = 36
            · have hz36 : ((c.toNat : Int) == 36) = true := by rw [h36, e36]; rfl
              clear h92 h39 h34 h36 h96
              have HC0 := Lib.hid (dollar_any false d (by omega) HPA.out (by omega) hB6 HR6.out.rs.rd hrb hlt hs (fun w1 a1 k1 k2 k3 => word_of (ih _ (by omega)) false (d + 1) 2 (by decide) (by omega) k1 k3 hs))
              have HCC : Hid (readC e false d p' (S.data.toList.drop a') = match dollF (wordC false (d + 1)) false d p' (S.data.toList.drop (a' + 1)) with
                | .error x => .error x
                | .ok (p', r') => readC e false d p' r') := by rw [Hid, HDR.out, e36]; exact readC_doll (by rw [← e36]; exact hee)
              have HSZ : Hid (∀ p2 t, dollF (wordC false (d + 1)) false d p' (S.data.toList.drop (a' + 1)) = .ok (p2, t) → t.length ≤ S.size - (a' + 1) ∧ p2.sz + t.length ≤ p'.sz + (S.size - a')) := fun p2 t h => by
                have h1 := doll_sz h
                rw [List.length_drop, dl] at h1
                omega
              generalize dollF (wordC false (d + 1)) false d p' (S.data.toList.drop (a' + 1)) = r at HC0 HCC HSZ
              unfold GoP at HC0
              rcases r with x | ⟨p2, t⟩
              · simp only at HC0 HCC
                unfold ErrP at HC0
                go_wp2_with (first
                  | (go_at_call 45; refine (HEN.out _).mono ?_; rintro e w7 ⟨rfl, h7⟩; obtain rfl := h7.symm; simp only [])
                  | (go_at_call 49; refine HC0.out.mono ?_; rintro e w7 ⟨rfl, hx0, ho, hrr⟩; have HX0 := Lib.hid hx0; have HBB := Lib.hid (HR6.out.bad hx0 ho hrr HCC.out); clear hx0 ho hrr; simp only []))
                go_roundw
                case measure => change mea rb (.int .i64 (x : Int)) w7 < mea rb (.int .i64 (0 : Int)) wr; rw [mea_bad HX0.out, mea_at HR.out.rs.rd]; omega
                case rel => exact ⟨x, rfl, .inr ⟨HX0.out, HBB.out⟩⟩
              · simp only at HC0 HCC
                go_wp2_with (first
                  | (go_at_call 45; refine (HEN.out _).mono ?_; rintro e w7 ⟨rfl, h7⟩; obtain rfl := h7.symm; simp only [])
                  | (go_at_call 49; refine HC0.out.mono ?_; rintro e w7 ⟨rfl, a2, hrs, hdr⟩; have HST := Lib.hid (HR6.out.step hlt hrs (by rw [hdr]; exact (HSZ.out _ _ rfl).1) (by rw [hdr]; exact (HSZ.out _ _ rfl).2) (by rw [hdr]; exact HCC.out)); clear hrs hdr; simp only []))
                go_roundw
                case measure => change mea rb (.int .i64 (0 : Int)) w7 < mea rb (.int .i64 (0 : Int)) wr; rw [mea_at HST.out.1.rs.rd, mea_at HR.out.rs.rd]; have := HST.out.2; have := HST.out.1.rs.le; omega
                case rel => exact ⟨0, rfl, .inl ⟨rfl, a2, _, HST.out.1⟩⟩
            have hz36 : ((c.toNat : Int) == 36) = false := by rw [h36]; simpa using e36
            by_cases e96 : c = 96
            · have hz96 : ((c.toNat : Int) == 96) = true := by rw [h96, e96]; rfl
              clear h92 h39 h34 h36 h96
              have HBB := Lib.hid (HR6.out.bad (x := 2) (by decide) (Only.refl _ w6) ⟨a', HR6.out.rs.rd, by omega⟩ (by rw [HDR.out]; exact readC_bad hee (.inl e96)))
              go_wp2_with (go_at_call 45; refine (HEN.out _).mono ?_; rintro e w7 ⟨rfl, h7⟩; obtain rfl := h7.symm; simp only [])
              go_roundw
              case measure => change mea rb (.int .i64 ((2 : Nat) : Int)) w6 < mea rb (.int .i64 (0 : Int)) wr; rw [mea_bad (by decide), mea_at HR.out.rs.rd]; omega
              case rel => exact ⟨2, rfl, .inr ⟨by decide, HBB.out⟩⟩
            have hz96 : ((c.toNat : Int) == 96) = false := by rw [h96]; simpa using e96
            clear h92 h39 h34 h36 h96
            have hC := ext_dt (t := S) (a := a') (b := a' + 1) (by omega) (by omega)
            obtain ⟨C, hCC⟩ : ∃ C, S.extract a' (a' + 1) = C := ⟨_, rfl⟩
            rw [hCC] at hC
            have hCd : C.data.toList = [c] := by
              rw [hC.1, List.drop_take, HDR.out, show a' + 1 - a' = 1 by omega]; rfl
            have hCs : C.size = 1 := by rw [hC.2]; omega
            have hI1 : (a' : Int) + 1 ≤ (S.size : Int) := by omega
            have hI2 : (a' : Int) ≤ (a' : Int) + 1 := by omega
            have hwr : IntKind.i64.wrap ((a' : Int) + 1) = (a' : Int) + 1 := IntWalk.i64_in _ (by omega)
            have HCC : Hid (readC e false d p' (S.data.toList.drop a') = readC e false d (p'.put 1 [c]) (S.data.toList.drop (a' + 1))) := by rw [Hid, HDR.out]; exact readC_else hee e92 (fun h => e39 h.1) e34 e36 e96
            have HPUT : Hid (∀ w7, Below w6.heap.size w6 w7 → Calls Try.prog 50 #[.pointer (some ⟨pb, 0, none⟩), .int .i64 1, .string C] w7 fun e w' => e = .returned (.tuple #[]) ∧ Rd w' rb S a' ∧ ∃ lv', PAt w' B pb lv' (p'.put 1 [c]) ∧ Below B w6 w') := fun w7 hb => by
              have h := put_any (HPA.out.under hb) (by omega) (Nat.le_trans hB6 hb.size) 1 C (by omega)
              rw [hCd] at h
              refine h.mono ?_
              rintro e w' ⟨rfl, lv2, k1, k2, _⟩
              exact ⟨rfl, (HR6.out.rs.rd.under hb).below k2 hrb, lv2, k1, (hb.mono hB6).trans k2⟩
            have hpsz := put_sz p' 1 [c]
            clear hC hCd
            go_wp2_with (go_at_call 45; refine (HEN.out _).mono ?_; rintro e w7 ⟨rfl, h7⟩; obtain rfl := h7.symm; simp only [])
            go_still_tail 16, (by kernel_rfl)
            change wpList _ _ _ _ _ w6.drew
            go_wp2_with (go_at_call 50; refine (HPUT.out _ (Below.refl _ _).drew).mono ?_; rintro e w8 ⟨rfl, hrd8, hpa8⟩; have q1 : w8.cell? ⟨rb, 1, none⟩ = some (.int .i64 a') := cell_of hrd8 1; have f1 := free_of hrd8 1; have HRD8 := Lib.hid hrd8; have HPA8 := Lib.hid hpa8; clear hrd8 hpa8; simp only [])
            have HST : Hid (Rel w (w8.setCell ⟨rb, 1, none⟩ (.int .i64 ((a' : Int) + 1))) B rb pb S e false d a p (a' + 1) (p'.put 1 [c]) ∧ a' < a' + 1) := by
              obtain ⟨lv8, k1, k2⟩ := HPA8.out
              refine HR6.out.step hlt ⟨HRD8.out.setI (a' + 1) (by omega), by omega, Rb.trans (Rb.of_below k2 hB6) (Rb.set _ _ _), lv8, k1.rd HRD8.out 1 _⟩ ?_ ?_ HCC.out
              · rw [List.length_drop, dl]; exact Nat.le_refl _
              · rw [List.length_drop, dl]; simp at hpsz; omega
            go_roundw
            case measure => change mea rb (.int .i64 (0 : Int)) (w8.setCell ⟨rb, 1, none⟩ (.int .i64 ((a' : Int) + 1))) < mea rb (.int .i64 (0 : Int)) wr; rw [mea_at HST.out.1.rs.rd, mea_at HR.out.rs.rd]; omega
            case rel => exact ⟨0, rfl, .inl ⟨rfl, a' + 1, _, HST.out.1⟩⟩
        · have hltd : decide ((a' : Int) < (S.size : Int)) = false := decide_eq_false (by omega)
          go_wp2_with fail
          go_quiet (fail)
          have hbn := drew_below wr nq
          obtain ⟨w5, hw5⟩ : ∃ wv, World.drewN wr nq = wv := ⟨_, rfl⟩
          rw [hw5] at hbn ⊢
          have HR5 := Lib.hid (HR.out.under hbn)
          clear hw5 hbn q0 q1 f1
          have q0 : w5.cell? ⟨rb, 0, none⟩ = some (.string S) := cell_of HR5.out.rs.rd 0
          have q1 : w5.cell? ⟨rb, 1, none⟩ = some (.int .i64 a') := cell_of HR5.out.rs.rd 1
          have f1 := free_of HR5.out.rs.rd 1
          go_wp2_with fail
          refine HEND.out _ a' p' HR5.out ?_
          rw [List.drop_of_length_le (by rw [dl]; omega)]
          exact readC_nil
      · obtain ⟨a', hrd, _⟩ := HB.out.2.2.1
        have q0 : wr.cell? ⟨rb, 0, none⟩ = some (.string S) := cell_of hrd 0
        have q1 : wr.cell? ⟨rb, 1, none⟩ = some (.int .i64 a') := cell_of hrd 1
        have hxI : ((x : Int) == 0) = false := beq_eq_false_iff_ne.2 (by omega)
        clear hrd
        by_cases hlt : a' < S.size
        · have hltI : (a' : Int) < (S.size : Int) := by omega
          have hltd : decide ((a' : Int) < (S.size : Int)) = true := decide_eq_true hltI
          go_wp2_with fail
          go_quiet (fail)
          go_wp2_with fail
          refine HBAD.out _ x ⟨hx0, Rb.trans HB.out.2.1 (Rb.of_new (drew_below _ _)), ?_, HB.out.2.2.2⟩
          obtain ⟨a2, h1, h2⟩ := HB.out.2.2.1
          exact ⟨a2, h1.under (drew_below _ _), h2⟩
        · have hltd : decide ((a' : Int) < (S.size : Int)) = false := decide_eq_false (by omega)
          go_wp2_with fail
          go_quiet (fail)
          go_wp2_with fail
          refine HBAD.out _ x ⟨hx0, Rb.trans HB.out.2.1 (Rb.of_new (drew_below _ _)), ?_, HB.out.2.2.2⟩
          obtain ⟨a2, h1, h2⟩ := HB.out.2.2.1
          exact ⟨a2, h1.under (drew_below _ _), h2⟩
  | true =>
    go_enter Try.func33, Try.ntmps33
    go_wp2_with fail
    refine wp_scope_straight ?_
    go_wp2_with fail
    refine wp_label ?_
    go_wp2_with fail
    go_loopw [12] (fun er wx => ∃ x : Nat, er = .int .i64 x ∧ ((x = 0 ∧ ∃ a' p', Hid (Rel w wx B rb pb S e true d a p a' p')) ∨ (x ≠ 0 ∧ Hid (Bad w wx B rb S e true d a p x)))) (fun er wx => mea rb er wx)
    case atStart => exact ⟨0, rfl, .inl ⟨rfl, a, p, HR0.out⟩⟩
    case round =>
      obtain ⟨x, rfl, ⟨rfl, a', p', HR⟩ | ⟨hx0, HB⟩⟩ := hrel
      · have hrd := HR.out.rs.rd
        have hle := HR.out.rs.le
        have q0 : wr.cell? ⟨rb, 0, none⟩ = some (.string S) := cell_of hrd 0
        have q1 : wr.cell? ⟨rb, 1, none⟩ = some (.int .i64 a') := cell_of hrd 1
        have f1 := free_of hrd 1
        clear hrd
        by_cases hlt : a' < S.size
        · have hltI : (a' : Int) < (S.size : Int) := by omega
          have hltd : decide ((a' : Int) < (S.size : Int)) = true := decide_eq_true hltI
          have ha0 : (0 : Int) ≤ (a' : Int) := by omega
          have hat := data_get S a' hlt
          obtain ⟨c, hc⟩ : ∃ c, S[a']'hlt = c := ⟨_, rfl⟩
          rw [hc] at hat
          have HDR := Lib.hid (at_drop hat)
          go_wp2_with fail
          go_quiet (fail)
          have hbn := drew_below wr nq
          obtain ⟨w5, hw5⟩ : ∃ wv, World.drewN wr nq = wv := ⟨_, rfl⟩
          rw [hw5] at hbn ⊢
          have HR5 := Lib.hid (HR.out.under hbn)
          clear hw5 hbn q0 q1 f1
          have q0 : w5.cell? ⟨rb, 0, none⟩ = some (.string S) := cell_of HR5.out.rs.rd 0
          have q1 : w5.cell? ⟨rb, 1, none⟩ = some (.int .i64 a') := cell_of HR5.out.rs.rd 1
          have f1 := free_of HR5.out.rs.rd 1
          go_wp2_with fail
          go_quiet (fail)
          have hbn := drew_below w5 nq
          obtain ⟨w6, hw5⟩ : ∃ wv, World.drewN w5 nq = wv := ⟨_, rfl⟩
          rw [hw5] at hbn ⊢
          have HR6 := Lib.hid (HR5.out.under hbn)
          clear hw5 hbn q0 q1 f1
          have q0 : w6.cell? ⟨rb, 0, none⟩ = some (.string S) := cell_of HR6.out.rs.rd 0
          have q1 : w6.cell? ⟨rb, 1, none⟩ = some (.int .i64 a') := cell_of HR6.out.rs.rd 1
          have f1 := free_of HR6.out.rs.rd 1
          go_wp2_with fail
          have HEN := Lib.hid (fun w => ends_any e c w he)
          cases hee : endsB e c with
          | true =>
            rw [hee] at HEN
            go_wp2_with (go_at_call 45; refine (HEN.out _).mono ?_; rintro e w7 ⟨rfl, h7⟩; obtain rfl := h7.symm; simp only [])
            refine HEND.out _ a' p' HR6.out ?_
            rw [HDR.out]
            exact readC_end hee
          | false =>
            rw [hee] at HEN
            have h92 := byte_eq c 92
            rw [show ((92 : UInt8).toNat : Int) = 92 from rfl] at h92
            have h39 := byte_eq c 39
            rw [show ((39 : UInt8).toNat : Int) = 39 from rfl] at h39
            have h34 := byte_eq c 34
            rw [show ((34 : UInt8).toNat : Int) = 34 from rfl] at h34
            have h36 := byte_eq c 36
            rw [show ((36 : UInt8).toNat : Int) = 36 from rfl] at h36
            have h96 := byte_eq c 96
            rw [show ((96 : UInt8).toNat : Int) = 96 from rfl] at h96
            obtain ⟨lv', hpa⟩ := HR6.out.rs.p
            have HPA := Lib.hid hpa
            have hB6 : B ≤ w6.heap.size := by have := HR6.out.rs.only.size; omega
            have hsz6 := HR6.out.sz
            have hge6 := HR6.out.ge
            clear hpa
            by_cases e92 : c = 92
            · skip
              have hz92 : ((c.toNat : Int) == 92) = true := by rw [h92, e92]; rfl
              clear h92 h39 h34 h36 h96
              have HESC := Lib.hid (escape_any true HPA.out (by omega) hB6 HR6.out.rs.rd hrb hlt hs)
              unfold EscP at HESC
              have HCC : Hid (readC e true d p' (S.data.toList.drop a') = readC e true d (escF true p' (S.data.toList.drop (a' + 1))).1 (escF true p' (S.data.toList.drop (a' + 1))).2) := by rw [Hid, HDR.out]; exact readC_esc hee e92
              have HSZ : Hid ((escF true p' (S.data.toList.drop (a' + 1))).2.length ≤ S.size - (a' + 1) ∧ (escF true p' (S.data.toList.drop (a' + 1))).1.sz + (escF true p' (S.data.toList.drop (a' + 1))).2.length ≤ p'.sz + (S.size - a')) := by
                have h1 := escF_sz true p' (S.data.toList.drop (a' + 1))
                have h2 := escF_len true p' (S.data.toList.drop (a' + 1))
                rw [List.length_drop, dl] at h1 h2
                exact ⟨h2, by omega⟩
              generalize escF true p' (S.data.toList.drop (a' + 1)) = r at HESC HCC HSZ
              obtain ⟨p2, t⟩ := r
              go_wp2_with (first
                | (go_at_call 45; refine (HEN.out _).mono ?_; rintro e w7 ⟨rfl, h7⟩; obtain rfl := h7.symm; simp only [])
                | (go_at_call 46; refine HESC.out.mono ?_; rintro e w7 ⟨rfl, a2, hrs, hdr⟩; have HST := Lib.hid (HR6.out.step hlt hrs (by rw [hdr]; exact HSZ.out.1) (by rw [hdr]; exact HSZ.out.2) (by rw [hdr]; exact HCC.out)); clear hrs hdr; simp only []))
              go_roundw
              case measure => change mea rb (.int .i64 (0 : Int)) w7 < mea rb (.int .i64 (0 : Int)) wr; rw [mea_at HST.out.1.rs.rd, mea_at HR.out.rs.rd]; have := HST.out.2; have := HST.out.1.rs.le; omega
              case rel => exact ⟨0, rfl, .inl ⟨rfl, a2, _, HST.out.1⟩⟩
            have hz92 : ((c.toNat : Int) == 92) = false := by rw [h92]; simpa using e92
            by_cases e39 : c = 39
            · skip
              have hz39 : ((c.toNat : Int) == 39) = true := by rw [h39, e39]; rfl
              have hz34 : ((c.toNat : Int) == 34) = false := by rw [h34, e39]; rfl
              have hz36 : ((c.toNat : Int) == 36) = false := by rw [h36, e39]; rfl
              have hz96 : ((c.toNat : Int) == 96) = false := by rw [h96, e39]; rfl
              clear h92 h39 h34 h36 h96
              have hC := ext_dt (t := S) (a := a') (b := a' + 1) (by omega) (by omega)
              obtain ⟨C, hCC⟩ : ∃ C, S.extract a' (a' + 1) = C := ⟨_, rfl⟩
              rw [hCC] at hC
              have hCd : C.data.toList = [c] := by
                rw [hC.1, List.drop_take, HDR.out, show a' + 1 - a' = 1 by omega]; rfl
              have hCs : C.size = 1 := by rw [hC.2]; omega
              have hI1 : (a' : Int) + 1 ≤ (S.size : Int) := by omega
              have hI2 : (a' : Int) ≤ (a' : Int) + 1 := by omega
              have hwr : IntKind.i64.wrap ((a' : Int) + 1) = (a' : Int) + 1 := IntWalk.i64_in _ (by omega)
              have HCC : Hid (readC e true d p' (S.data.toList.drop a') = readC e true d (p'.put 2 [c]) (S.data.toList.drop (a' + 1))) := by rw [Hid, HDR.out]; exact readC_else hee e92 (fun h => by cases h.2) (by rw [e39]; decide) (by rw [e39]; decide) (by rw [e39]; decide)
              have HPUT : Hid (∀ w7, Below w6.heap.size w6 w7 → Calls Try.prog 50 #[.pointer (some ⟨pb, 0, none⟩), .int .i64 2, .string C] w7 fun e w' => e = .returned (.tuple #[]) ∧ Rd w' rb S a' ∧ ∃ lv', PAt w' B pb lv' (p'.put 2 [c]) ∧ Below B w6 w') := fun w7 hb => by
                have h := put_any (HPA.out.under hb) (by omega) (Nat.le_trans hB6 hb.size) 2 C (by omega)
                rw [hCd] at h
                refine h.mono ?_
                rintro e w' ⟨rfl, lv2, k1, k2, _⟩
                exact ⟨rfl, (HR6.out.rs.rd.under hb).below k2 hrb, lv2, k1, (hb.mono hB6).trans k2⟩
              have hpsz := put_sz p' 2 [c]
              clear hC hCd
              go_wp2_with (go_at_call 45; refine (HEN.out _).mono ?_; rintro e w7 ⟨rfl, h7⟩; obtain rfl := h7.symm; simp only [])
              go_still_tail 16, (by kernel_rfl)
              change wpList _ _ _ _ _ w6.drew
              go_wp2_with (go_at_call 50; refine (HPUT.out _ (Below.refl _ _).drew).mono ?_; rintro e w8 ⟨rfl, hrd8, hpa8⟩; have q1 : w8.cell? ⟨rb, 1, none⟩ = some (.int .i64 a') := cell_of hrd8 1; have f1 := free_of hrd8 1; have HRD8 := Lib.hid hrd8; have HPA8 := Lib.hid hpa8; clear hrd8 hpa8; simp only [])
              have HST : Hid (Rel w (w8.setCell ⟨rb, 1, none⟩ (.int .i64 ((a' : Int) + 1))) B rb pb S e true d a p (a' + 1) (p'.put 2 [c]) ∧ a' < a' + 1) := by
                obtain ⟨lv8, k1, k2⟩ := HPA8.out
                refine HR6.out.step hlt ⟨HRD8.out.setI (a' + 1) (by omega), by omega, Rb.trans (Rb.of_below k2 hB6) (Rb.set _ _ _), lv8, k1.rd HRD8.out 1 _⟩ ?_ ?_ HCC.out
                · rw [List.length_drop, dl]; exact Nat.le_refl _
                · rw [List.length_drop, dl]; simp at hpsz; omega
              go_roundw
              case measure => change mea rb (.int .i64 (0 : Int)) (w8.setCell ⟨rb, 1, none⟩ (.int .i64 ((a' : Int) + 1))) < mea rb (.int .i64 (0 : Int)) wr; rw [mea_at HST.out.1.rs.rd, mea_at HR.out.rs.rd]; omega
              case rel => exact ⟨0, rfl, .inl ⟨rfl, a' + 1, _, HST.out.1⟩⟩
            have hz39 : ((c.toNat : Int) == 39) = false := by rw [h39]; simpa using e39
            by_cases e34 : c = 34
            · have hz34 : ((c.toNat : Int) == 34) = true := by rw [h34, e34]; rfl
              have hz36 : ((c.toNat : Int) == 36) = false := by rw [h36, e34]; rfl
              clear h92 h39 h34 h36 h96
              have HBB := Lib.hid (HR6.out.bad (x := 2) (by decide) (Only.refl _ w6) ⟨a', HR6.out.rs.rd, by omega⟩ (by rw [HDR.out]; exact readC_bad hee (.inr ⟨e34, rfl⟩)))
              go_wp2_with (go_at_call 45; refine (HEN.out _).mono ?_; rintro e w7 ⟨rfl, h7⟩; obtain rfl := h7.symm; simp only [])
              go_roundw
              case measure => change mea rb (.int .i64 ((2 : Nat) : Int)) w6 < mea rb (.int .i64 (0 : Int)) wr; rw [mea_bad (by decide), mea_at HR.out.rs.rd]; omega
              case rel => exact ⟨2, rfl, .inr ⟨by decide, HBB.out⟩⟩
            have hz34 : ((c.toNat : Int) == 34) = false := by rw [h34]; simpa using e34
            by_cases e36 : c = 36
            · have hz36 : ((c.toNat : Int) == 36) = true := by rw [h36, e36]; rfl
              clear h92 h39 h34 h36 h96
              have HC0 := Lib.hid (dollar_any true d (by omega) HPA.out (by omega) hB6 HR6.out.rs.rd hrb hlt hs (fun w1 a1 k1 k2 k3 => word_of (ih _ (by omega)) true (d + 1) 2 (by decide) (by omega) k1 k3 hs))
              have HCC : Hid (readC e true d p' (S.data.toList.drop a') = match dollF (wordC true (d + 1)) true d p' (S.data.toList.drop (a' + 1)) with
                | .error x => .error x
                | .ok (p', r') => readC e true d p' r') := by rw [Hid, HDR.out, e36]; exact readC_doll (by rw [← e36]; exact hee)
              have HSZ : Hid (∀ p2 t, dollF (wordC true (d + 1)) true d p' (S.data.toList.drop (a' + 1)) = .ok (p2, t) → t.length ≤ S.size - (a' + 1) ∧ p2.sz + t.length ≤ p'.sz + (S.size - a')) := fun p2 t h => by
                have h1 := doll_sz h
                rw [List.length_drop, dl] at h1
                omega
              generalize dollF (wordC true (d + 1)) true d p' (S.data.toList.drop (a' + 1)) = r at HC0 HCC HSZ
              unfold GoP at HC0
              rcases r with x | ⟨p2, t⟩
              · simp only at HC0 HCC
                unfold ErrP at HC0
                go_wp2_with (first
                  | (go_at_call 45; refine (HEN.out _).mono ?_; rintro e w7 ⟨rfl, h7⟩; obtain rfl := h7.symm; simp only [])
                  | (go_at_call 49; refine HC0.out.mono ?_; rintro e w7 ⟨rfl, hx0, ho, hrr⟩; have HX0 := Lib.hid hx0; have HBB := Lib.hid (HR6.out.bad hx0 ho hrr HCC.out); clear hx0 ho hrr; simp only []))
                go_roundw
                case measure => change mea rb (.int .i64 (x : Int)) w7 < mea rb (.int .i64 (0 : Int)) wr; rw [mea_bad HX0.out, mea_at HR.out.rs.rd]; omega
                case rel => exact ⟨x, rfl, .inr ⟨HX0.out, HBB.out⟩⟩
              · simp only at HC0 HCC
                go_wp2_with (first
                  | (go_at_call 45; refine (HEN.out _).mono ?_; rintro e w7 ⟨rfl, h7⟩; obtain rfl := h7.symm; simp only [])
                  | (go_at_call 49; refine HC0.out.mono ?_; rintro e w7 ⟨rfl, a2, hrs, hdr⟩; have HST := Lib.hid (HR6.out.step hlt hrs (by rw [hdr]; exact (HSZ.out _ _ rfl).1) (by rw [hdr]; exact (HSZ.out _ _ rfl).2) (by rw [hdr]; exact HCC.out)); clear hrs hdr; simp only []))
                go_roundw
                case measure => change mea rb (.int .i64 (0 : Int)) w7 < mea rb (.int .i64 (0 : Int)) wr; rw [mea_at HST.out.1.rs.rd, mea_at HR.out.rs.rd]; have := HST.out.2; have := HST.out.1.rs.le; omega
                case rel => exact ⟨0, rfl, .inl ⟨rfl, a2, _, HST.out.1⟩⟩
            have hz36 : ((c.toNat : Int) == 36) = false := by rw [h36]; simpa using e36
            by_cases e96 : c = 96
            · have hz96 : ((c.toNat : Int) == 96) = true := by rw [h96, e96]; rfl
              clear h92 h39 h34 h36 h96
              have HBB := Lib.hid (HR6.out.bad (x := 2) (by decide) (Only.refl _ w6) ⟨a', HR6.out.rs.rd, by omega⟩ (by rw [HDR.out]; exact readC_bad hee (.inl e96)))
              go_wp2_with (go_at_call 45; refine (HEN.out _).mono ?_; rintro e w7 ⟨rfl, h7⟩; obtain rfl := h7.symm; simp only [])
              go_roundw
              case measure => change mea rb (.int .i64 ((2 : Nat) : Int)) w6 < mea rb (.int .i64 (0 : Int)) wr; rw [mea_bad (by decide), mea_at HR.out.rs.rd]; omega
              case rel => exact ⟨2, rfl, .inr ⟨by decide, HBB.out⟩⟩
            have hz96 : ((c.toNat : Int) == 96) = false := by rw [h96]; simpa using e96
            clear h92 h39 h34 h36 h96
            have hC := ext_dt (t := S) (a := a') (b := a' + 1) (by omega) (by omega)
            obtain ⟨C, hCC⟩ : ∃ C, S.extract a' (a' + 1) = C := ⟨_, rfl⟩
            rw [hCC] at hC
            have hCd : C.data.toList = [c] := by
              rw [hC.1, List.drop_take, HDR.out, show a' + 1 - a' = 1 by omega]; rfl
            have hCs : C.size = 1 := by rw [hC.2]; omega
            have hI1 : (a' : Int) + 1 ≤ (S.size : Int) := by omega
            have hI2 : (a' : Int) ≤ (a' : Int) + 1 := by omega
            have hwr : IntKind.i64.wrap ((a' : Int) + 1) = (a' : Int) + 1 := IntWalk.i64_in _ (by omega)
            have HCC : Hid (readC e true d p' (S.data.toList.drop a') = readC e true d (p'.put 2 [c]) (S.data.toList.drop (a' + 1))) := by rw [Hid, HDR.out]; exact readC_else hee e92 (fun h => e39 h.1) e34 e36 e96
            have HPUT : Hid (∀ w7, Below w6.heap.size w6 w7 → Calls Try.prog 50 #[.pointer (some ⟨pb, 0, none⟩), .int .i64 2, .string C] w7 fun e w' => e = .returned (.tuple #[]) ∧ Rd w' rb S a' ∧ ∃ lv', PAt w' B pb lv' (p'.put 2 [c]) ∧ Below B w6 w') := fun w7 hb => by
              have h := put_any (HPA.out.under hb) (by omega) (Nat.le_trans hB6 hb.size) 2 C (by omega)
              rw [hCd] at h
              refine h.mono ?_
              rintro e w' ⟨rfl, lv2, k1, k2, _⟩
              exact ⟨rfl, (HR6.out.rs.rd.under hb).below k2 hrb, lv2, k1, (hb.mono hB6).trans k2⟩
            have hpsz := put_sz p' 2 [c]
            clear hC hCd
            go_wp2_with (go_at_call 45; refine (HEN.out _).mono ?_; rintro e w7 ⟨rfl, h7⟩; obtain rfl := h7.symm; simp only [])
            go_still_tail 16, (by kernel_rfl)
            change wpList _ _ _ _ _ w6.drew
            go_wp2_with (go_at_call 50; refine (HPUT.out _ (Below.refl _ _).drew).mono ?_; rintro e w8 ⟨rfl, hrd8, hpa8⟩; have q1 : w8.cell? ⟨rb, 1, none⟩ = some (.int .i64 a') := cell_of hrd8 1; have f1 := free_of hrd8 1; have HRD8 := Lib.hid hrd8; have HPA8 := Lib.hid hpa8; clear hrd8 hpa8; simp only [])
            have HST : Hid (Rel w (w8.setCell ⟨rb, 1, none⟩ (.int .i64 ((a' : Int) + 1))) B rb pb S e true d a p (a' + 1) (p'.put 2 [c]) ∧ a' < a' + 1) := by
              obtain ⟨lv8, k1, k2⟩ := HPA8.out
              refine HR6.out.step hlt ⟨HRD8.out.setI (a' + 1) (by omega), by omega, Rb.trans (Rb.of_below k2 hB6) (Rb.set _ _ _), lv8, k1.rd HRD8.out 1 _⟩ ?_ ?_ HCC.out
              · rw [List.length_drop, dl]; exact Nat.le_refl _
              · rw [List.length_drop, dl]; simp at hpsz; omega
            go_roundw
            case measure => change mea rb (.int .i64 (0 : Int)) (w8.setCell ⟨rb, 1, none⟩ (.int .i64 ((a' : Int) + 1))) < mea rb (.int .i64 (0 : Int)) wr; rw [mea_at HST.out.1.rs.rd, mea_at HR.out.rs.rd]; omega
            case rel => exact ⟨0, rfl, .inl ⟨rfl, a' + 1, _, HST.out.1⟩⟩
        · have hltd : decide ((a' : Int) < (S.size : Int)) = false := decide_eq_false (by omega)
          go_wp2_with fail
          go_quiet (fail)
          have hbn := drew_below wr nq
          obtain ⟨w5, hw5⟩ : ∃ wv, World.drewN wr nq = wv := ⟨_, rfl⟩
          rw [hw5] at hbn ⊢
          have HR5 := Lib.hid (HR.out.under hbn)
          clear hw5 hbn q0 q1 f1
          have q0 : w5.cell? ⟨rb, 0, none⟩ = some (.string S) := cell_of HR5.out.rs.rd 0
          have q1 : w5.cell? ⟨rb, 1, none⟩ = some (.int .i64 a') := cell_of HR5.out.rs.rd 1
          have f1 := free_of HR5.out.rs.rd 1
          go_wp2_with fail
          refine HEND.out _ a' p' HR5.out ?_
          rw [List.drop_of_length_le (by rw [dl]; omega)]
          exact readC_nil
      · obtain ⟨a', hrd, _⟩ := HB.out.2.2.1
        have q0 : wr.cell? ⟨rb, 0, none⟩ = some (.string S) := cell_of hrd 0
        have q1 : wr.cell? ⟨rb, 1, none⟩ = some (.int .i64 a') := cell_of hrd 1
        have hxI : ((x : Int) == 0) = false := beq_eq_false_iff_ne.2 (by omega)
        clear hrd
        by_cases hlt : a' < S.size
        · have hltI : (a' : Int) < (S.size : Int) := by omega
          have hltd : decide ((a' : Int) < (S.size : Int)) = true := decide_eq_true hltI
          go_wp2_with fail
          go_quiet (fail)
          go_wp2_with fail
          refine HBAD.out _ x ⟨hx0, Rb.trans HB.out.2.1 (Rb.of_new (drew_below _ _)), ?_, HB.out.2.2.2⟩
          obtain ⟨a2, h1, h2⟩ := HB.out.2.2.1
          exact ⟨a2, h1.under (drew_below _ _), h2⟩
        · have hltd : decide ((a' : Int) < (S.size : Int)) = false := decide_eq_false (by omega)
          go_wp2_with fail
          go_quiet (fail)
          go_wp2_with fail
          refine HBAD.out _ x ⟨hx0, Rb.trans HB.out.2.1 (Rb.of_new (drew_below _ _)), ?_, HB.out.2.2.2⟩
          obtain ⟨a2, h1, h2⟩ := HB.out.2.2.1
          exact ⟨a2, h1.under (drew_below _ _), h2⟩
end Go.Proofs.Ytafbheplaheohaa
