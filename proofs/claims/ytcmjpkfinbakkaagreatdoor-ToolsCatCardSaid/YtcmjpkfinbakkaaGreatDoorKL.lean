import Derived.Test.YtcmjpkfinbakkaaGreatDoorKJ
import Derived.Test.YtcmjpkfinbakkaaGreatDoorKB
namespace Go.Proofs.YtcmjpkfinbakkaaGreatDoor
open Go.RowKit Go.ChangeShapes Go.WideShapes
set_option linter.unusedVariables false
set_option maxRecDepth 100000

theorem dec_one (k : Nat) (h : k < 10) : (⟨#[102]⟩ : ByteArray) ++ ⟨(Lib.decDigits k).toArray⟩ = fN k ∧ (⟨(Lib.decDigits k).toArray⟩ : ByteArray).size = 1 := by
  match k, h with
  | 0, _ | 1, _ | 2, _ | 3, _ | 4, _ | 5, _ | 6, _ | 7, _ | 8, _ | 9, _ => decide +kernel
theorem fP_eq (k : Nat) : (⟨#[47]⟩ : ByteArray) ++ fN k = fP k := by
  refine ba_ext ?_
  rw [ba_app]; rfl
theorem conv_bin {w : World} {u : Value} {bs : Bz} (h : InB w u bs) : (convert 41 9 u).run Tryz.prog w = .ok (.string ⟨bs.toArray⟩) w := by
  rcases h with ⟨rfl, rfl⟩ | ⟨a, c, rfl, hb, _⟩
  · rw [run_convert_bytes_string (P := Tryz.prog) w 41 9 5 none 0 0 Tryz.underlying41 Tryz.underlying5 Tryz.underlying9]; rfl
  · exact run_convert_bytes_back (P := Tryz.prog) w 41 9 5 a c bs Tryz.underlying41 Tryz.underlying5 Tryz.underlying9 fun j hj => hb j _ (u8s_at hj)
theorem Bin.later {w wx : World} {v : Value} {bs : Bz} (h : Vf.Bin w v bs) (hb : Below w.heap.size w wx) : Vf.Bin wx v bs := by
  obtain ⟨ua, uc, hv, hcell⟩ := h
  refine ⟨ua, uc, hv, fun j hj => ?_⟩
  obtain ⟨g, o, k1, k2, k3⟩ := hcell j hj
  exact ⟨g, o, k1, Nat.lt_of_lt_of_le k2 hb.size, (hb.cell (p := ⟨g, _, none⟩) k2).trans k3⟩
theorem Bin.inb_below {w wx : World} {v : Value} {bs : Bz} (h : Vf.Bin w v bs) (h2 : InB w v bs) (hb : Below w.heap.size w wx) : InB wx v bs := by
  rcases h2 with h2 | ⟨a, c, rfl, hby, hc⟩
  · exact .inl h2
  · refine .inr ⟨a, c, rfl, fun j x hj => ?_, hc⟩
    have hjl : j < bs.length := by
      by_cases hh : j < bs.length
      · exact hh
      · rw [List.getElem?_eq_none (by rw [u8s_len]; omega)] at hj; cases hj
    obtain ⟨a', c', e, hcell⟩ := h
    injection e with e
    obtain ⟨g, o, k1, k2, k3⟩ := hcell j hjl
    rw [← e] at k1
    injection k1 with k1
    have := hby j x hj
    rw [k1, addn] at this ⊢
    exact (hb.cell (p := ⟨g, _, none⟩) k2).trans this
/-- A row of bytes of a row that came in, there and in later worlds. -/
theorem Bss.at {w : World} {a : Option Addr} {n c : Nat} {ls : Nat → Bz} (h : Bss w (.slice a n c) n ls) {i : Nat} (hi : i < n) :
    ∃ b off ua uc, a = some ⟨b, off, none⟩ ∧ (∀ wx, Below w.heap.size w wx → wx.cell? ⟨b, off + i, none⟩ = some (.slice ua (ls i).length uc) ∧ Vf.Bin wx (.slice ua (ls i).length uc) (ls i) ∧ InB wx (.slice ua (ls i).length uc) (ls i)) ∧ ∀ g, 0 < (ls i).length → Value.ownBlock (.slice ua (ls i).length uc) = some g → g < w.heap.size := by
  obtain ⟨a', c', h1, h2⟩ := h.form
  injection h1 with h1
  subst h1
  obtain ⟨b, off, u, e1, e2, e3, e4, e5, e6⟩ := h2 i hi
  have e4' := e4
  obtain ⟨ua, uc, rfl, hcell⟩ := e4
  refine ⟨b, off, ua, uc, e1, fun wx hb => ⟨(hb.cell (p := ⟨b, _, none⟩) e2).trans e3, Bin.later e4' hb, Bin.inb_below e4' e5 hb⟩, fun g h0 hg => ?_⟩
  obtain ⟨g', o, rfl, k2, k3⟩ := hcell 0 h0
  injection hg with hg
  exact hg ▸ k2
theorem Bls.at {w : World} {a : Option Addr} {c : Nat} {l : List Bool} (h : Bls w (.slice a l.length c) l) {i : Nat} (hi : i < l.length) :
    ∃ b off, a = some ⟨b, off, none⟩ ∧ ∀ wx, Below w.heap.size w wx → wx.cell? ⟨b, off + i, none⟩ = some (.bool l[i]) := by
  obtain ⟨a', c', h1, h2⟩ := h.form
  injection h1 with h1
  subst h1
  obtain ⟨b, off, e1, e2, e3⟩ := h2 i hi
  exact ⟨b, off, e1, fun wx hb => (hb.cell (p := ⟨b, _, none⟩) e2).trans e3⟩
set_option maxHeartbeats 8000000 in
theorem cat_no (a0 a1 a2 : Option Addr) (n c0 g c1 m c2 : Nat) (W : World) (h : 10 < n ∨ g < n ∨ 200 < m) :
    Calls Tryz.prog 11 #[.slice a0 n c0, .slice a1 g c1, .slice a2 m c2] W fun e w' => e = .returned (.bool true) ∧ Below W.heap.size W w' := by
  have HA := Lib.hid (alive_any W)
  by_cases h1 : 10 < n
  · have d1 : decide ((10 : Int) < (n : Int)) = true := decide_eq_true (by omega)
    clear h
    go_enter Tryz.func11, Tryz.ntmps11
    go_wp2_with (go_at_call 22; refine HA.out.mono ?_; rintro e w5 ⟨rfl, h5⟩; have HB := Lib.hid h5; clear h5; simp only [])
    go_ret
    exact ⟨rfl, HB.out⟩
  · have d1 : decide ((10 : Int) < (n : Int)) = false := decide_eq_false (by omega)
    by_cases h2 : g < n
    · have d2 : decide ((g : Int) < (n : Int)) = true := decide_eq_true (by omega)
      clear h
      go_enter Tryz.func11, Tryz.ntmps11
      go_wp2_with (go_at_call 22; refine HA.out.mono ?_; rintro e w5 ⟨rfl, h5⟩; have HB := Lib.hid h5; clear h5; simp only [])
      go_ret
      exact ⟨rfl, HB.out⟩
    · have d2 : decide ((g : Int) < (n : Int)) = false := decide_eq_false (by omega)
      have d3 : decide ((200 : Int) < (m : Int)) = true := decide_eq_true (by omega)
      clear h
      go_enter Tryz.func11, Tryz.ntmps11
      go_wp2_with (go_at_call 22; refine HA.out.mono ?_; rintro e w5 ⟨rfl, h5⟩; have HB := Lib.hid h5; clear h5; simp only [])
      go_ret
      exact ⟨rfl, HB.out⟩
def CnP (c : Vf.Cn) (N k : Nat) : Prop := N ≤ k ∧ c.nodes = 20 ∧ c.bytes = 5000 ∧ 0 ≤ c.count ∧ c.count ≤ k ∧ 0 ≤ c.size ∧ c.size ≤ 200 * k ∧ 0 ≤ c.clock ∧ c.clock ≤ k
theorem CnP.ok {c : Vf.Cn} {N k : Nat} (h : CnP c N k) (hk : k ≤ 10) : c.Ok := by
  obtain ⟨h1, h2, h3, h4, h5, h6, h7, h8, h9⟩ := h
  exact ⟨by omega, by omega, by omega, by omega, by omega⟩
/-- cat, at the end of ToolsCat. -/
theorem run_last {B : Nat} {w : World} {N f : Nat} {c : Vf.Cn} {T : Vf.Tr} {v v2 : Value} {n : Nat} {ls : Nat → Bz} {gl : List Bool} {inb : Bz} (h : CatW B w N f c T v (catL n ++ [dash])) (hT : CatT ls gl n T) (hn : n ≤ 10) (hls : ∀ j < n, (ls j).length ≤ 200) (hin : inb.length ≤ 200) (hi : ∀ wx, Below w.heap.size w wx → InB wx v2 inb) :
    Calls Tryz.prog 23 #[.pointer (some ⟨f, 0, none⟩), .string ⟨#[47]⟩, .string ⟨#[99, 97, 116]⟩, v, v2] w (RunU (catA ls gl inb n (n + 1)).1 (catA ls gl inb n (n + 1)).2.1 (catA ls gl inb n (n + 1)).2.2 w) := by
  have hL : (catL n ++ [dash]).length = n + 1 := by simp [catL_len]
  refine run_cat (.pointer (some ⟨f, 0, none⟩)) ⟨#[47]⟩ v v2 _ _ _ w ⟨_, rfl⟩ ?_ ?_ fun t w1 hb hB hTl => ?_
  · obtain ⟨a, c, rfl, _⟩ := h.txt.form
    exact ⟨_, _, _, rfl⟩
  · rcases hi w (Below.refl _ _) with ⟨rfl, _⟩ | ⟨a, c, rfl, _⟩
    · exact ⟨_, _, _, rfl⟩
    · exact ⟨_, _, _, rfl⟩
  have key := cat_any (w.heap.size + 1) t (.pointer (some ⟨f, 0, none⟩)) ⟨#[47]⟩ v2 inb v (catL n ++ [dash]) (catR ls gl inb n) w1 hTl hB (by omega) (by omega)
    (fun wx hx => h.txt.below (hb.trans (hx.mono (by omega))))
    (fun wx hx => hi wx (hb.trans (hx.mono (by omega))))
    (fun k hk hd => by
      unfold catR
      by_cases hkn : k < n
      · rw [catL_get n hkn] at hd
        exact absurd hd (fN_dash k)
      · rw [if_neg hkn])
    (fun k hk hd wx st o l s m hTx hbx => by
      have hbw : Below w.heap.size w wx := hb.trans (hbx.mono (by omega))
      have hkn : k < n := by
        by_cases hkn : k < n
        · exact hkn
        · have e : k = n := by rw [hL] at hk; omega
          subst e
          rw [catL_last] at hd
          exact absurd rfl hd
      rw [catL_get n hkn]
      have habs := fN_abs k (by omega)
      have hfp : (⟨(([47, 102, UInt8.ofNat (48 + k)] : Bz)).toArray⟩ : ByteArray) = fP k := rfl
      by_cases hg : gl.getD k false = true
      · have hR : catR ls gl inb n k = ([], 6) := by unfold catR; rw [if_pos hkn, if_pos hg]
        rw [hR]
        refine Vf.read_tool hTx (fN k) (by decide) (by rw [fN_size]; omega) _ habs [] 6 fun w2 hb2 => ?_
        rw [hfp]
        have hsx := (h.sx.below hbw).below hb2
        have hp := hT.pres0 hkn (by omega) hg
        have := Vf.Read_sx_err hsx (fP_path k (by omega)).2.2 (by rw [hp]; decide)
        rw [hp] at this
        exact this
      · have hg' : gl.getD k false = false := by simpa using hg
        have hR : catR ls gl inb n k = (ls k, 0) := by unfold catR; rw [if_pos hkn, hg']; rfl
        rw [hR]
        refine Vf.read_tool hTx (fN k) (by decide) (by rw [fN_size]; omega) _ habs (ls k) 0 fun w2 hb2 => ?_
        rw [hfp]
        have hsx := (h.sx.below hbw).below hb2
        obtain ⟨tm, htm⟩ := hT.has k hkn (by omega) hg'
        refine Vf.Read_sx hsx (fP_path k (by omega)).2.2 (fP_E T (by omega)) (n := ⟨true, ls k, tm⟩) (by rw [(fP_path k (by omega)).1]; exact htm) rfl ?_
        have := hls k hkn
        simp only; omega)
    (fun k hk => by
      by_cases hkn : k < n
      · rw [catL_get n hkn, fN_size]
        unfold catR
        rw [if_pos hkn]
        have := hls k hkn
        split
        · exact ⟨by simp, by decide, by omega⟩
        · exact ⟨by simp only; omega, by simp, by omega⟩
      · have e : k = n := by rw [hL] at hk; omega
        subst e
        rw [catL_last]
        unfold catR
        rw [if_neg hkn]
        exact ⟨by simp only; omega, by simp, by decide⟩)
  rw [hL] at key
  exact key
end Go.Proofs.YtcmjpkfinbakkaaGreatDoor
