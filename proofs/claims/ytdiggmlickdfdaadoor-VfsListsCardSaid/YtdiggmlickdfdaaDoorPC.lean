import Derived.Test.YtdiggmlickdfdaaDoorPB
namespace Go.Proofs.YtdiggmlickdfdaaDoor
open Go.RowKit

set_option maxRecDepth 100000 in
set_option maxHeartbeats 8000000 in
theorem PutString_nil (x : Bs) (w : World) :
    Calls Tryd.prog 16 #[.slice none 0 0, encStr x] w fun e w' => ∃ v', e = .returned v' ∧ SlN w w' (.slice none 0 0) v' [] (putS [] x) ∧ Below w.heap.size w w' := by
  obtain ⟨i0, hi, hz0, hz1, hz2⟩ := info_parts info9
  have hsf := slice_nil_from
  have hst := slice_nil_to
  go_enter Tryd.func16, Tryd.ntmps16
  go_wp2_with fail
  go_loop [5] (fun a => a = .int .i64 0) (fun _ => 0)
  case atStart => rfl
  case round =>
    obtain rfl := hrel
    go_wp2_with (at_builtin; refine wpList_append_own _ rfl _ _ 29 rfl w.heap.size 9 i0 (.string ⟨#[]⟩) 1 16 Tryd.underlying29 hi hz0 hz1 hz2 rfl (by decide) _ _ _ rfl (World.ownsRow_nil _ _ _ _) ⟨w.heap.size, 0, none⟩ 1 1 [encStr x] rfl rfl (fun j u hj => by match j, hj with | 0, hj => simp at hj; subst hj; simp [Addr.add]) (fun u hu => by simp at hu; subst hu; rfl) (by unfold maxLen; omega) (by omega) (by simp) ?_)
    intro vc w3 hown3 hg3 _
    have hB3 : Below w.heap.size w w3 := ((Below.refl _ w).alloc (Nat.le_refl _) _).grown hg3 (by simp) (fun j hj => by simp [Value.ownBlock] at hj)
    obtain ⟨gc, cc, rfl, hgc, _⟩ := hown3.form (by omega)
    go_wp2_with (at_builtin; refine wpList_append_own_none rfl _ _ 29 rfl w.heap.size 9 i0 1 Tryd.underlying29 hi _ _ _ rfl hown3 rfl ?_)
    have HF : Hid (SlN w w3 (.slice none 0 0) (.slice (some ⟨gc, 0, none⟩) 1 cc) [] (putS [] x) ∧ Below w.heap.size w w3) := by
      refine ⟨SlN.own (B := w.heap.size) ?_ (Nat.le_refl _), hB3⟩
      simpa [putS] using hown3
    go_wp2_with fail
    go_ret
    exact ⟨_, rfl, HF.out⟩

theorem PutString_any (v : Value) (L : List Bs) (x : Bs) (w : World) (hv : SlS w v L) (hL : L.length ≤ 100000) :
    Calls Tryd.prog 16 #[v, encStr x] w fun e w' => ∃ v', e = .returned v' ∧ SlN w w' v v' L (putS L x) ∧ Below w.heap.size w w' := by
  rcases hv with ⟨rfl, rfl⟩ | ⟨g, off, c, rfl, h1, h2, h3, h4⟩
  · exact PutString_nil x w
  · exact PutString_some g off c L x w hL h1 h2 h3 h4
theorem putS_len (L : List Bs) (x : Bs) : (putS L x).length ≤ L.length + 1 := by
  simp only [putS]
  split
  · omega
  · simp; omega
end Go.Proofs.YtdiggmlickdfdaaDoor
