import Derived.Test.YthbemfpoanmjcaaDoorU
namespace Go.Proofs.YthbemfpoanmjcaaDoor
set_option linter.unusedVariables false

/-! Chains of names, and what they come to: by the kernel's own reckoning, length by length. -/
def cyA (i : Nat) : Bs := [36, 40, 109] ++ dg i ++ [41]
def cyB (i : Nat) : Bs := [36, 123, 109] ++ dg i ++ [125]
def cyN (n back i : Nat) : Bs := if i + 1 = n then (if back < n then cyB back else [101, 110, 100]) else cyA (i + 1)
def cyL (n back k : Nat) : List Pr := (List.range k).map fun i => (109 :: dg i, 120 :: cyN n back i)
def cyR (n back : Nat) : Bs × Int := if back < n then ([], 18) else (List.replicate n 120 ++ [101, 110, 100], 0)
theorem cyL_succ (n back k : Nat) : cyL n back (k + 1) = cyL n back k ++ [(109 :: dg k, 120 :: cyN n back k)] := by unfold cyL; rw [List.range_succ]; simp
theorem cyc_1 : ∀ b : Fin 2, (expandF (cyL 1 b.val 1) [] 40 [] (cyA 0) 0).1 = cyR 1 b.val := by decide +kernel
theorem cyc_2 : ∀ b : Fin 3, (expandF (cyL 2 b.val 2) [] 40 [] (cyA 0) 0).1 = cyR 2 b.val := by decide +kernel
theorem cyc_3 : ∀ b : Fin 4, (expandF (cyL 3 b.val 3) [] 40 [] (cyA 0) 0).1 = cyR 3 b.val := by decide +kernel
theorem cyc_4 : ∀ b : Fin 5, (expandF (cyL 4 b.val 4) [] 40 [] (cyA 0) 0).1 = cyR 4 b.val := by decide +kernel
theorem cyc_5 : ∀ b : Fin 6, (expandF (cyL 5 b.val 5) [] 40 [] (cyA 0) 0).1 = cyR 5 b.val := by decide +kernel
theorem cyc_6 : ∀ b : Fin 7, (expandF (cyL 6 b.val 6) [] 40 [] (cyA 0) 0).1 = cyR 6 b.val := by decide +kernel
theorem cyc_7 : ∀ b : Fin 8, (expandF (cyL 7 b.val 7) [] 40 [] (cyA 0) 0).1 = cyR 7 b.val := by decide +kernel
theorem cyc_8 : ∀ b : Fin 9, (expandF (cyL 8 b.val 8) [] 40 [] (cyA 0) 0).1 = cyR 8 b.val := by decide +kernel
theorem cyc_9 : ∀ b : Fin 10, (expandF (cyL 9 b.val 9) [] 40 [] (cyA 0) 0).1 = cyR 9 b.val := by decide +kernel
theorem cyc_10 : ∀ b : Fin 11, (expandF (cyL 10 b.val 10) [] 40 [] (cyA 0) 0).1 = cyR 10 b.val := by decide +kernel
theorem cyc_11 : ∀ b : Fin 12, (expandF (cyL 11 b.val 11) [] 40 [] (cyA 0) 0).1 = cyR 11 b.val := by decide +kernel
theorem cyc_12 : ∀ b : Fin 13, (expandF (cyL 12 b.val 12) [] 40 [] (cyA 0) 0).1 = cyR 12 b.val := by decide +kernel
theorem cyc_13 : ∀ b : Fin 14, (expandF (cyL 13 b.val 13) [] 40 [] (cyA 0) 0).1 = cyR 13 b.val := by decide +kernel
theorem cyc_14 : ∀ b : Fin 15, (expandF (cyL 14 b.val 14) [] 40 [] (cyA 0) 0).1 = cyR 14 b.val := by decide +kernel
theorem cyc_15 : ∀ b : Fin 16, (expandF (cyL 15 b.val 15) [] 40 [] (cyA 0) 0).1 = cyR 15 b.val := by decide +kernel
theorem cyc_16 : ∀ b : Fin 17, (expandF (cyL 16 b.val 16) [] 40 [] (cyA 0) 0).1 = cyR 16 b.val := by decide +kernel
theorem cyc_17 : ∀ b : Fin 18, (expandF (cyL 17 b.val 17) [] 40 [] (cyA 0) 0).1 = cyR 17 b.val := by decide +kernel
theorem cyc_18 : ∀ b : Fin 19, (expandF (cyL 18 b.val 18) [] 40 [] (cyA 0) 0).1 = cyR 18 b.val := by decide +kernel
theorem cyc_19 : ∀ b : Fin 20, (expandF (cyL 19 b.val 19) [] 40 [] (cyA 0) 0).1 = cyR 19 b.val := by decide +kernel
theorem cyc_20 : ∀ b : Fin 21, (expandF (cyL 20 b.val 20) [] 40 [] (cyA 0) 0).1 = cyR 20 b.val := by decide +kernel
theorem cyc_21 : ∀ b : Fin 22, (expandF (cyL 21 b.val 21) [] 40 [] (cyA 0) 0).1 = cyR 21 b.val := by decide +kernel
theorem cyc_22 : ∀ b : Fin 23, (expandF (cyL 22 b.val 22) [] 40 [] (cyA 0) 0).1 = cyR 22 b.val := by decide +kernel
theorem cyc_23 : ∀ b : Fin 24, (expandF (cyL 23 b.val 23) [] 40 [] (cyA 0) 0).1 = cyR 23 b.val := by decide +kernel
theorem cyc_24 : ∀ b : Fin 25, (expandF (cyL 24 b.val 24) [] 40 [] (cyA 0) 0).1 = cyR 24 b.val := by decide +kernel
theorem cyc_25 : ∀ b : Fin 26, (expandF (cyL 25 b.val 25) [] 40 [] (cyA 0) 0).1 = cyR 25 b.val := by decide +kernel
theorem cyc_26 : ∀ b : Fin 27, (expandF (cyL 26 b.val 26) [] 40 [] (cyA 0) 0).1 = cyR 26 b.val := by decide +kernel
theorem cyc_27 : ∀ b : Fin 28, (expandF (cyL 27 b.val 27) [] 40 [] (cyA 0) 0).1 = cyR 27 b.val := by decide +kernel
theorem cyc_28 : ∀ b : Fin 29, (expandF (cyL 28 b.val 28) [] 40 [] (cyA 0) 0).1 = cyR 28 b.val := by decide +kernel
theorem cyc_29 : ∀ b : Fin 30, (expandF (cyL 29 b.val 29) [] 40 [] (cyA 0) 0).1 = cyR 29 b.val := by decide +kernel
theorem cyc_30 : ∀ b : Fin 31, (expandF (cyL 30 b.val 30) [] 40 [] (cyA 0) 0).1 = cyR 30 b.val := by decide +kernel
theorem cyc_val (n b : Nat) (h1 : 1 ≤ n) (h2 : n ≤ 30) (hb : b ≤ n) : (expandF (cyL n b n) [] 40 [] (cyA 0) 0).1 = cyR n b := by
  have h : n = 1 ∨ n = 2 ∨ n = 3 ∨ n = 4 ∨ n = 5 ∨ n = 6 ∨ n = 7 ∨ n = 8 ∨ n = 9 ∨ n = 10 ∨ n = 11 ∨ n = 12 ∨ n = 13 ∨ n = 14 ∨ n = 15 ∨ n = 16 ∨ n = 17 ∨ n = 18 ∨ n = 19 ∨ n = 20 ∨ n = 21 ∨ n = 22 ∨ n = 23 ∨ n = 24 ∨ n = 25 ∨ n = 26 ∨ n = 27 ∨ n = 28 ∨ n = 29 ∨ n = 30 := by omega
  rcases h with rfl | rfl | rfl | rfl | rfl | rfl | rfl | rfl | rfl | rfl | rfl | rfl | rfl | rfl | rfl | rfl | rfl | rfl | rfl | rfl | rfl | rfl | rfl | rfl | rfl | rfl | rfl | rfl | rfl | rfl
  · exact cyc_1 ⟨b, by omega⟩
  · exact cyc_2 ⟨b, by omega⟩
  · exact cyc_3 ⟨b, by omega⟩
  · exact cyc_4 ⟨b, by omega⟩
  · exact cyc_5 ⟨b, by omega⟩
  · exact cyc_6 ⟨b, by omega⟩
  · exact cyc_7 ⟨b, by omega⟩
  · exact cyc_8 ⟨b, by omega⟩
  · exact cyc_9 ⟨b, by omega⟩
  · exact cyc_10 ⟨b, by omega⟩
  · exact cyc_11 ⟨b, by omega⟩
  · exact cyc_12 ⟨b, by omega⟩
  · exact cyc_13 ⟨b, by omega⟩
  · exact cyc_14 ⟨b, by omega⟩
  · exact cyc_15 ⟨b, by omega⟩
  · exact cyc_16 ⟨b, by omega⟩
  · exact cyc_17 ⟨b, by omega⟩
  · exact cyc_18 ⟨b, by omega⟩
  · exact cyc_19 ⟨b, by omega⟩
  · exact cyc_20 ⟨b, by omega⟩
  · exact cyc_21 ⟨b, by omega⟩
  · exact cyc_22 ⟨b, by omega⟩
  · exact cyc_23 ⟨b, by omega⟩
  · exact cyc_24 ⟨b, by omega⟩
  · exact cyc_25 ⟨b, by omega⟩
  · exact cyc_26 ⟨b, by omega⟩
  · exact cyc_27 ⟨b, by omega⟩
  · exact cyc_28 ⟨b, by omega⟩
  · exact cyc_29 ⟨b, by omega⟩
  · exact cyc_30 ⟨b, by omega⟩
end Go.Proofs.YthbemfpoanmjcaaDoor
