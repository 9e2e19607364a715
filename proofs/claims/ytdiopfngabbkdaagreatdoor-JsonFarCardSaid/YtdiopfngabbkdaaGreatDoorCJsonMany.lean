/-
  TEXT JsonMany (seat's own).
-/
import Derived.Test.YtdiopfngabbkdaaGreatDoorCJsonOpen
import Derived.Test.YtdiopfngabbkdaaGreatDoorN4
set_option linter.unusedSimpArgs false
set_option linter.unusedVariables false
set_option linter.unusedVariables false
namespace Go.Proofs.YtdiopfngabbkdaaGreatDoor
open Go.RowKit
def kM : List ByteArray → Int → Int
  | [], n => n
  | k :: t, n => if 0 ≤ n then kM t (n - (k.size : Int) / 8) else n
mutual
def manyV : JV → Int → Int → Int
  | .mk k t ks l, n, d => if n - 1 - (ks.length : Int) < 0 ∨ d ≤ 0 then -1 else manyL l (kM ks (n - 1 - (ks.length : Int) - (t.size : Int) / 8)) (d - 1)
def manyL : List JV → Int → Int → Int
  | [], n, _ => n
  | v :: t, n, d => if 0 ≤ n then manyL t (manyV v n d) d else n
end
theorem manyL_neg {l : List JV} {n d : Int} (h : n < 0) : manyL l n d = n := by
  cases l with
  | nil => simp only [manyL]
  | cons v t => simp only [manyL]; rw [if_neg (by omega)]
theorem kM_rng : ∀ (ks : List ByteArray) (n : Int), (∀ k ∈ ks, k.size ≤ maxLen) → -1152921504606846976 ≤ n → n ≤ 2000 → -1152921504606846976 ≤ kM ks n ∧ kM ks n ≤ 2000
  | [], n, _, h0, h1 => ⟨h0, h1⟩
  | k :: t, n, hk, h0, h1 => by
    rw [kM]
    split
    · have := hk k (List.mem_cons_self ..)
      unfold maxLen at this
      exact kM_rng t _ (fun x hx => hk x (List.mem_cons_of_mem _ hx)) (by omega) (by omega)
    · exact ⟨h0, h1⟩
mutual
theorem manyV_rng : ∀ (v : JV) (n d : Int), bndV v → 0 ≤ n → n ≤ 2000 → -1152921504606846976 ≤ manyV v n d ∧ manyV v n d ≤ 2000
  | .mk k t ks l, n, d, hb, h0, h1 => by
    simp only [bndV] at hb
    simp only [manyV]
    split
    · omega
    · have h2 := hb.1
      unfold maxLen at h2
      have h3 := kM_rng ks (n - 1 - (ks.length : Int) - (t.size : Int) / 8) hb.2.1 (by omega) (by omega)
      exact manyL_rng l _ _ hb.2.2.2.2 h3.1 h3.2
theorem manyL_rng : ∀ (l : List JV) (n d : Int), bndL l → -1152921504606846976 ≤ n → n ≤ 2000 → -1152921504606846976 ≤ manyL l n d ∧ manyL l n d ≤ 2000
  | [], n, d, _, h0, h1 => by simp only [manyL]; exact ⟨h0, h1⟩
  | v :: t, n, d, hb, h0, h1 => by
    simp only [bndL] at hb
    simp only [manyL]
    split
    · rename_i hn
      have := manyV_rng v n d hb.1 hn h1
      exact manyL_rng t _ d hb.2 this.1 this.2
    · exact ⟨h0, h1⟩
end
def eK (ks : List ByteArray) : Nat := (ks.map fun k => k.size / 8).sum
mutual
def e8V : JV → Nat
  | .mk _ t ks l => t.size / 8 + eK ks + e8L l
def e8L : List JV → Nat
  | [] => 0
  | v :: t => e8V v + e8L t
end
theorem kM_eq : ∀ (ks : List ByteArray) (n : Int), 0 ≤ kM ks n → kM ks n = n - (eK ks : Nat)
  | [], n, _ => by simp [kM, eK]
  | k :: t, n, h => by
    rw [kM] at h ⊢
    by_cases hn : 0 ≤ n
    · rw [if_pos hn] at h ⊢
      rw [kM_eq t _ h]
      simp only [eK, List.map_cons, List.sum_cons]
      omega
    · rw [if_neg hn] at h
      omega
mutual
theorem manyV_eq : ∀ (v : JV) (n d : Int), 0 ≤ manyV v n d → manyV v n d = n - (sizeV v + keysV v + e8V v : Nat)
  | .mk k t ks l, n, d, h => by
    simp only [manyV] at h ⊢
    by_cases hc : n - 1 - (ks.length : Int) < 0 ∨ d ≤ 0
    · rw [if_pos hc] at h
      omega
    · rw [if_neg hc] at h ⊢
      have h1 := manyL_first h
      rw [manyL_eq l _ _ h, kM_eq ks _ h1]
      simp only [sizeV, keysV, e8V]
      omega
theorem manyL_eq : ∀ (l : List JV) (n d : Int), 0 ≤ manyL l n d → manyL l n d = n - (sizeL l + keysL l + e8L l : Nat)
  | [], n, d, _ => by simp [manyL, sizeL, keysL, e8L]
  | v :: t, n, d, h => by
    simp only [manyL] at h ⊢
    by_cases hn : 0 ≤ n
    · rw [if_pos hn] at h ⊢
      have h1 := manyL_first h
      rw [manyL_eq t _ _ h, manyV_eq v _ _ h1]
      simp only [sizeL, keysL, e8L]
      omega
    · rw [if_neg hn] at h
      omega
theorem manyL_first : ∀ {l : List JV} {n d : Int}, 0 ≤ manyL l n d → 0 ≤ n
  | l, n, d, h => by
    by_cases hn : 0 ≤ n
    · exact hn
    · rw [manyL_neg (by omega)] at h
      exact h
end
theorem sumK_e (ks : List ByteArray) : sumK ks ≤ 8 * eK ks + 7 * ks.length := by
  induction ks with
  | nil => simp [sumK, eK]
  | cons k t ih =>
    have e : sumK (k :: t) = k.size + sumK t := by
      unfold sumK
      rw [List.foldl_cons, sumK_from]
      simp [sumK]
    rw [e]
    simp only [eK, List.map_cons, List.sum_cons, List.length_cons] at ih ⊢
    omega
mutual
theorem lettV_e : ∀ v : JV, lettV v ≤ 8 * e8V v + 7 * (sizeV v + keysV v)
  | .mk k t ks l => by
    have h1 := lettL_e l
    have h2 := sumK_e ks
    simp only [lettV, e8V, sizeV, keysV]
    omega
theorem lettL_e : ∀ l : List JV, lettL l ≤ 8 * e8L l + 7 * (sizeL l + keysL l)
  | [] => by simp [lettL]
  | v :: t => by
    have h1 := lettV_e v
    have h2 := lettL_e t
    simp only [lettL, e8L, sizeL, keysL]
    omega
end
end Go.Proofs.YtdiopfngabbkdaaGreatDoor
