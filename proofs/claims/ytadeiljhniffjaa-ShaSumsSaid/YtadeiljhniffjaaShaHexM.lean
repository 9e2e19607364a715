/-
  PLAIN LEAN, no program: bytes as hexadecimal digits, and back. No conditions.
-/
import Derived.Lib.Bytealg
import Derived.Lib.Bytes
namespace Go.Proofs.Ytadeiljhniffjaa
open Go

/-- the value of a digit, -1 of what is none -/
def hxV (c : Int) : Int := if 48 ≤ c ∧ c ≤ 57 then c - 48 else if 97 ≤ c ∧ c ≤ 102 then c - 87 else -1
def digL : List UInt8 := [48, 49, 50, 51, 52, 53, 54, 55, 56, 57, 97, 98, 99, 100, 101, 102]
/-- the digit of a value -/
def dgI (d : Int) : Int := if d < 10 then 48 + d else 87 + d
theorem hxV_rng (c : Int) : -1 ≤ hxV c ∧ hxV c < 16 := by unfold hxV; split <;> (try split) <;> omega
theorem hxV_dg {d : Int} (h : 0 ≤ d) (k : d < 16) : hxV (dgI d) = d := by
  unfold hxV dgI
  split <;> split <;> (try split) <;> omega
theorem dg_hxV {c : Int} (h : 0 ≤ hxV c) : dgI (hxV c) = c := by
  unfold hxV dgI at *
  split at h <;> (try split at h) <;> (repeat' split) <;> omega
theorem dgI_rng {d : Int} (h : 0 ≤ d) (k : d < 16) : 48 ≤ dgI d ∧ dgI d ≤ 102 := by unfold dgI; split <;> omega
theorem index_dig (c : UInt8) : Lib.indexByte digL c = hxV c.toNat := by
  have h : ∀ n : Fin 256, Lib.indexByte digL (UInt8.ofNat n.val) = hxV (UInt8.ofNat n.val).toNat := by decide +kernel
  have := h ⟨c.toNat, c.toNat_lt⟩
  simpa using this

def nI (l : List UInt8) : List Int := l.map fun b => (b.toNat : Int)
/-- digits of numbers -/
def hexN : List Int → List Int
  | [] => []
  | b :: t => dgI (b / 16) :: dgI (b % 16) :: hexN t
/-- bytes of digits, both as numbers -/
def unN : List Int → Option (List Int)
  | [] => some []
  | [_] => none
  | a :: b :: t => if hxV a < 0 ∨ hxV b < 0 then none else (unN t).map fun r => (hxV a * 16 + hxV b) :: r
theorem unN_odd : ∀ (l : List Int), l.length % 2 = 1 → unN l = none
  | [], h => by simp at h
  | [_], _ => rfl
  | a :: b :: t, h => by
    simp only [List.length_cons] at h
    rw [unN, unN_odd t (by omega)]
    split <;> rfl
theorem hexN_app : ∀ (a b : List Int), hexN (a ++ b) = hexN a ++ hexN b
  | [], b => rfl
  | x :: t, b => by rw [List.cons_append, hexN, hexN, hexN_app t b]; rfl
theorem hexN_len : ∀ (a : List Int), (hexN a).length = 2 * a.length
  | [] => rfl
  | x :: t => by rw [hexN, List.length_cons, List.length_cons, hexN_len t, List.length_cons]; omega
theorem un_hex : ∀ (l : List Int), (∀ b ∈ l, 0 ≤ b ∧ b < 256) → unN (hexN l) = some l
  | [], _ => rfl
  | b :: t, h => by
    have hb := h b (List.mem_cons_self ..)
    rw [hexN, unN, hxV_dg (by omega) (by omega), hxV_dg (by omega) (by omega), if_neg (by omega), un_hex t fun x hx => h x (List.mem_cons_of_mem _ hx)]
    simp only [Option.map_some]
    congr 2
    omega
theorem hex_un : ∀ (l r : List Int), unN l = some r → hexN r = l
  | [], r, h => by rw [unN] at h; injection h with h; subst h; rfl
  | [_], r, h => by rw [unN] at h; cases h
  | a :: b :: t, r, h => by
    rw [unN] at h
    split at h
    · cases h
    · rename_i hn
      cases e : unN t with
      | none => rw [e] at h; cases h
      | some q =>
        rw [e] at h
        injection h with h
        subst h
        have ha := hxV_rng a
        have hb := hxV_rng b
        rw [hexN, hex_un t q e, show (hxV a * 16 + hxV b) / 16 = hxV a by omega, show (hxV a * 16 + hxV b) % 16 = hxV b by omega, dg_hxV (by omega), dg_hxV (by omega)]
theorem un_rng : ∀ (l r : List Int), unN l = some r → ∀ b ∈ r, 0 ≤ b ∧ b < 256
  | [], r, h => by rw [unN] at h; injection h with h; subst h; intro b hb; cases hb
  | [_], r, h => by rw [unN] at h; cases h
  | a :: b :: t, r, h => by
    rw [unN] at h
    split at h
    · cases h
    · rename_i hn
      cases e : unN t with
      | none => rw [e] at h; cases h
      | some q =>
        rw [e] at h
        injection h with h
        subst h
        have ha := hxV_rng a
        have hb := hxV_rng b
        intro x hx
        rcases List.mem_cons.1 hx with rfl | hx
        · omega
        · exact un_rng t q e x hx
/-- what a text is, read from both ends of a cut at an even place -/
def unAt (pre : List Int) (l : List Int) : Option (List Int) := (unN l).map fun r => pre ++ r
theorem unAt_end (pre : List Int) : unAt pre [] = some pre := by unfold unAt; rw [unN]; simp
theorem unAt_on {pre t : List Int} {a b : Int} (ha : 0 ≤ hxV a) (hb : 0 ≤ hxV b) : unAt pre (a :: b :: t) = unAt (pre ++ [hxV a * 16 + hxV b]) t := by
  unfold unAt
  rw [unN, if_neg (by omega)]
  cases unN t with
  | none => rfl
  | some r => simp
theorem unAt_no {pre t : List Int} {a b : Int} (h : hxV a < 0 ∨ hxV b < 0) : unAt pre (a :: b :: t) = none := by
  unfold unAt
  rw [unN, if_pos h]
  rfl
end Go.Proofs.Ytadeiljhniffjaa
