/-
  PLAIN LEAN, no program: what sha.Sum does of a text is what the document does of its bytes. No conditions.
-/
import Derived.Test.YtadeiljhniffjaaShaMath
import Derived.Test.YtadeiljhniffjaaShaHexM
namespace Go.Proofs.Ytadeiljhniffjaa
open Go

def w16L (l : List Int) : List Int := (List.range 16).map fun t => be4 (l.getD (4 * t) 0) (l.getD (4 * t + 1) 0) (l.getD (4 * t + 2) 0) (l.getD (4 * t + 3) 0)
theorem byI_nI (s : ByteArray) (k : Nat) : byI s k = (nI s.data.toList).getD k 0 := by
  unfold byI nI
  rw [List.getD_eq_getElem?_getD, List.getD_eq_getElem?_getD, List.getElem?_map]
  cases s.data.toList[k]? with
  | none => rfl
  | some b => rfl
theorem w16_L (s : ByteArray) : w16 s 16 = w16L (nI s.data.toList) := by
  unfold w16 w16L
  apply List.map_congr_left
  intro t _
  unfold beI
  rw [byI_nI, byI_nI, byI_nI, byI_nI]
theorem w16L_eq {a b : List Int} (h : ∀ k, k < 64 → a.getD k 0 = b.getD k 0) : w16L a = w16L b := by
  unfold w16L
  apply List.map_congr_left
  intro t ht
  have := List.mem_range.1 ht
  rw [h _ (by omega), h _ (by omega), h _ (by omega), h _ (by omega)]
theorem w16L_take (l : List Int) : w16L (l.take 64) = w16L l := w16L_eq fun k hk => by
  rw [List.getD_eq_getElem?_getD, List.getD_eq_getElem?_getD, List.getElem?_take_of_lt hk]
theorem w16L_app {a b : List Int} (h : 64 ≤ a.length) : w16L (a ++ b) = w16L a := w16L_eq fun k hk => by
  rw [List.getD_eq_getElem?_getD, List.getD_eq_getElem?_getD, List.getElem?_append_left (by omega)]
def foldF (K : List Int) : Nat → List Int → List Int → List Int
  | 0, H, _ => H
  | n + 1, H, l => foldF K n (blockF K H (w16L l)) (l.drop 64)
theorem foldF_len (K : List Int) : ∀ (n : Nat) (H l : List Int), H.length = 8 → (foldF K n H l).length = 8
  | 0, _, _, h => h
  | n + 1, H, l, h => by rw [foldF]; exact foldF_len K n _ _ (addL_len h (mixN_len 64 h))
theorem foldS_F (K : List Int) : ∀ (n : Nat) (H : List Int) (s : ByteArray), foldS K n H s = foldF K n H (nI s.data.toList)
  | 0, _, _ => rfl
  | n + 1, H, s => by
    rw [foldS, foldF, foldS_F K n, w16_L]
    congr 1
    unfold nI
    rw [← List.map_drop, Lib.extract_data, List.take_of_length_le (by rw [List.length_drop, ← Lib.size_eq]; omega)]
theorem foldF_add (K : List Int) : ∀ (m n : Nat) (H a b : List Int), a.length = 64 * m → foldF K (m + n) H (a ++ b) = foldF K n (foldF K m H a) b
  | 0, n, H, a, b, h => by
    rw [List.eq_nil_of_length_eq_zero (by omega : a.length = 0), List.nil_append, Nat.zero_add]
    rfl
  | m + 1, n, H, a, b, h => by
    rw [show m + 1 + n = m + n + 1 by omega, foldF, foldF, w16L_app (by omega), List.drop_append_of_le_length (by omega)]
    exact foldF_add K m n _ _ b (by rw [List.length_drop]; omega)
theorem foldF_on (K : List Int) : ∀ (m : Nat) (H l : List Int), foldF K (m + 1) H l = blockF K (foldF K m H l) (w16L (l.drop (64 * m)))
  | 0, H, l => rfl
  | m + 1, H, l => by
    have := foldF_on K m (blockF K H (w16L l)) (l.drop 64)
    rw [foldF, this, List.drop_drop]
    rw [show 64 + 64 * m = 64 * (m + 1) by omega]
    rfl
theorem nI_rng' (s : ByteArray) : ∀ b ∈ nI s.data.toList, 0 ≤ b ∧ b < 256 := by
  intro b hb
  unfold nI at hb
  obtain ⟨u, _, rfl⟩ := List.mem_map.1 hb
  have := u.toNat_lt
  omega
theorem nums_back' {l : List Int} (h : ∀ b ∈ l, 0 ≤ b ∧ b < 256) : nI (strOfNums l).data.toList = l := by
  unfold nI
  rw [strOfNums_data, List.map_map]
  have : ∀ b ∈ l, ((fun b : UInt8 => (b.toNat : Int)) ∘ fun n : Int => UInt8.ofNat n.toNat) b = b := by
    intro b hb
    have := h b hb
    simp
    omega
  rw [List.map_congr_left this, List.map_id'']
  intro x; rfl
theorem lastB_rng (b : Int) : ∀ (i : Nat), ∀ x ∈ lastB b i, 0 ≤ x ∧ x < 256
  | 0, x, hx => by cases hx
  | i + 1, x, hx => by
    rw [lastB] at hx
    rcases List.mem_cons.1 hx with rfl | hx
    · omega
    · exact lastB_rng b i x hx
theorem padI_rng (n : Nat) : ∀ x ∈ padI n, 0 ≤ x ∧ x < 256 := by
  intro x hx
  unfold padI at hx
  rcases List.mem_append.1 hx with h | h
  · rcases List.mem_cons.1 h with rfl | h
    · omega
    · rw [(List.mem_replicate.1 h).2]; omega
  · exact lastB_rng _ _ x h
/-- the whole of what the document takes -/
def msgI (s : ByteArray) : List Int := nI s.data.toList ++ padI s.size
theorem nI_len' (s : ByteArray) : (nI s.data.toList).length = s.size := by unfold nI; rw [List.length_map, ← Lib.size_eq]
theorem msgI_len (s : ByteArray) : (msgI s).length = s.size + szP s.size := by
  unfold msgI
  rw [List.length_append, nI_len', padI_len]
theorem msgI_rng (s : ByteArray) : ∀ x ∈ msgI s, 0 ≤ x ∧ x < 256 := by
  intro x hx
  rcases List.mem_append.1 hx with h | h
  · exact nI_rng' s x h
  · exact padI_rng _ x h
theorem post_msg (s : ByteArray) : postF s = foldF kL ((s.size + szP s.size) / 64) hL (msgI s) := by
  have hr := szP_rng s.size
  unfold postF preF
  rw [foldS_F, foldS_F, ← foldF_add]
  · congr 1
    · omega
    · unfold msgI nI
      rw [Lib.extract_data, ByteArray.data_append, Array.toList_append, List.map_append, strOfNums_data]
      have e2 : ((s.extract (s.size - s.size % 64) s.size)).data.toList = s.data.toList.drop (s.size - s.size % 64) := by
        rw [Lib.extract_data, List.take_of_length_le (by rw [List.length_drop, ← Lib.size_eq]; omega)]
      rw [e2]
      have e3 : List.map (fun b : UInt8 => (b.toNat : Int)) (List.map (fun n : Int => UInt8.ofNat n.toNat) (padI s.size)) = padI s.size := nums_back' (padI_rng s.size)
      rw [e3, ← List.append_assoc, ← List.map_append, List.drop_zero, Nat.sub_zero, List.take_append_drop]
  · unfold nI
    rw [List.length_map, Lib.extract_data, List.length_take, List.length_drop, ← Lib.size_eq]
    omega
theorem chunk_w (s : ByteArray) (m : Nat) : w16 (strOfNums (((msgI s).drop (64 * m)).take 64)) 16 = w16L ((msgI s).drop (64 * m)) := by
  rw [w16_L, nums_back' (fun x hx => msgI_rng s x (List.mem_of_mem_drop (List.mem_of_mem_take hx))), w16L_take]
theorem lastB_at (b : Int) (k : Nat) (h : k < 8) : (lastB b 8)[k]? = some (b / 2 ^ (8 * (7 - k)) % 256) := by
  match k, h with
  | 0, _ => rfl
  | 1, _ => rfl
  | 2, _ => rfl
  | 3, _ => rfl
  | 4, _ => rfl
  | 5, _ => rfl
  | 6, _ => rfl
  | 7, _ => rfl
end Go.Proofs.Ytadeiljhniffjaa
