/-
  A SLICE OF TEXTS AMONG THE ARGUMENTS, opened as a row of texts that may be read; what the laws ask of its size. No conditions.
-/
import Derived.Test.YthimjdknafgfbaaSegWorks
import Derived.SliceStrings
import Derived.Carry
import Derived.ProofKit
import Derived.OpenShut
import Derived.ShutString
import Derived.SizedLaws
namespace Go.Proofs.Ythimjdknafgfbaa
open Go.ChangeShapes Go.WideShapes Go.RowKit
set_option linter.unusedVariables false

theorem Try.cellsStr : Try.prog.cellsOf 9 = 1 := by kernel_rfl
theorem bytesStr : Try.prog.bytesOf 9 = 16 := by kernel_rfl
theorem weightsAll_mem {H : Type} {e : TypeId} : ∀ {ds : List (DataW H)} {d : DataW H}, d ∈ ds → ∀ n ∈ d.weights Try.prog e, n ∈ DataW.weightsAll Try.prog e ds
  | x :: ds, d, hd, n, hn => by
    simp only [DataW.weightsAll, List.mem_append]
    rcases List.mem_cons.1 hd with rfl | h
    · exact .inl hn
    · exact .inr (weightsAll_mem h n hn)
theorem open_texts {H : Type} {enc : TypeId × Value → H} {W : World} {fuel : Nat} {a : Option Addr} {n c : Nat} {d : DataW H} {p : List MemPlace}
    (hf : DataW.trod enc Try.prog W 0 (fun _ => true) true fuel 29 (Value.slice a n c).cells.toList = some (d, p)) (hw : ∀ k ∈ d.weights Try.prog 29, k ≤ reachBytes) :
    ∃ L, IsT W L (.slice a n c) ∧ L.length ≤ 1000000000000000 ∧ ∀ t ∈ L, t.length ≤ 140737488355328 := by
  rcases open_strings Try.underlying29 Try.underlying9 Try.cellsStr hf with ⟨hcs, hx⟩ | ⟨a', len, cap, ss, hcs, _, hl, hm, hz, hx, hcell, hsz⟩
  · simp [Value.cells] at hcs
    obtain ⟨rfl, rfl, rfl⟩ := hcs
    exact ⟨[], ⟨none, 0, rfl, Nat.le_refl _, fun j hj => by simp at hj⟩, by simp, by simp⟩
  simp [Value.cells] at hcs
  obtain ⟨rfl, rfl, rfl⟩ := hcs
  simp only [Prod.mk.injEq] at hx
  obtain ⟨rfl, rfl⟩ := hx
  simp only [if_true] at hz
  have hel : ∀ s ∈ ss.take n, s.size ≤ reachBytes := by
    intro s hs
    refine hw _ ?_
    simp only [DataW.weights, Try.underlying29]
    refine List.mem_cons_of_mem _ (List.mem_append_left _ (weightsAll_mem (d := .lit (.string s.data.toList)) ?_ _ ?_))
    · unfold strs
      exact List.mem_map.2 ⟨s, hs, rfl⟩
    · rw [Lib.size_eq]
      simp [DataW.weights]
  have hlen : (ss.take n).length = n := by rw [List.length_take]; omega
  have hln : n * 16 ≤ reachBytes := by
    have := hw (((strs (H := H) (ss.take n)).length + (strs (H := H) (ss.drop n)).length) * Try.prog.bytesOf 9) (by simp [DataW.weights, Try.underlying29])
    rw [bytesStr] at this
    unfold strs at this
    rw [List.length_map, hlen] at this
    omega
  refine ⟨(ss.take n).map (·.data.toList), ⟨some a', c, ?_, ?_, ?_⟩, ?_, ?_⟩
  · rw [List.length_map, hlen]
  · rw [List.length_map, hlen]; exact hl
  · intro j hj
    rw [List.length_map, hlen] at hj
    have hcj := hcell j (by omega)
    obtain ⟨b, off, spot⟩ := a'
    have hspot : spot = none := by simpa [Addr.add] using World.cell?_spot (hcell 0 (by omega))
    subst hspot
    have e : (⟨b, off, none⟩ : Addr).add j = ⟨b, off + j, none⟩ := by
      unfold Addr.add
      by_cases h : j = 0
      · subst h; simp
      · rw [if_neg h]
    rw [e] at hcj
    refine ⟨b, off, rfl, World.block_lt_of_cell? _ _ hcj, hcj.trans ?_⟩
    congr 2
    have e1 : ((ss.take n).map (·.data.toList)).getD j [] = (ss.getD j ByteArray.empty).data.toList := by
      have h2 : j < ss.length := by omega
      rw [List.getD_eq_getElem?_getD, List.getElem?_map, List.getElem?_take_of_lt hj, List.getElem?_eq_getElem h2, List.getD_eq_getElem?_getD, List.getElem?_eq_getElem h2]
      rfl
    rw [e1, bOf_of]
  · rw [List.length_map, hlen]
    unfold reachBytes at hln
    omega
  · intro t ht
    obtain ⟨s, hs, rfl⟩ := List.mem_map.1 ht
    have := hel s hs
    rw [← Lib.size_eq]
    unfold reachBytes at this
    omega
/-- what is short enough -/
theorem sizeT_small {L : List (List UInt8)} (h : sizeT L ≤ 8192) : L.length ≤ 100 ∧ sumT L ≤ 8192 := by
  unfold sizeT at h
  split at h
  · omega
  · exact ⟨by omega, h⟩
theorem small_each {L : List (List UInt8)} (h : sumT L ≤ 8192) : ∀ t ∈ L, t.length ≤ 16384 := fun t ht => by have := sumT_mem ht; omega
theorem small_frames {L : List (List UInt8)} (h : L.length ≤ 100 ∧ sumT L ≤ 8192) : (framesL L).length ≤ 10000 := by rw [framesL_len]; omega
theorem scan_cnt : ∀ (n : Nat) (l : List UInt8), l.length ≤ n → 12 * (scanL l).1.length ≤ l.length := by
  intro n
  induction n with
  | zero =>
    intro l h
    have : l = [] := List.eq_nil_of_length_eq_zero (by omega)
    subst this
    rw [scan_nil]
    simp
  | succ n ih =>
    intro l h
    by_cases h0 : l = []
    · subst h0; rw [scan_nil]; simp
    by_cases he : (readL l).2.2 = 0
    · have hr := read_ok he
      rw [scan_ok he]
      have := ih (l.drop (readL l).2.1) (by rw [List.length_drop]; omega)
      rw [List.length_drop] at this
      simp only [List.length_cons]
      omega
    · rw [scan_bad h0 he]
      simp
end Go.Proofs.Ythimjdknafgfbaa
