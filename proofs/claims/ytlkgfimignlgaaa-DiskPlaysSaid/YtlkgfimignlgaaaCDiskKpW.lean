/-
  What the walks of the laws over a script want: Names beside rows, what a call leaves of fuse and synced files.
-/
import Derived.Test.YtlkgfimignlgaaaCDiskKpM
import Derived.Test.YtlkgfimignlgaaaCDiskHv
import Derived.Lib.Builder
import Derived.Sort.KeysCollected
set_option linter.unusedSimpArgs false
set_option linter.unusedVariables false
set_option linter.unusedVariables false
set_option linter.unusedSimpArgs false
namespace Go.Proofs.Ytlkgfimignlgaaa
open Go.RowKit Go.Maps Go.Sort Go.Shelf
section
variable {w0 w w' : World} {db : Nat} {st : Ds} {V : List Value}
theorem OX.name_le (h : OX w0 w db st V) : ∀ l ∈ namesF st.now, l.length ≤ maxLen := by
  obtain ⟨D, ⟨m1, m2, lv, fs, E1, E2, h⟩, _⟩ := h
  intro l hl
  rw [← h.d1, ← keys_dat] at hl
  exact strKeys_le h.f1.map Try.underlying9 l hl
theorem enc_str (l : List UInt8) : encStr l = .string ⟨l.toArray⟩ := rfl
theorem RowN.rowR {B : Nat} {a : Option Addr} {c : Nat} {L : List (List UInt8)} (h : RowN w B (.slice a L.length c) L) : RowR w a (L.map fun l => ⟨l.toArray⟩) := by
  intro j hj
  rw [List.length_map] at hj
  rcases h.2 with ⟨e, h0⟩ | ⟨g, cap, cur, e, hb, hg, hcap, _⟩
  · omega
  · simp only [Value.slice.injEq] at e
    obtain ⟨rfl, _, rfl⟩ := e
    refine ⟨g, 0, rfl, ?_⟩
    have hc := World.ownsRow.cellAt h j (by omega)
    rw [Nat.zero_add, hc, List.getElem?_map, List.getElem?_eq_getElem hj]
    simp [List.getD, hj, enc_str]
theorem OX.names (h : OX w0 w db st V) : Calls Try.prog 24 #[.pointer (some ⟨db, 0, none⟩)] w fun e w' => ∃ a c N, e = .returned (.slice a N.length c) ∧ N.length ≤ c ∧ N.length = st.now.length ∧
      (∀ j, j < N.length → hasF st.now (N.getD j ByteArray.empty) = true ∧ (N.getD j ByteArray.empty).size ≤ maxLen) ∧ RowR w' a N ∧ OX w0 w' db st (.slice a N.length c :: V) ∧ KeepV V w w' := by
  have hle := h.name_le
  have h' := h
  obtain ⟨D, h1, h2, h3, h4⟩ := h
  refine (names_any db st D w h1).mono ?_
  rintro e w' ⟨v, L, rfl, hp, hs, hr, hb⟩
  obtain ⟨a, c, rfl, hc⟩ := hr.form
  have hlt := World.ownsRow.lt hr
  obtain ⟨p1, p2⟩ := h'.push (v := .slice a L.length c) hb hlt
  have hN : (L.map fun l => (⟨l.toArray⟩ : ByteArray)).length = L.length := List.length_map _
  refine ⟨a, c, L.map fun l => ⟨l.toArray⟩, by rw [hN], by rw [hN]; exact hc, ?_, ?_, hr.rowR, by rw [hN]; exact p1, p2⟩
  · rw [hN, hp.length_eq]
    unfold namesF
    rw [List.length_map]
  · intro j hj
    rw [hN] at hj
    have e : (L.map fun l => (⟨l.toArray⟩ : ByteArray)).getD j ByteArray.empty = ⟨(L[j]).toArray⟩ := by simp [List.getD, hj]
    rw [e]
    exact ⟨named_has hp (List.getElem_mem hj), by show (L[j]).toArray.size ≤ maxLen; rw [List.size_toArray]; exact hle _ (hp.mem_iff.1 (List.getElem_mem hj))⟩
end
/-- what a call leaves: the fuse; how much is loose -/
def Gz (st : Ds) (r : Int × Ds) : Prop := r.2.fuse = spendF st.fuse ∧ r.2.L.length ≤ st.L.length + 1
theorem gz_app (st : Ds) (s d : ByteArray) : Gz st (appS st s d) := by
  unfold appS Gz
  repeat' split
  all_goals first | exact ⟨rfl, Nat.le_succ _⟩ | exact ⟨rfl, by simp⟩
theorem gz_cut (st : Ds) (s : ByteArray) (n : Int) : Gz st (cutS st s n) := by
  unfold cutS Gz
  repeat' split
  all_goals first | exact ⟨rfl, Nat.le_succ _⟩ | exact ⟨rfl, by simp⟩
theorem gz_ren (st : Ds) (s d : ByteArray) : Gz st (renS st s d) := by
  unfold renS Gz
  repeat' split
  all_goals first | exact ⟨rfl, Nat.le_succ _⟩ | exact ⟨rfl, by simp⟩
theorem gz_rem (st : Ds) (s : ByteArray) : Gz st (remS st s) := by
  unfold remS Gz
  repeat' split
  all_goals first | exact ⟨rfl, Nat.le_succ _⟩ | exact ⟨rfl, by simp⟩
theorem gz_sync (st : Ds) : Gz st (syncS st) := by
  unfold syncS Gz
  repeat' split
  all_goals first | exact ⟨rfl, Nat.le_succ _⟩ | exact ⟨rfl, Nat.zero_le _⟩
theorem app_S (st : Ds) (s d : ByteArray) : (appS st s d).2.S = st.S := by
  unfold appS
  repeat' split
  all_goals rfl
theorem sync_m (room : Int) (F : Fs) (L : List Op) : syncS ⟨room, -1, F, L⟩ = (0, ⟨room, -1, doAll F L, []⟩) := by
  unfold syncS
  rw [if_neg (show ¬ (-1 : Int) = 0 by decide)]
  rfl
theorem read_m {F : Fs} {s : ByteArray} (h : hasF F s = true) : readS (-1) F s = ⟨(getF F s).toArray⟩ ∧ readE (-1) F s = 0 := by
  unfold readS readE
  have hm : ¬ (-1 : Int) = 0 := by decide
  rw [if_neg hm, if_neg hm, if_pos h, if_pos h]
  exact ⟨rfl, rfl⟩
theorem drew_bel (w : World) : Below w.heap.size w w.drew := ⟨rfl, rfl, rfl, Nat.le_refl _, fun _ _ => rfl⟩
theorem cellNew (w : World) (cs : Array Value) (T : TypeId) (j : Nat) : (w.alloc (.cells cs T)).cell? ⟨w.heap.size, j, none⟩ = cs[j]? := Lib.cell_of_heap (heap_alloc_new w (.cells cs T)) j
end Go.Proofs.Ytlkgfimignlgaaa
