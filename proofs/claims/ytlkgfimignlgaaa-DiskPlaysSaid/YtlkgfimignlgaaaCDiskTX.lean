/-
  TWO DISKS BESIDE ROWS OF TEXTS: what each call on one of them comes to, the other and the rows staying; rows of texts that grow.
-/
import Derived.Test.YtlkgfimignlgaaaCDiskKpW
import Derived.Deep.AppendLies
set_option linter.unusedSimpArgs false
set_option linter.unusedVariables false
set_option linter.unusedVariables false
set_option linter.unusedSimpArgs false
namespace Go.Proofs.Ytlkgfimignlgaaa
open Go.RowKit
def ApartV (V : List Value) : Prop := V.Pairwise fun u v => ∀ j, u.ownBlock = some j → v.ownBlock ≠ some j
def TX (w0 w : World) (da db : Nat) (sa sb : Ds) (V : List Value) : Prop :=
  ∃ D1 D2, DK w da sa D1 ∧ DK w db sb D2 ∧ (∀ j, D1 j → ¬ D2 j) ∧ (∀ j, D1 j → w0.heap.size ≤ j) ∧ (∀ j, D2 j → w0.heap.size ≤ j) ∧
    (∀ v ∈ V, ∀ j, v.ownBlock = some j → ¬ D1 j ∧ ¬ D2 j ∧ w0.heap.size ≤ j ∧ j < w.heap.size) ∧ ApartV V ∧ Below w0.heap.size w0 w
section
variable {w0 w w' : World} {da db : Nat} {sa sb : Ds} {V : List Value}
theorem TX.symm (h : TX w0 w da db sa sb V) : TX w0 w db da sb sa V := by
  obtain ⟨D1, D2, h1, h2, h3, h4, h5, h6, h7, h8⟩ := h
  exact ⟨D2, D1, h2, h1, fun j hj hd => h3 j hd hj, h5, h4, fun v hv j hj => ⟨(h6 v hv j hj).2.1, (h6 v hv j hj).1, (h6 v hv j hj).2.2⟩, h7, h8⟩
theorem TX.bel (h : TX w0 w da db sa sb V) : Below w0.heap.size w0 w := by
  obtain ⟨D1, D2, h1, h2, h3, h4, h5, h6, h7, h8⟩ := h
  exact h8
theorem TX.sub {V' : List Value} (h : TX w0 w da db sa sb V) (hs : V'.Sublist V) : TX w0 w da db sa sb V' := by
  obtain ⟨D1, D2, h1, h2, h3, h4, h5, h6, h7, h8⟩ := h
  exact ⟨D1, D2, h1, h2, h3, h4, h5, fun v hv => h6 v (hs.subset hv), List.Pairwise.sublist hs h7, h8⟩
theorem TX.push {v : Value} (h : TX w0 w da db sa sb V) (hb : Below w.heap.size w w') (hv : ∀ j, v.ownBlock = some j → w.heap.size ≤ j ∧ j < w'.heap.size) : TX w0 w' da db sa sb (v :: V) ∧ KeepV V w w' := by
  obtain ⟨D1, D2, h1, h2, h3, h4, h5, h6, h7, h8⟩ := h
  refine ⟨⟨D1, D2, h1.below hb, h2.below hb, h3, h4, h5, fun v' hv' j hj => ?_, List.Pairwise.cons (fun u hu j hj e => ?_) h7, h8.trans (hb.mono h8.size)⟩, fun v hv j hj => hb.block j (h6 v hv j hj).2.2.2⟩
  · rcases List.mem_cons.1 hv' with rfl | hv'
    · have := hv j hj
      exact ⟨fun hd => by have := h1.lt hd; omega, fun hd => by have := h2.lt hd; omega, Nat.le_trans h8.size this.1, this.2⟩
    · have := h6 v' hv' j hj
      exact ⟨this.1, this.2.1, this.2.2.1, Nat.lt_of_lt_of_le this.2.2.2 hb.size⟩
  · have a := (h6 u hu j e).2.2.2
    have b := (hv j hj).1
    omega
theorem TX.nil (h : TX w0 w da db sa sb V) : TX w0 w da db sa sb (.slice none 0 0 :: V) := (h.push (v := .slice none 0 0) (Below.refl _ _) (fun j hj => by cases hj)).1
theorem TX.below (h : TX w0 w da db sa sb V) (hb : Below w.heap.size w w') : TX w0 w' da db sa sb V ∧ KeepV V w w' := by
  obtain ⟨p, q⟩ := h.push (v := .slice none 0 0) hb (fun j hj => by cases hj)
  exact ⟨p.sub (List.sublist_cons_self _ _), q⟩
theorem TX.grow {v v' : Value} {g : Nat} (h : TX w0 w da db sa sb (v :: V)) (hg : w.grownBy w' v.ownBlock) (he : v'.ownBlock = some g) (hat : v.ownBlock = some g ∨ w.heap.size ≤ g) (hlt : g < w'.heap.size) : TX w0 w' da db sa sb (v' :: V) ∧ KeepV V w w' := by
  obtain ⟨D1, D2, h1, h2, h3, h4, h5, h6, h7, h8⟩ := h
  have hpw := List.pairwise_cons.1 h7
  have hv := h6 v (List.mem_cons_self ..)
  have k1 : ∀ j, D1 j → w'.heap[j]? = w.heap[j]? := fun j hj => hg.block j (h1.lt hj) (fun e => (hv j e.symm).1 hj)
  have k2 : ∀ j, D2 j → w'.heap[j]? = w.heap[j]? := fun j hj => hg.block j (h2.lt hj) (fun e => (hv j e.symm).2.1 hj)
  have kk : KeepV V w w' := fun u hu j hj => hg.block j (h6 u (List.mem_cons_of_mem _ hu) j hj).2.2.2 (fun e => hpw.1 u hu j e.symm hj)
  refine ⟨⟨D1, D2, h1.frame k1 hg.size, h2.frame k2 hg.size, h3, h4, h5, fun u hu j hj => ?_, List.Pairwise.cons (fun u hu j hj e => ?_) hpw.2, h8.trans ⟨hg.os, hg.tape, hg.output, hg.size, fun j hj => hg.block j (by have := h8.size; omega) (fun e => by have := (hv j e.symm).2.2.1; omega)⟩⟩, kk⟩
  · rcases List.mem_cons.1 hu with rfl | hu
    · rw [he] at hj
      cases hj
      rcases hat with hat | hat
      · have := hv g hat
        exact ⟨this.1, this.2.1, this.2.2.1, hlt⟩
      · exact ⟨fun hd => by have := h1.lt hd; omega, fun hd => by have := h2.lt hd; omega, Nat.le_trans h8.size hat, hlt⟩
    · have := h6 u (List.mem_cons_of_mem _ hu) j hj
      exact ⟨this.1, this.2.1, this.2.2.1, Nat.lt_of_lt_of_le this.2.2.2 hg.size⟩
  · rw [he] at hj
    cases hj
    rcases hat with hat | hat
    · exact hpw.1 u hu g hat e
    · have := (h6 u (List.mem_cons_of_mem _ hu) g e).2.2.2
      omega
theorem TX.done {r : Int × Ds} {D1 : Nat → Prop} {e : Ending} (h1 : DK w da sa D1) (h2 : ∃ D2, DK w db sb D2 ∧ (∀ j, D1 j → ¬ D2 j) ∧ (∀ j, D1 j → w0.heap.size ≤ j) ∧ (∀ j, D2 j → w0.heap.size ≤ j) ∧
    (∀ v ∈ V, ∀ j, v.ownBlock = some j → ¬ D1 j ∧ ¬ D2 j ∧ w0.heap.size ≤ j ∧ j < w.heap.size) ∧ ApartV V ∧ Below w0.heap.size w0 w) (h : DoneD w da D1 r e w') : e = .returned (.int .i64 r.1) ∧ TX w0 w' da db r.2 sb V ∧ KeepV V w w' := by
  obtain ⟨he, hK, hT⟩ := h
  obtain ⟨D2, h2, h3, h4, h5, h6, h7, h8⟩ := h2
  refine ⟨he, ⟨Ext D1 w w', D2, hK, h2.frame (fun j hj => hT.block j (h2.lt hj) (fun hd => h3 j hd hj)) hT.size, fun j hj hd => ?_, fun j hj => ?_, h5, fun v hv j hj => ?_, h7, h8.trans ⟨hT.os, hT.tape, hT.output, hT.size, fun j hj => hT.block j (by have := h8.size; omega) (fun hd => by have := h4 j hd; omega)⟩⟩, fun v hv j hj => hT.block j (h6 v hv j hj).2.2.2 (h6 v hv j hj).1⟩
  · rcases hj with hj | hj
    · exact h3 j hj hd
    · have := h2.lt hd; omega
  · rcases hj with hj | hj
    · exact h4 j hj
    · have := h8.size; omega
  · have := h6 v hv j hj
    refine ⟨fun hd => ?_, this.2.1, this.2.2.1, Nat.lt_of_lt_of_le this.2.2.2 hT.size⟩
    rcases hd with hd | hd
    · exact this.1 hd
    · omega
theorem TX.append (h : TX w0 w da db sa sb V) (s d : ByteArray) (hs : s.size ≤ 1000000000) (hd : d.size ≤ 1000000000) (hl : sa.L.length ≤ 1000000) :
    Calls Try.prog 19 #[.pointer (some ⟨da, 0, none⟩), .string s, .string d] w fun e w' => e = .returned (.int .i64 (appS sa s d).1) ∧ TX w0 w' da db (appS sa s d).2 sb V ∧ KeepV V w w' := by
  obtain ⟨D1, D2, h1, hr⟩ := h
  exact (append_any da sa D1 s d w h1 hs hd hl).mono fun e w' h => TX.done h1 ⟨D2, hr⟩ h
theorem TX.cut (h : TX w0 w da db sa sb V) (s : ByteArray) (n : Int) (hs : s.size ≤ 1000000000) (hl : sa.L.length ≤ 1000000) :
    Calls Try.prog 20 #[.pointer (some ⟨da, 0, none⟩), .string s, .int .i64 n] w fun e w' => e = .returned (.int .i64 (cutS sa s n).1) ∧ TX w0 w' da db (cutS sa s n).2 sb V ∧ KeepV V w w' := by
  obtain ⟨D1, D2, h1, hr⟩ := h
  exact (cutD_any da sa D1 s n w h1 hs hl).mono fun e w' h => TX.done h1 ⟨D2, hr⟩ h
theorem TX.ren (h : TX w0 w da db sa sb V) (s t : ByteArray) (hs : s.size ≤ 1000000000) (ht : t.size ≤ 1000000000) (hl : sa.L.length ≤ 1000000) :
    Calls Try.prog 21 #[.pointer (some ⟨da, 0, none⟩), .string s, .string t] w fun e w' => e = .returned (.int .i64 (renS sa s t).1) ∧ TX w0 w' da db (renS sa s t).2 sb V ∧ KeepV V w w' := by
  obtain ⟨D1, D2, h1, hr⟩ := h
  exact (renD_any da sa D1 s t w h1 hs ht hl).mono fun e w' h => TX.done h1 ⟨D2, hr⟩ h
theorem TX.rem (h : TX w0 w da db sa sb V) (s : ByteArray) (hs : s.size ≤ 1000000000) (hl : sa.L.length ≤ 1000000) :
    Calls Try.prog 22 #[.pointer (some ⟨da, 0, none⟩), .string s] w fun e w' => e = .returned (.int .i64 (remS sa s).1) ∧ TX w0 w' da db (remS sa s).2 sb V ∧ KeepV V w w' := by
  obtain ⟨D1, D2, h1, hr⟩ := h
  exact (remD_any da sa D1 s w h1 hs hl).mono fun e w' h => TX.done h1 ⟨D2, hr⟩ h
theorem TX.sync (h : TX w0 w da db sa sb V) (hl : sa.L.length ≤ 1000000) :
    Calls Try.prog 23 #[.pointer (some ⟨da, 0, none⟩)] w fun e w' => e = .returned (.int .i64 (syncS sa).1) ∧ TX w0 w' da db (syncS sa).2 sb V ∧ KeepV V w w' := by
  obtain ⟨D1, D2, h1, hr⟩ := h
  exact (sync_any da sa D1 w h1 hl).mono fun e w' h => TX.done h1 ⟨D2, hr⟩ h
theorem TX.crash (h : TX w0 w da db sa sb V) (c b : Int) (hl : sa.L.length ≤ 1000000) :
    Calls Try.prog 26 #[.pointer (some ⟨da, 0, none⟩), .int .i64 c, .int .i64 b] w fun e w' => e = .returned (.int .i64 0) ∧ TX w0 w' da db (crashS sa c b).2 sb V ∧ KeepV V w w' := by
  obtain ⟨D1, D2, h1, hr⟩ := h
  exact (crash_any da sa D1 c b w h1 hl).mono fun e w' h => TX.done h1 ⟨D2, hr⟩ h
theorem TX.one (h : TX w0 w da db sa sb V) : OX w0 w da sa V := by
  obtain ⟨D1, D2, h1, h2, h3, h4, h5, h6, h7, h8⟩ := h
  exact ⟨D1, h1, h4, fun v hv j hj => ⟨(h6 v hv j hj).1, (h6 v hv j hj).2.2⟩, h8⟩
theorem TX.names (h : TX w0 w da db sa sb V) : Calls Try.prog 24 #[.pointer (some ⟨da, 0, none⟩)] w fun e w' => ∃ a c N, e = .returned (.slice a N.length c) ∧ N.length ≤ c ∧ N.length = sa.now.length ∧
      (∀ j, j < N.length → hasF sa.now (N.getD j ByteArray.empty) = true ∧ (N.getD j ByteArray.empty).size ≤ maxLen) ∧ RowR w' a N ∧ TX w0 w' da db sa sb (.slice a N.length c :: V) ∧ KeepV V w w' := by
  have hle := h.one.name_le
  have h' := h
  obtain ⟨D, D2, h1, hrest⟩ := h
  refine (names_any da sa D w h1).mono ?_
  rintro e w' ⟨v, L, rfl, hp, hs, hr, hb⟩
  obtain ⟨a, c, rfl, hc⟩ := hr.form
  have hlt := World.ownsRow.lt hr
  obtain ⟨p1, p2⟩ := h'.push (v := .slice a L.length c) hb hlt
  have hN : (L.map fun l => (⟨l.toArray⟩ : ByteArray)).length = L.length := List.length_map _
  refine ⟨a, c, L.map fun l => ⟨l.toArray⟩, by rw [hN], by rw [hN]; exact hc, ?_, ?_, hr.rowR, by rw [hN]; exact p1, p2⟩
  · rw [hN, hp.length_eq]
    unfold namesF
    rw [List.length_map]
  · intro j hj
    rw [hN] at hj
    have e : (L.map fun l => (⟨l.toArray⟩ : ByteArray)).getD j ByteArray.empty = ⟨(L[j]).toArray⟩ := by simp [List.getD, hj]
    rw [e]
    exact ⟨named_has hp (List.getElem_mem hj), by show (L[j]).toArray.size ≤ maxLen; rw [List.size_toArray]; exact hle _ (hp.mem_iff.1 (List.getElem_mem hj))⟩
theorem TX.new (h : DS w0 w da sa) (room : Int) (hr : roomB room = true) :
    Calls Try.prog 10 #[.int .i64 room] w fun e w' => ∃ db, e = .returned (.tuple #[.pointer (some ⟨db, 0, none⟩), .int .i64 0]) ∧ TX w0 w' da db sa (New0 room) [] := by
  obtain ⟨D, h1, h2, h3⟩ := h
  refine (newD_any room w hr).mono ?_
  rintro e w' ⟨rfl, hK, hb⟩
  exact ⟨_, rfl, D, NewB w w', h1.below hb, hK, fun j hj hd => by have := h1.lt hj; have := hd.1; omega, h2, fun j hj => Nat.le_trans h3.size hj.1, fun v hv => by simp at hv, List.Pairwise.nil, h3.trans (hb.mono h3.size)⟩
end
/-- a row of texts that grows -/
def OwnX (w : World) (v : Value) (M : List ByteArray) : Prop := w.ownsRow 0 9 1 v M.length (M.map Value.string)
theorem OwnX.keep {w w' : World} {v : Value} {M : List ByteArray} (h : OwnX w v M) (hh : ∀ g, v.ownBlock = some g → w'.heap[g]? = w.heap[g]?) : OwnX w' v M := own_keep h hh
theorem OwnX.form {w : World} {v : Value} {M : List ByteArray} (h : OwnX w v M) : ∃ a c, v = .slice a M.length c ∧ RowR w a M := by
  rcases h.2 with ⟨e, h0⟩ | ⟨g, cap, cur, e, hb, hg, hcap, _⟩
  · exact ⟨none, 0, by rw [e, h0], fun j hj => by omega⟩
  · subst e
    refine ⟨_, _, rfl, fun j hj => ⟨g, 0, rfl, ?_⟩⟩
    have hc := World.ownsRow.cellAt h j (by omega)
    rw [Nat.zero_add, hc, List.getElem?_map, List.getElem?_eq_getElem hj]
    simp [List.getD, hj]
theorem OwnX.nil (w : World) : OwnX w (.slice none 0 0) [] := World.ownsRow_nil _ _ _ _
theorem OwnX.snoc {w : World} {v : Value} {M : List ByteArray} {t : ByteArray} (h : w.ownsRow 0 9 1 v (M.length + 1) (M.map Value.string ++ [.string t])) : OwnX w v (M ++ [t]) := by
  unfold OwnX
  rw [List.length_append, List.map_append]
  exact h
end Go.Proofs.Ytlkgfimignlgaaa
