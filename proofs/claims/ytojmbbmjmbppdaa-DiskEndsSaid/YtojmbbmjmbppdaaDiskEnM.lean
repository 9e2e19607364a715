/-
  What DiskEnds wants: a crash that does all, or nothing; the state of two disks and rows between two steps.
-/
import Derived.Test.YtojmbbmjmbppdaaDiskTX
set_option linter.unusedVariables false
set_option linter.unusedSimpArgs false
namespace Go.Proofs.Ytojmbbmjmbppdaa
open Go.RowKit
theorem crashed_all (room f : Int) (S : Fs) (L : List Op) (h : L.length ≤ 1000) : crashF ⟨room, f, S, L⟩ 1000 0 = doAll S L := by
  have hk : keptN ⟨room, f, S, L⟩ 1000 = L.length := by
    show (min (max (1000 : Int) 0) (L.length : Nat)).toNat = L.length
    omega
  unfold crashF
  rw [hk]
  show (match L[L.length]? with | some op => _ | none => doAll S (L.take L.length)) = _
  rw [List.getElem?_eq_none (Nat.le_refl _), List.take_length]
theorem crashed_nil (room f : Int) (S : Fs) (c b : Int) : crashF ⟨room, f, S, []⟩ c b = S := by
  unfold crashF
  simp [doAll]
theorem crashed_none (room f : Int) (S : Fs) (L : List Op) : (∀ u, hasF S u = true → hasF (crashF ⟨room, f, S, L⟩ 0 (-1)) u = true ∧ getF (crashF ⟨room, f, S, L⟩ 0 (-1)) u = getF S u) ∧ (crashF ⟨room, f, S, L⟩ 0 (-1)).length ≤ S.length + 1 := by
  have hk : keptN ⟨room, f, S, L⟩ 0 = 0 := by
    show (min (max (0 : Int) 0) (L.length : Nat)).toNat = 0
    omega
  have hp : partN (-1) = 0 := by decide
  have e : crashF ⟨room, f, S, L⟩ 0 (-1) = match L[0]? with | some op => doF 0 S op | none => S := by
    unfold crashF
    rw [hk, hp]
    show (match L[0]? with | some op => if (0 : Int) ≤ 0 then doF 0 (doAll S (L.take 0)) op else doAll S (L.take 0) | none => doAll S (L.take 0)) = _
    rw [List.take_zero]
    cases L[0]? with
    | none => rfl
    | some op => exact if_pos (Int.le_refl 0)
  rw [e]
  cases L[0]? with
  | none => exact ⟨fun u h => ⟨h, rfl⟩, Nat.le_succ _⟩
  | some op =>
    cases op with
    | app s d =>
      show (∀ u, hasF S u = true → hasF (putF S s (getF S s ++ d.data.toList.take (min 0 d.size))) u = true ∧ getF (putF S s (getF S s ++ d.data.toList.take (min 0 d.size))) u = getF S u) ∧ (putF S s (getF S s ++ d.data.toList.take (min 0 d.size))).length ≤ S.length + 1
      rw [Nat.zero_min, List.take_zero, List.append_nil]
      refine ⟨fun u h => ?_, (len_putF S s _).1⟩
      rw [has_put, get_put, h]
      refine ⟨by simp, ?_⟩
      by_cases hu : u = s
      · rw [if_pos hu, hu]
      · rw [if_neg hu]
    | cut s n => exact ⟨fun u h => ⟨h, rfl⟩, Nat.le_succ _⟩
    | ren s t => exact ⟨fun u h => ⟨h, rfl⟩, Nat.le_succ _⟩
    | rem s => exact ⟨fun u h => ⟨h, rfl⟩, Nat.le_succ _⟩
theorem cut_S (st : Ds) (s : ByteArray) (n : Int) : (cutS st s n).2.S = st.S := by
  unfold cutS
  repeat' split
  all_goals rfl
theorem ren_S (st : Ds) (s d : ByteArray) : (renS st s d).2.S = st.S := by
  unfold renS
  repeat' split
  all_goals rfl
theorem rem_S (st : Ds) (s : ByteArray) : (remS st s).2.S = st.S := by
  unfold remS
  repeat' split
  all_goals rfl
/-- the text of a file -/
def txtF (F : Fs) (nm : ByteArray) : ByteArray := ⟨(getF F nm).toArray⟩
def NamesOk (F : Fs) (N : List ByteArray) : Prop := ∀ j, j < N.length → hasF F (N.getD j ByteArray.empty) = true ∧ (N.getD j ByteArray.empty).size ≤ maxLen
theorem take_snoc {N : List ByteArray} {k : Nat} (h : k < N.length) (f : ByteArray → ByteArray) : (N.take (k + 1)).map f = (N.take k).map f ++ [f (N.getD k ByteArray.empty)] := by
  rw [List.take_succ_eq_append_getElem h, List.map_append]
  simp [List.getD, h]
theorem getD_map {N : List ByteArray} {k : Nat} (h : k < N.length) (f : ByteArray → ByteArray) : (N.map f).getD k ByteArray.empty = f (N.getD k ByteArray.empty) := by
  simp [List.getD, h]
section
variable {w0 w w' : World} {da db : Nat} {sa sb sa' sb' : Ds} {v : Value} {M N : List ByteArray} {na : Option Addr} {nc : Nat}
/-- two disks, a row of names, a row of texts that grows -/
def EI (w0 w : World) (da db : Nat) (sa sb : Ds) (v : Value) (M : List ByteArray) (na : Option Addr) (N : List ByteArray) (nc : Nat) : Prop :=
  TX w0 w da db sa sb [v, .slice na N.length nc] ∧ OwnX w v M ∧ RowR w na N
theorem EI.symm (h : EI w0 w da db sa sb v M na N nc) : EI w0 w db da sb sa v M na N nc := ⟨h.1.symm, h.2⟩
theorem EI.of (h : EI w0 w da db sa sb v M na N nc) (ht : TX w0 w' da db sa' sb' [v, .slice na N.length nc]) (hk : KeepV [v, .slice na N.length nc] w w') : EI w0 w' da db sa' sb' v M na N nc :=
  ⟨ht, h.2.1.keep fun g hg => hk v (List.mem_cons_self ..) g hg, h.2.2.keep (n := N.length) (c := nc) fun j hj => hk _ (List.mem_cons_of_mem _ (List.mem_cons_self ..)) j hj⟩
theorem EI.below (h : EI w0 w da db sa sb v M na N nc) (hb : Below w.heap.size w w') : EI w0 w' da db sa sb v M na N nc := by
  obtain ⟨p, q⟩ := h.1.below hb
  exact h.of p q
theorem EI.call {f : Nat} {args : Array Value} {r : Ending} (h : EI w0 w da db sa sb v M na N nc) (hc : Calls Try.prog f args w fun e w' => e = r ∧ TX w0 w' da db sa' sb [v, .slice na N.length nc] ∧ KeepV [v, .slice na N.length nc] w w') :
    Calls Try.prog f args w fun e w' => e = r ∧ EI w0 w' da db sa' sb v M na N nc := hc.mono fun e w' ⟨he, ht, hk⟩ => ⟨he, h.of ht hk⟩
/-- .. and the texts have grown by one -/
theorem EI.grow {t : ByteArray} {g cap : Nat} (h : EI w0 w da db sa sb v M na N nc) (hown : w'.ownsRow 0 9 1 (.slice (some ⟨g, 0, none⟩) (M.length + 1) cap) (M.length + 1) (M.map Value.string ++ [.string t])) (hg : w.grownBy w' v.ownBlock) (hat : v.ownBlock = some g ∨ g = w.heap.size) (hlt : g < w'.heap.size) :
    EI w0 w' da db sa sb (.slice (some ⟨g, 0, none⟩) (M.length + 1) cap) (M ++ [t]) na N nc := by
  obtain ⟨p, q⟩ := h.1.grow (v' := .slice (some ⟨g, 0, none⟩) (M.length + 1) cap) hg rfl (hat.imp_right fun e => Nat.le_of_eq e.symm) hlt
  exact ⟨p, OwnX.snoc hown, h.2.2.keep (n := N.length) (c := nc) fun j hj => q _ (List.mem_cons_self ..) j hj⟩
variable {W K : List ByteArray} {la ta : Option Addr} {lc tc : Nat}
/-- two disks, three rows, a row of texts that grows -/
def EJ (w0 w : World) (da db : Nat) (sa sb : Ds) (v : Value) (W : List ByteArray) (la : Option Addr) (K : List ByteArray) (lc : Nat) (ta : Option Addr) (M : List ByteArray) (tc : Nat) (na : Option Addr) (N : List ByteArray) (nc : Nat) : Prop :=
  TX w0 w da db sa sb [v, .slice la K.length lc, .slice ta M.length tc, .slice na N.length nc] ∧ OwnX w v W ∧ RowR w la K ∧ RowR w ta M ∧ RowR w na N
theorem EJ.symm (h : EJ w0 w da db sa sb v W la K lc ta M tc na N nc) : EJ w0 w db da sb sa v W la K lc ta M tc na N nc := ⟨h.1.symm, h.2⟩
theorem EJ.of (h : EJ w0 w da db sa sb v W la K lc ta M tc na N nc) (ht : TX w0 w' da db sa' sb' [v, .slice la K.length lc, .slice ta M.length tc, .slice na N.length nc]) (hk : KeepV [v, .slice la K.length lc, .slice ta M.length tc, .slice na N.length nc] w w') : EJ w0 w' da db sa' sb' v W la K lc ta M tc na N nc :=
  ⟨ht, h.2.1.keep fun g hg => hk v (by simp) g hg, h.2.2.1.keep (n := K.length) (c := lc) fun j hj => hk _ (by simp) j hj, h.2.2.2.1.keep (n := M.length) (c := tc) fun j hj => hk _ (by simp) j hj, h.2.2.2.2.keep (n := N.length) (c := nc) fun j hj => hk _ (by simp) j hj⟩
theorem EJ.below (h : EJ w0 w da db sa sb v W la K lc ta M tc na N nc) (hb : Below w.heap.size w w') : EJ w0 w' da db sa sb v W la K lc ta M tc na N nc := by
  obtain ⟨p, q⟩ := h.1.below hb
  exact h.of p q
theorem EJ.call {f : Nat} {args : Array Value} {r : Ending} (h : EJ w0 w da db sa sb v W la K lc ta M tc na N nc) (hc : Calls Try.prog f args w fun e w' => e = r ∧ TX w0 w' da db sa' sb [v, .slice la K.length lc, .slice ta M.length tc, .slice na N.length nc] ∧ KeepV [v, .slice la K.length lc, .slice ta M.length tc, .slice na N.length nc] w w') :
    Calls Try.prog f args w fun e w' => e = r ∧ EJ w0 w' da db sa' sb v W la K lc ta M tc na N nc := hc.mono fun e w' ⟨he, ht, hk⟩ => ⟨he, h.of ht hk⟩
theorem EJ.grow {t : ByteArray} {g cap : Nat} (h : EJ w0 w da db sa sb v W la K lc ta M tc na N nc) (hown : w'.ownsRow 0 9 1 (.slice (some ⟨g, 0, none⟩) (W.length + 1) cap) (W.length + 1) (W.map Value.string ++ [.string t])) (hg : w.grownBy w' v.ownBlock) (hat : v.ownBlock = some g ∨ g = w.heap.size) (hlt : g < w'.heap.size) :
    EJ w0 w' da db sa sb (.slice (some ⟨g, 0, none⟩) (W.length + 1) cap) (W ++ [t]) la K lc ta M tc na N nc := by
  obtain ⟨p, q⟩ := h.1.grow (v' := .slice (some ⟨g, 0, none⟩) (W.length + 1) cap) hg rfl (hat.imp_right fun e => Nat.le_of_eq e.symm) hlt
  exact ⟨p, OwnX.snoc hown, h.2.2.1.keep (n := K.length) (c := lc) fun j hj => q _ (by simp) j hj, h.2.2.2.1.keep (n := M.length) (c := tc) fun j hj => q _ (by simp) j hj, h.2.2.2.2.keep (n := N.length) (c := nc) fun j hj => q _ (by simp) j hj⟩
/-- Names among them: the new row is looked at and let go -/
theorem EJ.names (h : EJ w0 w da db sa sb v W la K lc ta M tc na N nc) : Calls Try.prog 24 #[.pointer (some ⟨da, 0, none⟩)] w fun e w' => ∃ a c n, e = .returned (.slice a n c) ∧ n = sa.now.length ∧ EJ w0 w' da db sa sb v W la K lc ta M tc na N nc := by
  refine h.1.names.mono ?_
  rintro e w' ⟨a, c, P, rfl, _, hl, _, _, ht, hk⟩
  exact ⟨a, c, P.length, rfl, hl, h.of (ht.sub (List.sublist_cons_self _ _)) hk⟩
/-- the first names, and a row of texts that is still empty -/
theorem EI.jot (h : EI w0 w da db sa sb v M na N nc) : ∃ ta tc, v = .slice ta M.length tc ∧ Calls Try.prog 24 #[.pointer (some ⟨da, 0, none⟩)] w fun e w' => ∃ la lc K, e = .returned (.slice la K.length lc) ∧ K.length = sa.now.length ∧ NamesOk sa.now K ∧ EJ w0 w' da db sa sb (.slice none 0 0) [] la K lc ta M tc na N nc := by
  obtain ⟨ta, tc, rfl, hR⟩ := h.2.1.form
  refine ⟨ta, tc, rfl, h.1.names.mono ?_⟩
  rintro e w' ⟨a, c, K, rfl, _, hl, hK, hr, ht, hk⟩
  exact ⟨a, c, K, rfl, hl, hK, ht.nil, OwnX.nil _, hr, hR.keep (n := M.length) (c := tc) fun j hj => hk _ (by simp) j hj, h.2.2.keep (n := N.length) (c := nc) fun j hj => hk _ (by simp) j hj⟩
/-- names anew, the texts still empty -/
theorem EI.anew (h : EI w0 w da db sa sb v M na N nc) : Calls Try.prog 24 #[.pointer (some ⟨da, 0, none⟩)] w fun e w' => ∃ la lc K, e = .returned (.slice la K.length lc) ∧ K.length = sa.now.length ∧ NamesOk sa.now K ∧ EI w0 w' da db sa sb (.slice none 0 0) [] la K lc := by
  refine h.1.names.mono ?_
  rintro e w' ⟨a, c, K, rfl, _, hl, hK, hr, ht, hk⟩
  refine ⟨a, c, K, rfl, hl, hK, (ht.sub (V' := [.slice a K.length c]) ?_).nil, OwnX.nil _, hr⟩
  exact List.Sublist.cons_cons _ (List.nil_sublist _)
end
theorem OX.fineS {w0 w : World} {db : Nat} {st : Ds} {V : List Value} (h : OX w0 w db st V) : FineF st.room st.S := by
  obtain ⟨D, ⟨m1, m2, lv, fs, E1, E2, h⟩, _⟩ := h
  exact h.chain.first
theorem OwnX.rowAt {w : World} {a : Option Addr} {c : Nat} {W : List ByteArray} (h : OwnX w (.slice a W.length c) W) : RowR w a W := by
  obtain ⟨a', c', e, hR⟩ := h.form
  simp only [Value.slice.injEq] at e
  obtain ⟨rfl, _, _⟩ := e
  exact hR
theorem room_14 : roomB 16384 = true := by decide
end Go.Proofs.Ytojmbbmjmbppdaa
