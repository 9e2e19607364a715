/-
  CONTRACTS of package disk's files: has, size.
-/
import Derived.Test.YtlkgfimignlgaaaN1
import Derived.StringKeys
set_option linter.unusedSimpArgs false
set_option linter.unusedVariables false
set_option linter.unusedVariables false
namespace Go.Proofs.Ytlkgfimignlgaaa
open Go.RowKit
theorem keyLaw : Maps.Keyed Try.prog 9 := Maps.string_keyed Try.underlying9
theorem zeroB (w : World) : (zeroValue 65).run Try.prog w = .ok (.slice none 0 0) w := by kernel_rfl
theorem keyE {s : ByteArray} (h : s.size ≤ maxLen) : keyOf Try.prog 9 (.string s) = some (litE s) := WideMaps.keyOf_string_mk Try.underlying9 h
theorem slot_val {E : List En} {s : ByteArray} {v : Value} {ps : List MemPlace} (h : slotE v = some ((datE E).atKey (litE s) (.held (.slice none 0 0)), ps)) : v = valE E s := by
  rw [dat_at] at h
  unfold slotE at h
  cases h
  rfl
theorem has_any (mb : Nat) (E : List En) (s : ByteArray) (w : World) (h : FM w mb E) (hs : s.size ≤ maxLen) :
    Calls Try.prog 42 #[.map (some mb), .string s] w fun e w' => e = .returned (.bool (hasE E s)) ∧ w' = w := by
  have hm := h.map
  have hk := keyE hs
  go_enter Try.func42, Try.ntmps42
  go_wp2_with (first | (at_lookup; refine wpList_lookup_own_ok _ rfl _ _ 57 rfl 9 65 keyLaw Try.underlying57 slotE (zeroB _) (.held (.slice none 0 0)) [] rfl mb _ _ rfl hm _ _ rfl hk ?_; intro v ps hv; rw [dat_has]))
  go_ret
  exact ⟨rfl, rfl⟩
/-! ### How many bytes all files have -/
def sumE (E : List En) : Nat := (E.map fun x => x.data.length).sum
/-- .. those that are no longer to come -/
def sumL (left : Lit → Bool) (E : List En) : Nat := (E.map fun x => if left (litE x.name) then 0 else x.data.length).sum
theorem names_of {w : World} {mb : Nat} {E : List En} (h : FM w mb E) : E.Pairwise fun x y => litE x.name ≠ litE y.name := by
  obtain ⟨es, he, hp⟩ := h.map.tidy keyLaw
  have h2 : E.map pairE = es := by
    unfold datE at he
    cases he
    rfl
  rw [← h2, List.pairwise_map] at hp
  exact hp
theorem sum_none {left : Lit → Bool} : ∀ {E : List En}, (∀ x ∈ E, left (litE x.name) = true) → sumL left E = 0
  | [], _ => rfl
  | x :: r, h => by
    have ih := sum_none (E := r) fun y hy => h y (List.mem_cons_of_mem _ hy)
    unfold sumL at ih ⊢
    rw [List.map_cons, List.sum_cons, ih, if_pos (h x (by simp))]
theorem sum_all {left : Lit → Bool} : ∀ {E : List En}, (∀ kl, left kl = false) → sumL left E = sumE E
  | [], _ => rfl
  | x :: r, h => by
    have ih := sum_all (E := r) h
    unfold sumL sumE at ih ⊢
    rw [List.map_cons, List.sum_cons, List.map_cons, List.sum_cons, ih, if_neg (by simp [h])]
theorem sum_same {l m : Lit → Bool} : ∀ {E : List En}, (∀ x ∈ E, l (litE x.name) = m (litE x.name)) → sumL l E = sumL m E
  | [], _ => rfl
  | x :: r, h => by
    have ih := sum_same (E := r) fun y hy => h y (List.mem_cons_of_mem _ hy)
    unfold sumL at ih ⊢
    rw [List.map_cons, List.sum_cons, List.map_cons, List.sum_cons, ih, h x (by simp)]
theorem same_lit (s t : ByteArray) : (litE s).sameKey (litE t) = (s.data.toList == t.data.toList) := rfl
theorem same_not {a b : ByteArray} (h : litE a ≠ litE b) : (litE a).sameKey (litE b) = false := Maps.sameKey_ne h
theorem same_self (s : ByteArray) : (litE s).sameKey (litE s) = true := by rw [same_lit]; exact beq_self_eq_true _
theorem sum_step {left : Lit → Bool} : ∀ {E : List En}, E.Pairwise (fun x y => litE x.name ≠ litE y.name) → ∀ {x : En}, x ∈ E → left (litE x.name) = true → sumL (fun z => left z && !z.sameKey (litE x.name)) E = sumL left E + x.data.length
  | [], _, _, h, _ => by cases h
  | y :: r, hp, x, h, hl => by
    rw [List.pairwise_cons] at hp
    rcases List.mem_cons.1 h with rfl | h
    · have e := sum_same (l := fun z => left z && !z.sameKey (litE x.name)) (m := left) (E := r) fun z hz => by
        rw [same_not (Ne.symm (hp.1 z hz))]
        simp
      unfold sumL at e ⊢
      rw [List.map_cons, List.sum_cons, List.map_cons, List.sum_cons, e]
      simp only [same_self, hl, Bool.not_true, Bool.and_false, Bool.false_eq_true, if_false, if_true]
      omega
    · have ih := sum_step hp.2 h hl
      have hn := same_not (hp.1 x h)
      unfold sumL at ih ⊢
      rw [List.map_cons, List.sum_cons, List.map_cons, List.sum_cons, ih]
      simp only [hn, Bool.not_false, Bool.and_true]
      omega
theorem sum_le {left : Lit → Bool} : ∀ {E : List En}, sumL left E ≤ sumE E
  | [] => Nat.le_refl _
  | x :: r => by
    have ih := sum_le (left := left) (E := r)
    unfold sumL sumE at ih ⊢
    rw [List.map_cons, List.sum_cons, List.map_cons, List.sum_cons]
    split <;> omega
theorem has_mem {E : List En} {x : En} (h : x ∈ E) : Maps.has (datE E) (litE x.name) = true := by
  rw [dat_has]
  unfold hasE
  rw [List.any_eq_true]
  exact ⟨x, h, beq_self_eq_true _⟩
theorem key_inv {v : Value} {l : Lit} (h : keyOf Try.prog 9 v = some l) : ∃ s : ByteArray, v = .string s ∧ l = litE s := by
  obtain ⟨s, h1, h2, _⟩ := WideMaps.string_of_keyOf Try.underlying9 h
  exact ⟨s, h1, h2⟩
/-- which entry has come -/
theorem came {E : List En} {s : ByteArray} {c : Value} (hh : hasE E s = true) (hat : ∀ zd, (datE E).atKey (litE s) zd = .held c) : ∃ x ∈ E, x.name = s ∧ x.val = c := by
  have h := hat (.held (.slice none 0 0))
  rw [dat_at] at h
  rw [has_get] at hh
  obtain ⟨x, hx⟩ := Option.isSome_iff_exists.1 hh
  unfold valE at h
  rw [hx] at h
  exact ⟨x, (get_mem hx).1, eq_name (get_mem hx).2, by cases h; rfl⟩
/-- what may be left is there -/
theorem left_has {w : World} {mb r n cnt : Nat} {E : List En} {left : Lit → Bool} (h : w.ranges Try.prog 9 slotE mb r n (datE E) left cnt) {s : ByteArray} (hl : left (litE s) = true) : hasE E s = true := by
  obtain ⟨es, clock, since, seen, c0, _, _, _, hD, _, _, _, _, hx, _⟩ := h
  obtain ⟨x, hx1, hx2⟩ := hx _ hl
  rw [← dat_has, hD, Maps.has_eq, List.any_eq_true]
  refine ⟨WideElems.rg Try.prog 9 slotE x, ?_, by rw [hx2]; exact same_self s⟩
  exact (WideShapes.sorted_perm _).mem_iff.2 (List.mem_map_of_mem hx1)
set_option maxRecDepth 100000 in
theorem size_any (mb : Nat) (E : List En) (w : World) (h : FM w mb E) (hs : sumE E ≤ 1000000000) :
    Calls Try.prog 39 #[.map (some mb)] w fun e w' => e = .returned (.int .i64 (sumE E : Nat)) ∧ Below w.heap.size w w' := by
  have hm := h.map
  have hlt := h.lt
  have hN := names_of h
  go_enter Try.func39, Try.ntmps39
  go_wp2_with (first | (at_range; refine wpList_range_own _ rfl _ 57 rfl 9 65 keyLaw Try.underlying57 slotE mb _ _ rfl hm ?_; intro w0 hrg0 hg0 hs0))
  go_frame
  go_loopw [3] (fun v wr => ∃ (left : Lit → Bool) (cnt : Nat), v = .int .i64 (sumL left E : Nat) ∧ wr.ranges Try.prog 9 slotE mb w.heap.size E.length (datE E) left cnt ∧ Below w.heap.size w wr) (fun _ wr => wr.rangeLeft mb w.heap.size)
  case atStart => exact ⟨_, _, by rw [sum_none fun x hx => has_mem hx]; rfl, hrg0, (Below.refl _ _).grown hg0 (Nat.le_refl _) (fun j hj => by cases hj)⟩
  case round =>
    obtain ⟨left, cnt, rfl, hrg, hb⟩ := hrel
    have hle := sum_le (left := left) (E := E)
    go_wp2_with (first | (at_next; refine wpList_next_ranges _ rfl _ rfl 9 keyLaw slotE Value.string id (fun key kl hk => by obtain ⟨s, e, _⟩ := key_inv hk; exact ⟨s, e⟩) (fun v y _ => ⟨v, rfl⟩) mb w.heap.size _ _ _ _ rfl hrg ?_ ?_))
    · intro hc0 hl0
      go_wp2
      go_ret
      rw [sum_all hl0]
      exact ⟨rfl, hb⟩
    · intro s c kl yd yp w1 cnt1 hkey hlx hy hat hrg1 hlt1 hg1 hs1 hen
      obtain ⟨s', hs', rfl⟩ := key_inv hkey
      cases hs'
      have hy2 : yd = .held c := by unfold slotE at hy; cases hy; rfl
      subst hy2
      obtain ⟨x, hx, rfl, rfl⟩ := came (left_has hrg hlx) hat
      obtain ⟨a, cap, hv⟩ := (h.rows x hx).shape
      have hst := sum_step hN hx hlx
      have hle2 := sum_le (left := fun z => left z && !z.sameKey (litE x.name)) (E := E)
      rw [hst] at hle2
      have HST := Lib.hid hst
      simp only [id, hv] at hen ⊢
      clear hst
      go_wp2_with fail
      go_roundw
      case rel => exact ⟨_, cnt1, by rw [HST.out]; go_num, hrg1, hb.grown hg1 hb.size (fun j hj => by cases hj; exact Nat.le_refl _)⟩
      case measure => rw [hrg1.left_eq, hrg.left_eq]; exact hlt1
end Go.Proofs.Ytlkgfimignlgaaa
