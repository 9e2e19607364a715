/-
  MATHEMATICS: what is quoted is read as itself; a number's digits are that number.
-/
import Derived.Test.YtdjlneanjnhfjaaGreatDoorN2
import Derived.Test.YtdjlneanjnhfjaaGreatDoorN7
set_option linter.unusedSimpArgs false
set_option linter.unusedVariables false
set_option linter.unusedVariables false
namespace Go.Proofs.YtdjlneanjnhfjaaGreatDoor
open Go.RowKit
/-! ### Validity -/
theorem lenF_nil : lenF [] = 0 := rfl
theorem valid_app {l t : List UInt8} (h : lenF l = l.length) (k : lenF t = t.length) : lenF (l ++ t) = (l ++ t).length := by
  rw [(join l t h).1, k, List.length_append]
theorem valid_enc (c : Nat) (hv : validRune (c : Int) = true) : lenF (encL (c : Int)) = (encL (c : Int)).length := by
  have hp := pt_enc c hv []
  rw [List.append_nil] at hp
  have := (lenF_some hp).1
  rw [List.drop_length, lenF_nil, Nat.add_zero] at this
  exact this
theorem valid_one (b : UInt8) (hb : b.toNat < 128) : lenF [b] = [b].length := by
  have hv : validRune ((b.toNat : Nat) : Int) = true := vr_mk (.inl (by omega))
  have h := valid_enc b.toNat hv
  rw [enc1 _ hb] at h
  have e : UInt8.ofNat b.toNat = b := by simp
  rw [e] at h
  exact h
theorem ascii_valid (l : List UInt8) (h : ∀ b ∈ l, b.toNat < 128) : lenF l = l.length := by
  induction l with
  | nil => rfl
  | cons b t ih => exact valid_app (l := [b]) (valid_one b (h b (List.mem_cons_self ..))) (ih fun x hx => h x (List.mem_cons_of_mem _ hx))
theorem valid_cons {l : List UInt8} (h : lenF l = l.length) (hl : l ≠ []) : ∃ (c : Nat) (t : List UInt8), validRune (c : Int) = true ∧ l = encL (c : Int) ++ t ∧ lenF t = t.length ∧ t.length < l.length := by
  cases hp : ptL l with
  | none =>
    rw [(lenF_none hp).1] at h
    exact absurd (List.eq_nil_of_length_eq_zero h.symm) hl
  | some c =>
    obtain ⟨hv, t, e⟩ := pt_some hp
    have h1 := (lenF_some hp).1
    have h2 := enc_pos c hv
    refine ⟨c, t, hv, e, ?_⟩
    have e2 : l.drop (encL (c : Int)).length = t := by
      rw [e, List.drop_append_of_le_length (Nat.le_refl _), List.drop_length, List.nil_append]
    have e3 : l.length = (encL (c : Int)).length + t.length := by rw [e, List.length_append]
    rw [e2] at h1
    generalize (encL (c : Int)).length = n at *
    constructor <;> omega
theorem quoM_valid (l : List UInt8) : lenF l = l.length → lenF (quoM l) = (quoM l).length := by
  refine strong (P := fun l => lenF l = l.length → lenF (quoM l) = (quoM l).length) ?_ l
  intro l ih h
  by_cases hl : l = []
  · subst hl; rfl
  · obtain ⟨c, t, hv, e0, ht, hlt⟩ := valid_cons h hl
    rw [e0, quoM_append]
    refine valid_app ?_ (ih t hlt ht)
    rcases quo_cases c hv with ⟨i, hi, hc, e⟩ | ⟨_, hc, e⟩ | ⟨_, hc, e⟩
    · rw [e]
      refine ascii_valid _ ?_
      have : ∀ i, i < 7 → ∀ b ∈ ([92, shortLet i] : List UInt8), b.toNat < 128 := by decide
      exact this i hi
    · rw [e]
      refine ascii_valid _ ?_
      have : ∀ c, c < 32 → ∀ b ∈ ([92, 117, 48, 48, hexD (c / 16), hexD (c % 16)] : List UInt8), b.toNat < 128 := by decide
      exact this c hc
    · rw [e]
      exact valid_enc c hv
theorem quoL_valid {l : List UInt8} (h : lenF l = l.length) : lenF (quoL l) = (quoL l).length :=
  valid_app (l := [34]) (valid_one 34 (by decide)) (valid_app (quoM_valid l h) (valid_one 34 (by decide)))
/-! ### Texts in quotes are read as what they say -/
theorem spanL_app (p : Int → Bool) : ∀ (l m : List UInt8), (∀ b ∈ l, p (b.toNat : Nat) = true) → spanL p (l ++ m) = l.length + spanL p m
  | [], m, _ => by simp
  | b :: t, m, h => by
    rw [List.cons_append, spanL, if_pos (h b (List.mem_cons_self ..)), spanL_app p t m (fun x hx => h x (List.mem_cons_of_mem _ hx)), List.length_cons]
    omega
theorem spanL_stop (p : Int → Bool) (b : UInt8) (t : List UInt8) (h : p (b.toNat : Nat) = false) : spanL p (b :: t) = 0 := by rw [spanL, h]; rfl
/-- the bytes that stand for themselves at the front -/
def plainL : List UInt8 → List UInt8
  | [] => []
  | b :: t => if pPlain (b.toNat : Nat) then b :: plainL t else []
theorem plain_split : ∀ l : List UInt8, ∃ r, l = plainL l ++ r ∧ (r = [] ∨ ∃ c t, r = c :: t ∧ pPlain (c.toNat : Nat) = false)
  | [] => ⟨[], rfl, .inl rfl⟩
  | b :: t => by
    rw [plainL]
    split
    · obtain ⟨r, h1, h2⟩ := plain_split t
      exact ⟨r, by rw [List.cons_append, ← h1], h2⟩
    · rename_i h
      exact ⟨b :: t, rfl, .inr ⟨b, t, rfl, by simpa using h⟩⟩
theorem plain_all : ∀ (l : List UInt8), ∀ b ∈ plainL l, pPlain (b.toNat : Nat) = true
  | [], b, h => by simp [plainL] at h
  | a :: t, b, h => by
    rw [plainL] at h
    split at h
    · rename_i ha
      rcases List.mem_cons.1 h with rfl | h
      · exact ha
      · exact plain_all t b h
    · simp at h
theorem plain_quo : ∀ n : Nat, n < 256 → pPlain (n : Nat) = true → quoB (UInt8.ofNat n) = [UInt8.ofNat n] := by decide +kernel
theorem quoM_plain : ∀ (l : List UInt8), (∀ b ∈ l, pPlain (b.toNat : Nat) = true) → quoM l = l
  | [], _ => rfl
  | b :: t, h => by
    have e : quoM (b :: t) = quoB b ++ quoM t := by simp [quoM]
    have hb := plain_quo b.toNat b.toNat_lt (h b (List.mem_cons_self ..))
    have e2 : UInt8.ofNat b.toNat = b := by simp
    rw [e2] at hb
    rw [e, hb, quoM_plain t (fun x hx => h x (List.mem_cons_of_mem _ hx))]
    rfl
theorem esc_few : ∀ n : Nat, n < 256 → pPlain (n : Nat) = false → n = 34 ∨ n = 92 ∨ n = 8 ∨ n = 12 ∨ n = 10 ∨ n = 13 ∨ n = 9 ∨ (n < 32 ∧ quoB (UInt8.ofNat n) = [92, 117, 48, 48, hexD (n / 16), hexD (n % 16)]) := by decide +kernel
theorem esc_hex : ∀ n : Nat, n < 32 → hexF 0 [48, 48, hexD (n / 16), hexD (n % 16)] = some (n : Int) := by decide +kernel
theorem esc_low : ∀ n : Nat, n < 32 → pointB (n : Int) = true ∧ (bytesS (n : Int)).data.toList = [UInt8.ofNat n] := by decide +kernel
theorem esc_on (c : UInt8) (h : pPlain (c.toNat : Nat) = false) (r : List UInt8) : ∃ e : List UInt8, quoB c = 92 :: e ∧ escL (quoB c ++ r) = some ([c], (quoB c).length) := by
  have e2 : UInt8.ofNat c.toNat = c := by simp
  have hsh := esc_few c.toNat c.toNat_lt h
  rcases hsh with hn | hn | hn | hn | hn | hn | hn | ⟨hn, h1⟩
  · rw [hn] at e2; subst e2; exact ⟨_, rfl, rfl⟩
  · rw [hn] at e2; subst e2; exact ⟨_, rfl, rfl⟩
  · rw [hn] at e2; subst e2; exact ⟨_, rfl, rfl⟩
  · rw [hn] at e2; subst e2; exact ⟨_, rfl, rfl⟩
  · rw [hn] at e2; subst e2; exact ⟨_, rfl, rfl⟩
  · rw [hn] at e2; subst e2; exact ⟨_, rfl, rfl⟩
  · rw [hn] at e2; subst e2; exact ⟨_, rfl, rfl⟩
  · rw [e2] at h1
    have h2 := esc_hex c.toNat hn
    refine ⟨_, h1, ?_⟩
    rw [h1]
    obtain ⟨p1, p2⟩ := esc_low c.toNat hn
    have hu : unitL (92 :: 117 :: 48 :: 48 :: hexD (c.toNat / 16) :: hexD (c.toNat % 16) :: r) = some (c.toNat : Int) := by
      unfold unitL hexO
      simp only
      rw [if_neg (by show ¬ (List.toArray _).size < 4; simp)]
      exact h2
    show escL (92 :: 117 :: 48 :: 48 :: hexD (c.toNat / 16) :: hexD (c.toNat % 16) :: r) = _
    simp only [escL]
    rw [hu]
    simp only [p1, if_true]
    rw [p2, e2]
    rfl
theorem quot_read : ∀ (k : Nat) (l : List UInt8), l.length < k → ∀ (n : Nat) (s : List UInt8) (i : Nat) (acc post : List UInt8), k ≤ n → s.drop i = quoM l ++ 34 :: post → quotP n s i acc = .ok (acc ++ l, i + (quoM l).length + 1)
  | 0, l, h, _, _, _, _, _, _, _ => absurd h (Nat.not_lt_zero _)
  | k + 1, l, h, n, s, i, acc, post, hn, hs => by
    obtain ⟨n, rfl⟩ : ∃ m, n = m + 1 := ⟨n - 1, by omega⟩
    obtain ⟨r, hr, hc⟩ := plain_split l
    have hp := plain_all l
    generalize plainL l = p at hr hp
    have hq : quoM l = p ++ quoM r := by rw [hr, quoM_append, quoM_plain p hp]
    have hstop : spanL pPlain (quoM r ++ 34 :: post) = 0 := by
      rcases hc with rfl | ⟨c, t, rfl, hc⟩
      · exact spanL_stop _ _ _ (by decide)
      · obtain ⟨e, he, _⟩ := esc_on c hc []
        have : quoM (c :: t) = 92 :: (e ++ quoM t) := by simp [quoM, he]
        rw [this]
        exact spanL_stop _ _ _ (by decide)
    have hspan : spanL pPlain (s.drop i) = p.length := by
      rw [hs, hq, List.append_assoc, spanL_app _ _ _ hp, hstop, Nat.add_zero]
    have hdrop : s.drop (i + p.length) = quoM r ++ 34 :: post := by
      rw [← List.drop_drop, hs, hq, List.append_assoc, List.drop_append_of_le_length (Nat.le_refl _), List.drop_length, List.nil_append]
    have htake : (s.drop i).take p.length = p := by
      rw [hs, hq, List.append_assoc, List.take_append_of_le_length (Nat.le_refl _), List.take_length]
    rw [quotP, hspan, htake]
    unfold byL
    rw [hdrop]
    rcases hc with rfl | ⟨c, t, rfl, hc⟩
    · rw [List.append_nil] at hr
      subst hr
      simp only [show quoM [] = [] from rfl, List.nil_append, List.head?_cons, if_true]
      rw [quoM_plain l hp]
    · obtain ⟨e, he, hesc⟩ := esc_on c hc (quoM t ++ 34 :: post)
      have hqc : quoM (c :: t) ++ 34 :: post = quoB c ++ (quoM t ++ 34 :: post) := by simp [quoM]
      rw [hqc]
      have hhead : (quoB c ++ (quoM t ++ 34 :: post)).head? = some 92 := by rw [he]; rfl
      rw [hhead]
      simp only [show ¬ ((92 : UInt8) = 34) by decide, if_false, if_true]
      rw [hesc]
      simp only
      have hlen : l.length = p.length + (t.length + 1) := by rw [hr, List.length_append, List.length_cons]
      have hdrop2 : s.drop (i + p.length + (quoB c).length) = quoM t ++ 34 :: post := by
        rw [← List.drop_drop, hdrop, hqc, List.drop_append_of_le_length (Nat.le_refl _), List.drop_length, List.nil_append]
      rw [quot_read k t (by omega) n s _ _ post (by omega) hdrop2]
      have hql : (quoM l).length = p.length + ((quoB c).length + (quoM t).length) := by
        rw [hq, List.length_append]
        have : quoM (c :: t) = quoB c ++ quoM t := by simp [quoM]
        rw [this, List.length_append]
      rw [hql, hr]
      simp only [List.append_assoc, List.singleton_append]
      congr 2
      omega
end Go.Proofs.YtdjlneanjnhfjaaGreatDoor
