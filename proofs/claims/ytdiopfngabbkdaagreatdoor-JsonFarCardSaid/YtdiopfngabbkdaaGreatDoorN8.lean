/-
  TEXTS OF THE SEAT, put together: LaidJ, JsonRtM, JsonIntM, JsonRdM, JsonGdM.
-/
import Derived.Test.YtdiopfngabbkdaaGreatDoorRows
import Derived.Test.YtdiopfngabbkdaaGreatDoorN7
import Derived.ChangeSame
import Derived.ChangeVars
import Derived.JoinedOf
import Derived.RowKitTokens
import Derived.LaidLaws
import Derived.LaidHandle
import Derived.Stop.Joined
import Derived.Test.YtdiopfngabbkdaaGreatDoorN2
import Derived.Test.YtdiopfngabbkdaaGreatDoorN4
import Derived.Test.YtdiopfngabbkdaaGreatDoorN5
import Derived.Test.YtdiopfngabbkdaaGreatDoorN3
set_option linter.unusedSimpArgs false
set_option linter.unusedVariables false

/-
  THE LAID VARIABLES of the json rows: the library's two error variables and three tables, as the program's text lays them: what a walk needs of them; a world that meets the condition.
-/
namespace Go.Proofs.YtdiopfngabbkdaaGreatDoor
open Go.ChangeShapes Go.WideShapes Go.RowKit
def laidL : List (String × DataW Unit) := [("math/bits.deBruijn32tab", Rows.laid_math_bits_deBruijn32tab), ("math/bits.deBruijn64tab", Rows.laid_math_bits_deBruijn64tab), ("internal/strconv.uint64pow10", Rows.laid_internal_strconv_uint64pow10), ("strconv.ErrRange", Rows.laid_strconv_ErrRange), ("strconv.ErrSyntax", Rows.laid_strconv_ErrSyntax)]
theorem glob_syn : Tryz.prog.globalNamed "strconv.ErrSyntax" = some 1 := by kernel_rfl
theorem glob_rng : Tryz.prog.globalNamed "strconv.ErrRange" = some 2 := by kernel_rfl
theorem gtyp_syn : (Tryz.prog.globals[1]?).map (·.type) = some 78 := by kernel_rfl
theorem gtyp_rng : (Tryz.prog.globals[2]?).map (·.type) = some 78 := by kernel_rfl
theorem vars_of_laid {W : World} (h : laidMet Tryz.prog laidL W) : Vars W := by
  obtain ⟨ps, ⟨ga, ta, csa, fa, pa, qa, hga, hta, hva, hda, ⟨gb, tb, csb, fb, pb, qb, hgb, htb, hvb, hdb, ⟨gc, tc, csc, fc, pc, qc, hgc, htc, hvc, hdc, ⟨gd, td, csd, fd, pd, qd, hgd, htd, hvd, hdd, ⟨ge, te, cse, fe, pe, qe, hge, hte, hve, hde, _⟩, _⟩, _⟩, _⟩, _⟩, hnd, hrows⟩ := h
  obtain rfl := Option.some.inj (glob_rng.symm.trans hgd)
  obtain rfl := Option.some.inj (glob_syn.symm.trans hge)
  obtain rfl := Option.some.inj (gtyp_rng.symm.trans htd)
  obtain rfl := Option.some.inj (gtyp_syn.symm.trans hte)
  obtain ⟨_, u1, v1, e1, _⟩ := iface_of_trod Tryz.underlying78 hdd
  obtain ⟨_, u2, v2, e2, _⟩ := iface_of_trod Tryz.underlying78 hde
  obtain ⟨l1⟩ := csd
  obtain ⟨l2⟩ := cse
  simp only at e1 e2
  subst e1
  subst e2
  have c1 : W.cell? ⟨2, 0, none⟩ = some (.iface u1 v1) := by simpa using World.var?_cell glob_rng hvd 0
  have c2 : W.cell? ⟨1, 0, none⟩ = some (.iface u2 v2) := by simpa using World.var?_cell glob_syn hve 0
  exact ⟨⟨u2, v2, c2⟩, ⟨u1, v1, c1⟩, World.block_lt_of_cell? W _ c2, World.block_lt_of_cell? W _ c1⟩
def intsOf : DataW Unit → List Value
  | .agg ds => ds.map fun | .lit (.int k n) => .int k n | _ => undef
  | _ => []
noncomputable def laidLow : Nat := (World.holding Tryz.prog default ⟨#[], #[], []⟩).heap.size
def putCells (h : Array Obj) (g : Nat) (cs : Array Value) : Array Obj := h.modify g fun
  | .cells _ t frozen => .cells cs t frozen
  | o => o
/-- A world that meets the condition: the settled one, the variables' cells laid. -/
noncomputable def laidWorld (os : Os) : World :=
  let w0 := World.holding Tryz.prog os ⟨#[.cells #[.string ⟨#[118, 97, 108, 117, 101, 32, 111, 117, 116, 32, 111, 102, 32, 114, 97, 110, 103, 101]⟩] 152, .cells #[.string ⟨#[105, 110, 118, 97, 108, 105, 100, 32, 115, 121, 110, 116, 97, 120]⟩] 152], #[], []⟩
  { w0 with heap := putCells (putCells (putCells (putCells (putCells w0.heap 2 #[.iface 150 (.pointer (some ⟨laidLow, 0, none⟩))]) 1 #[.iface 150 (.pointer (some ⟨laidLow + 1, 0, none⟩))])
      4 (intsOf Rows.laid_math_bits_deBruijn32tab).toArray) 5 (intsOf Rows.laid_math_bits_deBruijn64tab).toArray) 3 (intsOf Rows.laid_internal_strconv_uint64pow10).toArray }
theorem laidWorld_met (os : Os) (args : Array Value) : laidMet Tryz.prog laidL ((laidWorld os).forCall (fun _ _ => 0) ⟨#[], args, []⟩).memory :=
  laidMet_of_run' 8 (by kernel_rfl) (by kernel_rfl)
end Go.Proofs.YtdiopfngabbkdaaGreatDoor

/-
  TEXT JsonRtM (seat's own).
-/
set_option linter.unusedVariables false
namespace Go.Proofs.YtdiopfngabbkdaaGreatDoor
open Go.RowKit
theorem lenF_nil : lenF [] = 0 := rfl
theorem valid_app {l t : List UInt8} (h : lenF l = l.length) (k : lenF t = t.length) : lenF (l ++ t) = (l ++ t).length := by
  rw [(join l t h).1, k, List.length_append]
theorem valid_enc (c : Nat) (hv : validRune (c : Int) = true) : lenF (encL (c : Int)) = (encL (c : Int)).length := by
  have hp := pt_enc c hv []
  rw [List.append_nil] at hp
  have := (lenF_some hp).1
  rw [List.drop_length, lenF_nil, Nat.add_zero] at this
  exact this
theorem valid_one (b : UInt8) (hb : b.toNat < 128) : lenF [b] = [b].length := by
  have hv : validRune ((b.toNat : Nat) : Int) = true := vr_mk (.inl (by omega))
  have h := valid_enc b.toNat hv
  rw [enc1 _ hb] at h
  have e : UInt8.ofNat b.toNat = b := by simp
  rw [e] at h
  exact h
theorem ascii_valid (l : List UInt8) (h : ∀ b ∈ l, b.toNat < 128) : lenF l = l.length := by
  induction l with
  | nil => rfl
  | cons b t ih => exact valid_app (l := [b]) (valid_one b (h b (List.mem_cons_self ..))) (ih fun x hx => h x (List.mem_cons_of_mem _ hx))
theorem valid_cons {l : List UInt8} (h : lenF l = l.length) (hl : l ≠ []) : ∃ (c : Nat) (t : List UInt8), validRune (c : Int) = true ∧ l = encL (c : Int) ++ t ∧ lenF t = t.length ∧ t.length < l.length := by
  cases hp : ptL l with
  | none =>
    rw [(lenF_none hp).1] at h
    exact absurd (List.eq_nil_of_length_eq_zero h.symm) hl
  | some c =>
    obtain ⟨hv, t, e⟩ := pt_some hp
    have h1 := (lenF_some hp).1
    have h2 := enc_pos c hv
    refine ⟨c, t, hv, e, ?_⟩
    have e2 : l.drop (encL (c : Int)).length = t := by
      rw [e, List.drop_append_of_le_length (Nat.le_refl _), List.drop_length, List.nil_append]
    have e3 : l.length = (encL (c : Int)).length + t.length := by rw [e, List.length_append]
    rw [e2] at h1
    generalize (encL (c : Int)).length = n at *
    constructor <;> omega
theorem quoM_valid (l : List UInt8) : lenF l = l.length → lenF (quoM l) = (quoM l).length := by
  refine strong (P := fun l => lenF l = l.length → lenF (quoM l) = (quoM l).length) ?_ l
  intro l ih h
  by_cases hl : l = []
  · subst hl; rfl
  · obtain ⟨c, t, hv, e0, ht, hlt⟩ := valid_cons h hl
    rw [e0, quoM_append]
    refine valid_app ?_ (ih t hlt ht)
    rcases quo_cases c hv with ⟨i, hi, hc, e⟩ | ⟨_, hc, e⟩ | ⟨_, hc, e⟩
    · rw [e]
      refine ascii_valid _ ?_
      have : ∀ i, i < 7 → ∀ b ∈ ([92, shortLet i] : List UInt8), b.toNat < 128 := by decide
      exact this i hi
    · rw [e]
      refine ascii_valid _ ?_
      have : ∀ c, c < 32 → ∀ b ∈ ([92, 117, 48, 48, hexD (c / 16), hexD (c % 16)] : List UInt8), b.toNat < 128 := by decide
      exact this c hc
    · rw [e]
      exact valid_enc c hv
theorem quoL_valid {l : List UInt8} (h : lenF l = l.length) : lenF (quoL l) = (quoL l).length :=
  valid_app (l := [34]) (valid_one 34 (by decide)) (valid_app (quoM_valid l h) (valid_one 34 (by decide)))
theorem spanL_app (p : Int → Bool) : ∀ (l m : List UInt8), (∀ b ∈ l, p (b.toNat : Nat) = true) → spanL p (l ++ m) = l.length + spanL p m
  | [], m, _ => by simp
  | b :: t, m, h => by
    rw [List.cons_append, spanL, if_pos (h b (List.mem_cons_self ..)), spanL_app p t m (fun x hx => h x (List.mem_cons_of_mem _ hx)), List.length_cons]
    omega
theorem spanL_stop (p : Int → Bool) (b : UInt8) (t : List UInt8) (h : p (b.toNat : Nat) = false) : spanL p (b :: t) = 0 := by rw [spanL, h]; rfl
def plainL : List UInt8 → List UInt8
  | [] => []
  | b :: t => if pPlain (b.toNat : Nat) then b :: plainL t else []
theorem plain_split : ∀ l : List UInt8, ∃ r, l = plainL l ++ r ∧ (r = [] ∨ ∃ c t, r = c :: t ∧ pPlain (c.toNat : Nat) = false)
  | [] => ⟨[], rfl, .inl rfl⟩
  | b :: t => by
    rw [plainL]
    split
    · obtain ⟨r, h1, h2⟩ := plain_split t
      exact ⟨r, by rw [List.cons_append, ← h1], h2⟩
    · rename_i h
      exact ⟨b :: t, rfl, .inr ⟨b, t, rfl, by simpa using h⟩⟩
theorem plain_all : ∀ (l : List UInt8), ∀ b ∈ plainL l, pPlain (b.toNat : Nat) = true
  | [], b, h => by simp [plainL] at h
  | a :: t, b, h => by
    rw [plainL] at h
    split at h
    · rename_i ha
      rcases List.mem_cons.1 h with rfl | h
      · exact ha
      · exact plain_all t b h
    · simp at h
theorem plain_quo : ∀ n : Nat, n < 256 → pPlain (n : Nat) = true → quoB (UInt8.ofNat n) = [UInt8.ofNat n] := by decide +kernel
theorem quoM_plain : ∀ (l : List UInt8), (∀ b ∈ l, pPlain (b.toNat : Nat) = true) → quoM l = l
  | [], _ => rfl
  | b :: t, h => by
    have e : quoM (b :: t) = quoB b ++ quoM t := by simp [quoM]
    have hb := plain_quo b.toNat b.toNat_lt (h b (List.mem_cons_self ..))
    have e2 : UInt8.ofNat b.toNat = b := by simp
    rw [e2] at hb
    rw [e, hb, quoM_plain t (fun x hx => h x (List.mem_cons_of_mem _ hx))]
    rfl
theorem esc_few : ∀ n : Nat, n < 256 → pPlain (n : Nat) = false → n = 34 ∨ n = 92 ∨ n = 8 ∨ n = 12 ∨ n = 10 ∨ n = 13 ∨ n = 9 ∨ (n < 32 ∧ quoB (UInt8.ofNat n) = [92, 117, 48, 48, hexD (n / 16), hexD (n % 16)]) := by decide +kernel
theorem esc_hex : ∀ n : Nat, n < 32 → hexF 0 [48, 48, hexD (n / 16), hexD (n % 16)] = some (n : Int) := by decide +kernel
theorem esc_low : ∀ n : Nat, n < 32 → pointB (n : Int) = true ∧ (bytesS (n : Int)).data.toList = [UInt8.ofNat n] := by decide +kernel
theorem esc_on (c : UInt8) (h : pPlain (c.toNat : Nat) = false) (r : List UInt8) : ∃ e : List UInt8, quoB c = 92 :: e ∧ escL (quoB c ++ r) = some ([c], (quoB c).length) := by
  have e2 : UInt8.ofNat c.toNat = c := by simp
  have hsh := esc_few c.toNat c.toNat_lt h
  rcases hsh with hn | hn | hn | hn | hn | hn | hn | ⟨hn, h1⟩
  · rw [hn] at e2; subst e2; exact ⟨_, rfl, rfl⟩
  · rw [hn] at e2; subst e2; exact ⟨_, rfl, rfl⟩
  · rw [hn] at e2; subst e2; exact ⟨_, rfl, rfl⟩
  · rw [hn] at e2; subst e2; exact ⟨_, rfl, rfl⟩
  · rw [hn] at e2; subst e2; exact ⟨_, rfl, rfl⟩
  · rw [hn] at e2; subst e2; exact ⟨_, rfl, rfl⟩
  · rw [hn] at e2; subst e2; exact ⟨_, rfl, rfl⟩
  · rw [e2] at h1
    have h2 := esc_hex c.toNat hn
    refine ⟨_, h1, ?_⟩
    rw [h1]
    obtain ⟨p1, p2⟩ := esc_low c.toNat hn
    have hu : unitL (92 :: 117 :: 48 :: 48 :: hexD (c.toNat / 16) :: hexD (c.toNat % 16) :: r) = some (c.toNat : Int) := by
      unfold unitL hexO
      simp only
      rw [if_neg (by show ¬ (List.toArray _).size < 4; simp)]
      exact h2
    show escL (92 :: 117 :: 48 :: 48 :: hexD (c.toNat / 16) :: hexD (c.toNat % 16) :: r) = _
    simp only [escL]
    rw [hu]
    simp only [p1, if_true]
    rw [p2, e2]
    rfl
theorem quot_read : ∀ (k : Nat) (l : List UInt8), l.length < k → ∀ (n : Nat) (s : List UInt8) (i : Nat) (acc post : List UInt8), k ≤ n → s.drop i = quoM l ++ 34 :: post → quotP n s i acc = .ok (acc ++ l, i + (quoM l).length + 1)
  | 0, l, h, _, _, _, _, _, _, _ => absurd h (Nat.not_lt_zero _)
  | k + 1, l, h, n, s, i, acc, post, hn, hs => by
    obtain ⟨n, rfl⟩ : ∃ m, n = m + 1 := ⟨n - 1, by omega⟩
    obtain ⟨r, hr, hc⟩ := plain_split l
    have hp := plain_all l
    generalize plainL l = p at hr hp
    have hq : quoM l = p ++ quoM r := by rw [hr, quoM_append, quoM_plain p hp]
    have hstop : spanL pPlain (quoM r ++ 34 :: post) = 0 := by
      rcases hc with rfl | ⟨c, t, rfl, hc⟩
      · exact spanL_stop _ _ _ (by decide)
      · obtain ⟨e, he, _⟩ := esc_on c hc []
        have : quoM (c :: t) = 92 :: (e ++ quoM t) := by simp [quoM, he]
        rw [this]
        exact spanL_stop _ _ _ (by decide)
    have hspan : spanL pPlain (s.drop i) = p.length := by
      rw [hs, hq, List.append_assoc, spanL_app _ _ _ hp, hstop, Nat.add_zero]
    have hdrop : s.drop (i + p.length) = quoM r ++ 34 :: post := by
      rw [← List.drop_drop, hs, hq, List.append_assoc, List.drop_append_of_le_length (Nat.le_refl _), List.drop_length, List.nil_append]
    have htake : (s.drop i).take p.length = p := by
      rw [hs, hq, List.append_assoc, List.take_append_of_le_length (Nat.le_refl _), List.take_length]
    rw [quotP, hspan, htake]
    unfold byL
    rw [hdrop]
    rcases hc with rfl | ⟨c, t, rfl, hc⟩
    · rw [List.append_nil] at hr
      subst hr
      simp only [show quoM [] = [] from rfl, List.nil_append, List.head?_cons, if_true]
      rw [quoM_plain l hp]
    · obtain ⟨e, he, hesc⟩ := esc_on c hc (quoM t ++ 34 :: post)
      have hqc : quoM (c :: t) ++ 34 :: post = quoB c ++ (quoM t ++ 34 :: post) := by simp [quoM]
      rw [hqc]
      have hhead : (quoB c ++ (quoM t ++ 34 :: post)).head? = some 92 := by rw [he]; rfl
      rw [hhead]
      simp only [show ¬ ((92 : UInt8) = 34) by decide, if_false, if_true]
      rw [hesc]
      simp only
      have hlen : l.length = p.length + (t.length + 1) := by rw [hr, List.length_append, List.length_cons]
      have hdrop2 : s.drop (i + p.length + (quoB c).length) = quoM t ++ 34 :: post := by
        rw [← List.drop_drop, hdrop, hqc, List.drop_append_of_le_length (Nat.le_refl _), List.drop_length, List.nil_append]
      rw [quot_read k t (by omega) n s _ _ post (by omega) hdrop2]
      have hql : (quoM l).length = p.length + ((quoB c).length + (quoM t).length) := by
        rw [hq, List.length_append]
        have : quoM (c :: t) = quoB c ++ quoM t := by simp [quoM]
        rw [this, List.length_append]
      rw [hql, hr]
      simp only [List.append_assoc, List.singleton_append]
      congr 2
      omega
end Go.Proofs.YtdiopfngabbkdaaGreatDoor

/-
  TEXT JsonIntM (seat's own).
-/
set_option linter.unusedVariables false
namespace Go.Proofs.YtdiopfngabbkdaaGreatDoor
open Go.RowKit
theorem skip_none {s : List UInt8} {i : Nat} {b : UInt8} {t : List UInt8} (h : s.drop i = b :: t) (hb : pWhite (b.toNat : Nat) = false) : skipL s i = i := by
  unfold skipL
  rw [h, spanL_stop _ _ _ hb, Nat.add_zero]
end Go.Proofs.YtdiopfngabbkdaaGreatDoor

/-
  TEXT JsonRdM (seat's own).
-/
set_option linter.unusedVariables false
namespace Go.Proofs.YtdiopfngabbkdaaGreatDoor
open Go.RowKit
theorem take_span (p : Int → Bool) : ∀ l : List UInt8, ∀ b ∈ l.take (spanL p l), p (b.toNat : Nat) = true
  | [], b, h => by simp at h
  | a :: t, b, h => by
    rw [spanL] at h
    split at h
    · rename_i ha
      rw [List.take_succ_cons] at h
      rcases List.mem_cons.1 h with rfl | h
      · exact ha
      · exact take_span p t b h
    · simp at h
theorem all_span {p : Int → Bool} {l : List UInt8} (h : spanL p l = l.length) : ∀ b ∈ l, p (b.toNat : Nat) = true := by
  have := take_span p l
  rw [h, List.take_length] at this
  exact this
theorem digit_num {b : UInt8} (h : pDigit (b.toNat : Nat) = true) : pNum (b.toNat : Nat) = true := by unfold pNum; rw [h]; rfl
theorem exp_all {l : List UInt8} (h : expL l = true) : ∀ x ∈ l, pNum (x.toNat : Nat) = true := by
  rcases l with _ | ⟨c, t⟩
  · cases h
  · unfold expL at h
    rw [Bool.and_eq_true, Bool.or_eq_true, beq_iff_eq, beq_iff_eq] at h
    have hc : pNum (c.toNat : Nat) = true := by rcases h.1 with rfl | rfl <;> decide
    rcases t with _ | ⟨d, u⟩
    · exact absurd h.2 (by simp)
    · have h2 := h.2
      simp only at h2
      split at h2
      · rename_i hd
        rw [Bool.or_eq_true, beq_iff_eq, beq_iff_eq] at hd
        rw [Bool.and_eq_true, beq_iff_eq] at h2
        have hu := all_span h2.2
        have hdn : pNum (d.toNat : Nat) = true := by rcases hd with rfl | rfl <;> decide
        intro x hx
        rcases List.mem_cons.1 hx with rfl | hx
        · exact hc
        · rcases List.mem_cons.1 hx with rfl | hx
          · exact hdn
          · exact digit_num (hu x hx)
      · rw [beq_iff_eq] at h2
        have hu := all_span h2
        intro x hx
        rcases List.mem_cons.1 hx with rfl | hx
        · exact hc
        · exact digit_num (hu x hx)
theorem mem_split {l : List UInt8} {n : Nat} {x : UInt8} (h : x ∈ l) : x ∈ l.take n ∨ x ∈ l.drop n := by
  rw [← List.take_append_drop n l] at h
  exact List.mem_append.1 h
theorem end_all {l : List UInt8} (h : (l.isEmpty || expL l) = true) : ∀ x ∈ l, pNum (x.toNat : Nat) = true := by
  rw [Bool.or_eq_true] at h
  rcases h with h | h
  · rw [List.isEmpty_iff] at h
    subst h
    intro x hx
    cases hx
  · exact exp_all h
theorem frac_all {l : List UInt8} (h : fracL l = true) : ∀ x ∈ l, pNum (x.toNat : Nat) = true := by
  unfold fracL at h
  split at h
  · rename_i f
    split at h
    · cases h
    · intro x hx
      rcases List.mem_cons.1 hx with rfl | hx
      · decide
      · rcases mem_split (n := spanL pDigit f) hx with hx | hx
        · exact digit_num (take_span _ _ x hx)
        · exact end_all h x hx
  · exact end_all h
theorem sign_cases (l : List UInt8) : (∃ t, l = 45 :: t ∧ signL l = t) ∨ signL l = l := by
  unfold signL
  split
  · exact .inl ⟨_, rfl, rfl⟩
  · exact .inr rfl
theorem num_sign_all {l : List UInt8} (h : numL l = true) : spanL pDigit (signL l) ≠ 0 ∧ ∀ x ∈ signL l, pNum (x.toNat : Nat) = true := by
  unfold numL at h
  split at h
  · cases h
  · rename_i hn
    refine ⟨fun h0 => hn (.inl h0), ?_⟩
    intro x hx
    rcases mem_split (n := spanL pDigit (signL l)) hx with hx | hx
    · exact digit_num (take_span _ _ x hx)
    · exact frac_all h x hx
theorem num_all {l : List UInt8} (h : numL l = true) : ∀ x ∈ l, pNum (x.toNat : Nat) = true := by
  have h2 := (num_sign_all h).2
  rcases sign_cases l with ⟨t, rfl, e⟩ | e
  · rw [e] at h2
    intro x hx
    rcases List.mem_cons.1 hx with rfl | hx
    · decide
    · exact h2 x hx
  · rw [e] at h2
    exact h2
theorem num_head {l : List UInt8} (h : numL l = true) : ∃ b u, l = b :: u ∧ (b = 45 ∨ pDigit (b.toNat : Nat) = true) := by
  have h2 := (num_sign_all h).1
  rcases sign_cases l with ⟨t, rfl, e⟩ | e
  · exact ⟨_, _, rfl, .inl rfl⟩
  · rw [e] at h2
    rcases l with _ | ⟨b, u⟩
    · exact absurd rfl h2
    · refine ⟨b, u, rfl, .inr ?_⟩
      rw [spanL] at h2
      split at h2
      · assumption
      · exact absurd rfl h2
theorem num_low : ∀ n : Nat, n < 256 → pNum (n : Nat) = true → n < 128 := by decide +kernel
theorem num_ascii {l : List UInt8} (h : numL l = true) : ∀ x ∈ l, x.toNat < 128 := fun x hx => num_low _ x.toNat_lt (num_all h x hx)
def Stop (l : List UInt8) : Prop := l = [] ∨ ∃ b t, l = b :: t ∧ pNum (b.toNat : Nat) = false ∧ pLetter (b.toNat : Nat) = false
theorem Stop.num {l : List UInt8} (h : Stop l) : spanL pNum l = 0 := by
  rcases h with rfl | ⟨b, t, rfl, h, _⟩
  · rfl
  · exact spanL_stop _ _ _ h
theorem Stop.letter {l : List UInt8} (h : Stop l) : spanL pLetter l = 0 := by
  rcases h with rfl | ⟨b, t, rfl, _, h⟩
  · rfl
  · exact spanL_stop _ _ _ h
theorem stop44 (t : List UInt8) : Stop (44 :: t) := .inr ⟨_, _, rfl, by decide, by decide⟩
theorem stop93 (t : List UInt8) : Stop (93 :: t) := .inr ⟨_, _, rfl, by decide, by decide⟩
theorem stop125 (t : List UInt8) : Stop (125 :: t) := .inr ⟨_, _, rfl, by decide, by decide⟩
theorem stop_white (l : List UInt8) (h : ∀ b ∈ l, pWhite (b.toNat : Nat) = true) : Stop l := by
  rcases l with _ | ⟨b, t⟩
  · exact .inl rfl
  · have hb := h b (List.mem_cons_self ..)
    have : ∀ n : Nat, n < 256 → pWhite (n : Nat) = true → pNum (n : Nat) = false ∧ pLetter (n : Nat) = false := by decide +kernel
    exact .inr ⟨b, t, rfl, this _ b.toNat_lt hb⟩
theorem formB_cases {k : Nat} {t : ByteArray} {nk nl : Nat} (h : formB (k : Int) t nk nl = true) :
    ((k = 1 ∨ k = 2 ∨ k = 3) ∧ t.data.toList = [] ∧ nk = 0 ∧ nl = 0) ∨ (k = 4 ∧ numL t.data.toList = true ∧ nk = 0 ∧ nl = 0) ∨ (k = 5 ∧ nk = 0 ∧ nl = 0) ∨ (k = 6 ∧ t.data.toList = [] ∧ nk = 0) ∨ (k = 7 ∧ t.data.toList = [] ∧ nk = nl) := by
  unfold formB at h
  have ht : t.toList.isEmpty = true → t.data.toList = [] := by
    intro h
    rw [List.isEmpty_iff, ByteArray.toList_eq] at h
    exact h
  split at h
  · rename_i hk
    simp only [Bool.and_eq_true, beq_iff_eq] at h
    exact .inl ⟨by omega, ht h.1.1, h.1.2, h.2⟩
  · split at h
    · simp only [Bool.and_eq_true, beq_iff_eq] at h
      exact .inr (.inl ⟨by omega, h.1.1, h.1.2, h.2⟩)
    · split at h
      · simp only [Bool.and_eq_true, beq_iff_eq] at h
        exact .inr (.inr (.inl ⟨by omega, h.1, h.2⟩))
      · split at h
        · simp only [Bool.and_eq_true, beq_iff_eq] at h
          exact .inr (.inr (.inr (.inl ⟨by omega, ht h.1, h.2⟩)))
        · split at h
          · simp only [Bool.and_eq_true, beq_iff_eq] at h
            exact .inr (.inr (.inr (.inr ⟨by omega, ht h.1, h.2⟩)))
          · cases h
theorem noText_of {t : ByteArray} (h : t.data.toList = []) : t = noText := by
  obtain ⟨⟨l⟩⟩ := t
  simp only at h
  subst h
  rfl
theorem num_white : ∀ n : Nat, n < 256 → pDigit (n : Nat) = true → pWhite (n : Nat) = false := by decide +kernel
theorem text_head {v : JV} (h : formV v = true) : ∃ b t, textV v = b :: t ∧ pWhite (b.toNat : Nat) = false ∧ b ≠ 93 ∧ b ≠ 125 := by
  obtain ⟨k, t, ks, l⟩ := v
  simp only [formV, Bool.and_eq_true] at h
  rcases formB_cases h.1 with ⟨hk | hk | hk, _⟩ | ⟨hk, hn, _⟩ | ⟨hk, _⟩ | ⟨hk, _⟩ | ⟨hk, _⟩
  · subst hk; exact ⟨110, [117, 108, 108], by simp [textV], by decide, by decide, by decide⟩
  · subst hk; exact ⟨102, [97, 108, 115, 101], by simp [textV], by decide, by decide, by decide⟩
  · subst hk; exact ⟨116, [114, 117, 101], by simp [textV], by decide, by decide, by decide⟩
  · subst hk
    obtain ⟨b, u, e, hb⟩ := num_head hn
    refine ⟨b, u, by simp [textV, e], ?_⟩
    rcases hb with rfl | hb
    · decide
    · have hd : ∀ n : Nat, n < 256 → pDigit (n : Nat) = true → n ≠ 93 ∧ n ≠ 125 := by decide +kernel
      have := hd _ b.toNat_lt hb
      exact ⟨num_white _ b.toNat_lt hb, fun e => this.1 (by rw [e]; rfl), fun e => this.2 (by rw [e]; rfl)⟩
  · subst hk; exact ⟨34, quoM t.data.toList ++ [34], by simp [textV, quoL], by decide, by decide, by decide⟩
  · subst hk; exact ⟨91, textI false 0 ks l ++ [93], by simp [textV], by decide, by decide, by decide⟩
  · subst hk; exact ⟨123, textI true 0 ks l ++ [125], by simp [textV], by decide, by decide, by decide⟩
theorem byL_drop {s : List UInt8} {i : Nat} {b : UInt8} {t : List UInt8} (h : s.drop i = b :: t) : byL s i = some b := by
  unfold byL
  rw [h]
  rfl
theorem drop_more {s a b : List UInt8} {i : Nat} (h : s.drop i = a ++ b) : s.drop (i + a.length) = b := by
  rw [← List.drop_drop, h, List.drop_append_of_le_length (Nat.le_refl _), List.drop_length, List.nil_append]
theorem drop_one {s t : List UInt8} {i : Nat} {b : UInt8} (h : s.drop i = b :: t) : s.drop (i + 1) = t := drop_more (a := [b]) h
theorem skip_text {s : List UInt8} {i : Nat} {v : JV} {r : List UInt8} (hf : formV v = true) (h : s.drop i = textV v ++ r) : skipL s i = i := by
  obtain ⟨b, t, e, hb, _⟩ := text_head hf
  rw [e] at h
  exact skip_none h hb
theorem hasK_eq (t : ByteArray) : (⟨t.data.toList.toArray⟩ : ByteArray) = t := rfl
theorem read_word {n : Nat} {s : List UInt8} {i0 i vals opn k : Nat} {t post : List UInt8} (hsk : skipL s i0 = i) (hd : s.drop i = t ++ post) (hp : Stop post) (hv : vals < 4096)
    (ht : t = [110, 117, 108, 108] ∧ k = 1 ∨ t = [102, 97, 108, 115, 101] ∧ k = 2 ∨ t = [116, 114, 117, 101] ∧ k = 3) : valP (n + 1) s i0 vals opn = .ok (.mk k noText [] [], i + t.length, vals + 1) := by
  have hall : ∀ b ∈ t, pLetter (b.toNat : Nat) = true := by
    rcases ht with ⟨rfl, _⟩ | ⟨rfl, _⟩ | ⟨rfl, _⟩ <;> decide
  have hsp : spanL pLetter (s.drop i) = t.length := by rw [hd, spanL_app _ _ _ hall, hp.letter, Nat.add_zero]
  have htk : (s.drop i).take t.length = t := by rw [hd, List.take_append_of_le_length (Nat.le_refl _), List.take_length]
  have hw : wordK t = some k := by rcases ht with ⟨rfl, rfl⟩ | ⟨rfl, rfl⟩ | ⟨rfl, rfl⟩ <;> rfl
  obtain ⟨b, hb, hb1, hb2⟩ : ∃ b, byL s i = some b ∧ ¬ (b = 45 ∨ pDigit (b.toNat : Nat) = true) ∧ pLetter (b.toNat : Nat) = true := by
    rcases ht with ⟨rfl, _⟩ | ⟨rfl, _⟩ | ⟨rfl, _⟩ <;> exact ⟨_, byL_drop hd, by decide, by decide⟩
  rw [valP, hsk, hb]
  simp only [hsp, htk, hw, if_neg hb1, if_pos hb2, if_neg (show ¬ vals = 4096 by omega)]
theorem read_number {n : Nat} {s : List UInt8} {i0 i vals opn : Nat} {t post : List UInt8} (hsk : skipL s i0 = i) (hd : s.drop i = t ++ post) (hp : Stop post) (hv : vals < 4096) (hn : numL t = true) :
    valP (n + 1) s i0 vals opn = .ok (.mk 4 ⟨t.toArray⟩ [] [], i + t.length, vals + 1) := by
  obtain ⟨b, u, e, hb⟩ := num_head hn
  have hsp : spanL pNum (s.drop i) = t.length := by rw [hd, spanL_app _ _ _ (num_all hn), hp.num, Nat.add_zero]
  have htk : (s.drop i).take t.length = t := by rw [hd, List.take_append_of_le_length (Nat.le_refl _), List.take_length]
  have hby : byL s i = some b := by rw [e, List.cons_append] at hd; exact byL_drop hd
  rw [valP, hsk, hby]
  simp only [hsp, htk, hn, if_pos hb, if_true, if_neg (show ¬ vals = 4096 by omega)]
theorem read_string {n : Nat} {s : List UInt8} {i0 i vals opn : Nat} {t post : List UInt8} (hsk : skipL s i0 = i) (hd : s.drop i = quoL t ++ post) (hv : vals < 4096) :
    valP (n + 1) s i0 vals opn = .ok (.mk 5 ⟨t.toArray⟩ [] [], i + (quoL t).length, vals + 1) := by
  have hd0 : s.drop i = 34 :: (quoM t ++ 34 :: post) := by rw [hd]; simp [quoL]
  have hle : (quoL t).length ≤ s.length := by
    have := congrArg List.length hd
    rw [List.length_drop, List.length_append] at this
    omega
  have hl : (quoL t).length = (quoM t).length + 2 := by simp [quoL]
  have hpos := quoB_pos t
  have hq := quot_read (t.length + 1) t (by omega) (s.length + 1) s (i + 1) [] post (by omega) (drop_one hd0)
  rw [valP, hsk, byL_drop hd0]
  simp only [Bool.false_eq_true, show ¬ ((34 : UInt8) = 45 ∨ pDigit ((34 : UInt8).toNat : Nat) = true) by decide, show ¬ (pLetter ((34 : UInt8).toNat : Nat) = true) by decide, show ¬ ((34 : UInt8) = 91) by decide, show ¬ ((34 : UInt8) = 123) by decide, if_false, if_true, if_neg (show ¬ vals = 4096 by omega)]
  rw [hq]
  simp only [List.nil_append]
  rw [hl]
  congr 3
  omega
theorem textI_more (o : Bool) (i : Nat) (ks : List ByteArray) (v : JV) (t : List JV) (hi : 0 < i) : textI o i ks (v :: t) = 44 :: ((if o then quoL (ks.getD i ByteArray.empty).data.toList ++ [58] else []) ++ textV v ++ textI o (i + 1) ks t) := by
  simp only [textI, if_pos hi]
  simp
mutual
theorem val_read : ∀ (v : JV) (n : Nat) (s : List UInt8) (i0 i vals opn : Nat) (post : List UInt8), formV v = true → twiceV v = false → deepV opn v = false → opn ≤ 48 → vals + sizeV v ≤ 4096 → 2 * (textV v).length ≤ n → skipL s i0 = i → s.drop i = textV v ++ post → Stop post →
    valP n s i0 vals opn = .ok (v, i + (textV v).length, vals + sizeV v)
  | .mk k t ks l, n, s, i0, i, vals, opn, post, hf, ht, hd, ho, hs, hn, hsk, hdr, hp => by
    have hf2 := hf
    simp only [formV, Bool.and_eq_true] at hf
    simp only [twiceV, Bool.or_eq_false_iff] at ht
    simp only [deepV, Bool.or_eq_false_iff] at hd
    simp only [sizeV] at hs
    obtain ⟨b, u, eb, _⟩ := text_head hf2
    obtain ⟨n, rfl⟩ : ∃ m, n = m + 1 := ⟨n - 1, by rw [eb] at hn; simp only [List.length_cons] at hn; omega⟩
    rcases formB_cases hf.1 with ⟨hk, htx, hnk, hnl⟩ | ⟨hk, hnum, hnk, hnl⟩ | ⟨hk, hnk, hnl⟩ | ⟨hk, htx, hnk⟩ | ⟨hk, htx, hnk⟩
    · have e1 := noText_of htx
      have e2 := List.length_eq_zero_iff.1 hnk
      have e3 := List.length_eq_zero_iff.1 hnl
      subst e1 e2 e3
      simp only [sizeL] at hs
      rcases hk with rfl | rfl | rfl
      · simpa [textV, sizeV, sizeL] using read_word (n := n) (opn := opn) (t := [110, 117, 108, 108]) hsk (by simpa [textV] using hdr) hp (by omega) (.inl ⟨rfl, rfl⟩)
      · simpa [textV, sizeV, sizeL] using read_word (n := n) (opn := opn) (t := [102, 97, 108, 115, 101]) hsk (by simpa [textV] using hdr) hp (by omega) (.inr (.inl ⟨rfl, rfl⟩))
      · simpa [textV, sizeV, sizeL] using read_word (n := n) (opn := opn) (t := [116, 114, 117, 101]) hsk (by simpa [textV] using hdr) hp (by omega) (.inr (.inr ⟨rfl, rfl⟩))
    · have e2 := List.length_eq_zero_iff.1 hnk
      have e3 := List.length_eq_zero_iff.1 hnl
      subst e2 e3 hk
      simp only [sizeL] at hs
      have := read_number (n := n) (opn := opn) (t := t.data.toList) hsk (by simpa [textV] using hdr) hp (by omega : vals < 4096) hnum
      rw [hasK_eq] at this
      simpa [textV, sizeV, sizeL] using this
    · have e2 := List.length_eq_zero_iff.1 hnk
      have e3 := List.length_eq_zero_iff.1 hnl
      subst e2 e3 hk
      simp only [sizeL] at hs
      have := read_string (n := n) (opn := opn) (t := t.data.toList) hsk (by simpa [textV] using hdr) (by omega : vals < 4096)
      rw [hasK_eq] at this
      simpa [textV, sizeV, sizeL] using this
    · have e1 := noText_of htx
      have e2 := List.length_eq_zero_iff.1 hnk
      subst e1 e2 hk
      have hop : opn ≠ 48 := by
        have := hd.1
        simp [listB] at this
        omega
      simp only [textV] at hdr hn ⊢
      simp only [show ¬ ((6 : Nat) = 1) by decide, show ¬ ((6 : Nat) = 2) by decide, show ¬ ((6 : Nat) = 3) by decide, show ¬ ((6 : Nat) = 4) by decide, show ¬ ((6 : Nat) = 5) by decide, if_false, if_true] at hdr hn ⊢
      simp only [List.cons_append, List.append_assoc] at hdr
      simp only [List.length_cons, List.length_append, List.length_nil] at hn
      rw [valP, hsk, byL_drop hdr]
      simp only [Bool.false_eq_true, show ¬ ((91 : UInt8) = 45 ∨ pDigit ((91 : UInt8).toNat : Nat) = true) by decide, show ¬ (pLetter ((91 : UInt8).toNat : Nat) = true) by decide, if_false, if_true, if_neg (show ¬ vals = 4096 by omega), if_neg hop]
      rcases l with _ | ⟨v, r⟩
      · simp only [textI, List.nil_append] at hdr ⊢
        have h1 := drop_one hdr
        rw [skip_none h1 (by decide), byL_drop h1]
        simp [sizeV, sizeL]
      · have hfv := hf.2
        simp only [formL, Bool.and_eq_true] at hfv
        have h1 := drop_one hdr
        have e0 : textI false 0 [] (v :: r) = textV v ++ textI false 1 [] r := by simp [textI]
        rw [e0] at h1 hn ⊢
        rw [List.append_assoc] at h1
        obtain ⟨b, u, eb, hb1, hb2, _⟩ := text_head hfv.1
        have h2 : s.drop (i + 1) = b :: (u ++ (textI false 1 [] r ++ 93 :: post)) := by rw [h1, eb]; rfl
        rw [skip_none h2 hb1, byL_drop h2]
        simp only [if_neg hb2]
        rw [List.length_append] at hn
        have ht2 := ht.2
        simp only [twiceL, Bool.or_eq_false_iff] at ht2
        have hd2 := hd.2
        simp only [deepL, Bool.or_eq_false_iff] at hd2
        simp only [sizeL] at hs
        rw [items_read r v (val_read v) n s (i + 1) (vals + 1) (opn + 1) 1 [] [] post hfv.1 hfv.2 ht2.1 ht2.2 hd2.1 hd2.2 (by omega) (by omega) (by omega) (by omega) h1]
        simp only [List.nil_append, sizeV, sizeL, List.length_cons, List.length_append, List.length_nil]
        congr 3 <;> omega
    · have e1 := noText_of htx
      subst e1 hk
      have hop : opn ≠ 48 := by
        have := hd.1
        simp [listB] at this
        omega
      simp only [textV] at hdr hn ⊢
      simp only [show ¬ ((7 : Nat) = 1) by decide, show ¬ ((7 : Nat) = 2) by decide, show ¬ ((7 : Nat) = 3) by decide, show ¬ ((7 : Nat) = 4) by decide, show ¬ ((7 : Nat) = 5) by decide, show ¬ ((7 : Nat) = 6) by decide, if_false, if_true] at hdr hn ⊢
      simp only [List.cons_append, List.append_assoc] at hdr
      simp only [List.length_cons, List.length_append, List.length_nil] at hn
      rw [valP, hsk, byL_drop hdr]
      simp only [Bool.false_eq_true, show ¬ ((123 : UInt8) = 45 ∨ pDigit ((123 : UInt8).toNat : Nat) = true) by decide, show ¬ (pLetter ((123 : UInt8).toNat : Nat) = true) by decide, show ¬ ((123 : UInt8) = 91) by decide, if_false, if_true, if_neg (show ¬ vals = 4096 by omega), if_neg hop]
      rcases l with _ | ⟨v, r⟩
      · have e2 := List.length_eq_zero_iff.1 hnk
        subst e2
        simp only [textI, List.nil_append] at hdr ⊢
        have h1 := drop_one hdr
        rw [skip_none h1 (by decide), byL_drop h1]
        simp [sizeV, sizeL]
      · have hfv := hf.2
        simp only [formL, Bool.and_eq_true] at hfv
        have h1 := drop_one hdr
        have e0 : textI true 0 ks (v :: r) = quoL (ks.getD 0 ByteArray.empty).data.toList ++ 58 :: (textV v ++ textI true (0 + 1) ks r) := by simp [textI]
        rw [e0] at h1 hn ⊢
        simp only [List.append_assoc, List.cons_append] at h1
        have h2 : s.drop (i + 1) = 34 :: (quoM (ks.getD 0 ByteArray.empty).data.toList ++ 34 :: 58 :: (textV v ++ (textI true (0 + 1) ks r ++ 125 :: post))) := by rw [h1]; simp [quoL]
        rw [skip_none h2 (by decide), byL_drop h2]
        simp only [show ¬ ((34 : UInt8) = 125) by decide, if_false]
        simp only [List.length_append, List.length_cons] at hn
        have ht2 := ht.2
        simp only [twiceL, Bool.or_eq_false_iff] at ht2
        have hd2 := hd.2
        simp only [deepL, Bool.or_eq_false_iff] at hd2
        simp only [sizeL] at hs
        simp only [List.length_cons] at hnk
        have hfr := fields_read r v (val_read v) n s (i + 1) (vals + 1) (opn + 1) 0 ks [] post hfv.1 hfv.2 ht2.1 ht2.2 hd2.1 hd2.2 (by omega) (by omega) (by omega) (by omega) (by simpa [repB] using ht.1) (by omega) h1
        rw [List.take_zero] at hfr
        rw [hfr]
        simp only [List.nil_append, List.take_of_length_le (show ks.length ≤ 0 + (r.length + 1) by omega), sizeV, sizeL, List.length_cons, List.length_append, List.length_nil]
        congr 3 <;> omega
theorem items_read : ∀ (r : List JV) (v : JV), (∀ (n : Nat) (s : List UInt8) (i0 i vals opn : Nat) (post : List UInt8), formV v = true → twiceV v = false → deepV opn v = false → opn ≤ 48 → vals + sizeV v ≤ 4096 → 2 * (textV v).length ≤ n → skipL s i0 = i → s.drop i = textV v ++ post → Stop post → valP n s i0 vals opn = .ok (v, i + (textV v).length, vals + sizeV v)) →
    ∀ (n : Nat) (s : List UInt8) (i vals opn j : Nat) (ks : List ByteArray) (acc : List JV) (post : List UInt8), formV v = true → formL r = true → twiceV v = false → twiceL r = false → deepV opn v = false → deepL opn r = false → opn ≤ 48 → 0 < j → vals + (sizeV v + sizeL r) ≤ 4096 → 2 * ((textV v).length + (textI false j ks r).length) + 1 ≤ n → s.drop i = textV v ++ (textI false j ks r ++ 93 :: post) →
    itemsP n s i vals opn acc = .ok (acc ++ v :: r, i + (textV v).length + (textI false j ks r).length + 1, vals + (sizeV v + sizeL r))
  | [], v, hv, n, s, i, vals, opn, j, ks, acc, post, hf, _, ht, _, hd, _, ho, hj, hs, hn, hdr => by
    obtain ⟨n, rfl⟩ : ∃ m, n = m + 1 := ⟨n - 1, by omega⟩
    simp only [textI, List.nil_append, List.length_nil, sizeL] at *
    have h1 := drop_more hdr
    rw [itemsP, hv n s i i vals opn (93 :: post) hf ht hd ho (by omega) (by omega) (skip_text hf hdr) hdr (stop93 _)]
    simp only [skip_none h1 (by decide), byL_drop h1, show ¬ ((93 : UInt8) = 44) by decide, if_false, if_true]
    congr 3
  | x :: r, v, hv, n, s, i, vals, opn, j, ks, acc, post, hf, hfl, ht, htl, hd, hdl, ho, hj, hs, hn, hdr => by
    obtain ⟨n, rfl⟩ : ∃ m, n = m + 1 := ⟨n - 1, by omega⟩
    have e0 : textI false j ks (x :: r) = 44 :: (textV x ++ textI false (j + 1) ks r) := by rw [textI_more _ _ _ _ _ hj]; simp
    rw [e0] at hdr hn ⊢
    simp only [List.cons_append, List.append_assoc] at hdr
    simp only [List.length_cons, List.length_append] at hn ⊢
    simp only [formL, Bool.and_eq_true] at hfl
    simp only [twiceL, Bool.or_eq_false_iff] at htl
    simp only [deepL, Bool.or_eq_false_iff] at hdl
    simp only [sizeL] at hs ⊢
    have h1 := drop_more hdr
    have h2 := drop_one h1
    rw [itemsP, hv n s i i vals opn _ hf ht hd ho (by omega) (by omega) (skip_text hf hdr) hdr (stop44 _)]
    simp only [skip_none h1 (by decide), byL_drop h1, if_true]
    rw [items_read r x (val_read x) n s (i + (textV v).length + 1) (vals + sizeV v) opn (j + 1) ks (acc ++ [v]) post hfl.1 hfl.2 htl.1 htl.2 hdl.1 hdl.2 ho (by omega) (by omega) (by omega) h2]
    simp only [List.append_assoc, List.singleton_append]
    congr 3 <;> omega
theorem fields_read : ∀ (r : List JV) (v : JV), (∀ (n : Nat) (s : List UInt8) (i0 i vals opn : Nat) (post : List UInt8), formV v = true → twiceV v = false → deepV opn v = false → opn ≤ 48 → vals + sizeV v ≤ 4096 → 2 * (textV v).length ≤ n → skipL s i0 = i → s.drop i = textV v ++ post → Stop post → valP n s i0 vals opn = .ok (v, i + (textV v).length, vals + sizeV v)) →
    ∀ (n : Nat) (s : List UInt8) (i vals opn j : Nat) (ks : List ByteArray) (acc : List JV) (post : List UInt8), formV v = true → formL r = true → twiceV v = false → twiceL r = false → deepV opn v = false → deepL opn r = false → opn ≤ 48 → vals + (sizeV v + sizeL r) ≤ 4096 → 2 * ((textV v).length + (textI true (j + 1) ks r).length) + 1 ≤ n → j + (r.length + 1) ≤ ks.length → repL (ks.take j) (ks.drop j) = false → j + (r.length + 1) ≤ ks.length → s.drop i = quoL (ks.getD j ByteArray.empty).data.toList ++ 58 :: (textV v ++ (textI true (j + 1) ks r ++ 125 :: post)) →
    fieldsP n s i vals opn (ks.take j) acc = .ok (ks.take (j + (r.length + 1)), acc ++ v :: r, i + (quoL (ks.getD j ByteArray.empty).data.toList).length + 1 + (textV v).length + (textI true (j + 1) ks r).length + 1, vals + (sizeV v + sizeL r))
  | [], v, hv, n, s, i, vals, opn, j, ks, acc, post, hf, _, ht, _, hd, _, ho, hs, hn, _, hrep, hlen, hdr => by
    obtain ⟨n, rfl⟩ : ∃ m, n = m + 1 := ⟨n - 1, by omega⟩
    simp only [textI, List.nil_append, List.length_nil, sizeL] at *
    have hjl : j < ks.length := by omega
    rw [rep_step ks j hjl, Bool.or_eq_false_iff] at hrep
    have htk : ks.take (j + (0 + 1)) = ks.take j ++ [ks.getD j ByteArray.empty] := by
      rw [Nat.zero_add, List.take_succ_eq_append_getElem hjl, List.getD_eq_getElem?_getD, List.getElem?_eq_getElem hjl]
      rfl
    rw [htk]
    generalize ks.getD j ByteArray.empty = kx at *
    have h34 : s.drop i = 34 :: (quoM kx.data.toList ++ 34 :: 58 :: (textV v ++ 125 :: post)) := by rw [hdr]; simp [quoL]
    have hqlen : (quoL kx.data.toList).length = (quoM kx.data.toList).length + 2 := by simp [quoL]
    have hle : (quoL kx.data.toList).length ≤ s.length := by
      have := congrArg List.length hdr
      rw [List.length_drop, List.length_append] at this
      omega
    have hpos := quoB_pos kx.data.toList
    have hq := quot_read (kx.data.toList.length + 1) kx.data.toList (by omega) (s.length + 1) s (i + 1) [] _ (by omega) (drop_one h34)
    have h1 := drop_more hdr
    rw [hqlen] at h1
    have h2 := drop_one h1
    have h3 := drop_more h2
    rw [fieldsP, skip_none h34 (by decide), byL_drop h34]
    simp only [show ¬ ((34 : UInt8) ≠ 34) by decide, if_false]
    rw [hq]
    simp only [List.nil_append]
    have ei : i + 1 + (quoM kx.data.toList).length + 1 = i + ((quoM kx.data.toList).length + 2) := by omega
    rw [hasK_eq, hrep.1, ei, skip_none h1 (by decide), byL_drop h1]
    simp only [show ¬ ((58 : UInt8) ≠ 58) by decide, if_false, Bool.false_eq_true]
    rw [hv n s _ _ vals opn (125 :: post) hf ht hd ho (by omega) (by omega) (skip_text hf h2) h2 (stop125 _)]
    simp only [skip_none h3 (by decide), byL_drop h3, show ¬ ((125 : UInt8) = 44) by decide, if_false, if_true]
    congr 4
    omega
  | x :: r, v, hv, n, s, i, vals, opn, j, ks, acc, post, hf, hfl, ht, htl, hd, hdl, ho, hs, hn, _, hrep, hlen, hdr => by
    obtain ⟨n, rfl⟩ : ∃ m, n = m + 1 := ⟨n - 1, by omega⟩
    have e0 : textI true (j + 1) ks (x :: r) = 44 :: (quoL (ks.getD (j + 1) ByteArray.empty).data.toList ++ 58 :: (textV x ++ textI true (j + 1 + 1) ks r)) := by rw [textI_more _ _ _ _ _ (by omega)]; simp
    rw [e0] at hdr hn ⊢
    simp only [List.cons_append, List.append_assoc] at hdr
    simp only [List.length_cons, List.length_append] at hn hlen ⊢
    simp only [formL, Bool.and_eq_true] at hfl
    simp only [twiceL, Bool.or_eq_false_iff] at htl
    simp only [deepL, Bool.or_eq_false_iff] at hdl
    simp only [sizeL] at hs ⊢
    have hjl : j < ks.length := by omega
    rw [rep_step ks j hjl, Bool.or_eq_false_iff] at hrep
    have htk : ks.take (j + 1) = ks.take j ++ [ks.getD j ByteArray.empty] := by
      rw [List.take_succ_eq_append_getElem hjl, List.getD_eq_getElem?_getD, List.getElem?_eq_getElem hjl]
      rfl
    have hq : ∀ kx : ByteArray, kx = ks.getD j ByteArray.empty → kx = ks.getD j ByteArray.empty := fun _ h => h
    obtain ⟨kx, hkx⟩ : ∃ kx, kx = ks.getD j ByteArray.empty := ⟨_, rfl⟩
    rw [← hkx] at hrep hdr htk ⊢
    have h34 : s.drop i = 34 :: (quoM kx.data.toList ++ 34 :: 58 :: (textV v ++ 44 :: (quoL (ks.getD (j + 1) ByteArray.empty).data.toList ++ 58 :: (textV x ++ (textI true (j + 1 + 1) ks r ++ 125 :: post))))) := by rw [hdr]; simp [quoL]
    have hqlen : (quoL kx.data.toList).length = (quoM kx.data.toList).length + 2 := by simp [quoL]
    have hle : (quoL kx.data.toList).length ≤ s.length := by
      have := congrArg List.length hdr
      rw [List.length_drop, List.length_append] at this
      omega
    have hpos := quoB_pos kx.data.toList
    have hq := quot_read (kx.data.toList.length + 1) kx.data.toList (by omega) (s.length + 1) s (i + 1) [] _ (by omega) (drop_one h34)
    have h1 := drop_more hdr
    rw [hqlen] at h1
    have h2 := drop_one h1
    have h3 := drop_more h2
    have h4 := drop_one h3
    rw [fieldsP, skip_none h34 (by decide), byL_drop h34]
    simp only [show ¬ ((34 : UInt8) ≠ 34) by decide, if_false]
    rw [hq]
    simp only [List.nil_append]
    have ei : i + 1 + (quoM kx.data.toList).length + 1 = i + ((quoM kx.data.toList).length + 2) := by omega
    rw [hasK_eq, hrep.1, ei, skip_none h1 (by decide), byL_drop h1]
    simp only [show ¬ ((58 : UInt8) ≠ 58) by decide, if_false, Bool.false_eq_true]
    rw [hv n s _ _ vals opn _ hf ht hd ho (by omega) (by omega) (skip_text hf h2) h2 (stop44 _)]
    simp only [skip_none h3 (by decide), byL_drop h3, if_true]
    rw [← htk, fields_read r x (val_read x) n s _ (vals + sizeV v) opn (j + 1) ks (acc ++ [v]) post hfl.1 hfl.2 htl.1 htl.2 hdl.1 hdl.2 ho (by omega) (by omega) (by omega) hrep.2 (by omega) h4]
    simp only [List.append_assoc, List.singleton_append]
    rw [show j + 1 + (r.length + 1) = j + (r.length + 1 + 1) by omega]
    congr 4 <;> omega
end
theorem valid_of {s : ByteArray} (h : validB s = true) : lenF s.data.toList = s.data.toList.length := valid_all h
mutual
theorem textV_valid : ∀ v : JV, formV v = true → utfV v = true → lenF (textV v) = (textV v).length
  | .mk k t ks l, h1, h2 => by
    simp only [formV, utfV, Bool.and_eq_true] at h1 h2
    have he := h2.1
    unfold encB at he
    simp only [Bool.and_eq_true, List.all_eq_true] at he
    have hI := fun o => textI_valid o 0 ks l (fun x hx => valid_of (he.1 x hx)) h1.2 h2.2
    have hT := valid_of he.2
    rcases formB_cases h1.1 with ⟨hk | hk | hk, _⟩ | ⟨hk, hn, _⟩ | ⟨hk, _⟩ | ⟨hk, _⟩ | ⟨hk, _⟩
    · subst hk; exact ascii_valid _ (by simp [textV])
    · subst hk; exact ascii_valid _ (by simp [textV])
    · subst hk; exact ascii_valid _ (by simp [textV])
    · subst hk; exact ascii_valid _ (by simpa [textV] using num_ascii hn)
    · subst hk; simpa [textV] using quoL_valid hT
    · subst hk
      have := valid_app (valid_one 91 (by decide)) (valid_app (hI false) (valid_one 93 (by decide)))
      simpa [textV] using this
    · subst hk
      have := valid_app (valid_one 123 (by decide)) (valid_app (hI true) (valid_one 125 (by decide)))
      simpa [textV] using this
theorem textI_valid (o : Bool) (i : Nat) (ks : List ByteArray) : ∀ l : List JV, (∀ x ∈ ks, lenF x.data.toList = x.data.toList.length) → formL l = true → utfL l = true → lenF (textI o i ks l) = (textI o i ks l).length
  | [], _, _, _ => rfl
  | v :: t, hk, h1, h2 => by
    simp only [formL, utfL, Bool.and_eq_true] at h1 h2
    have hv := textV_valid v h1.1 h2.1
    have ht := textI_valid o (i + 1) ks t hk h1.2 h2.2
    simp only [textI]
    refine valid_app (valid_app (valid_app ?_ ?_) hv) ht
    · split
      · exact valid_one 44 (by decide)
      · rfl
    · split
      · refine valid_app (quoL_valid ?_) (valid_one 58 (by decide))
        rw [List.getD_eq_getElem?_getD]
        cases hx : ks[i]? with
        | none => rfl
        | some x => exact hk x (List.mem_of_getElem? hx)
      · rfl
end
theorem white_span : ∀ (a b : List UInt8), (∀ x ∈ a, pWhite (x.toNat : Nat) = true) → (b = [] ∨ ∃ c t, b = c :: t ∧ pWhite (c.toNat : Nat) = false) → spanL pWhite (a ++ b) = a.length := by
  intro a b ha hb
  rw [spanL_app _ _ _ ha]
  rcases hb with rfl | ⟨c, t, rfl, hc⟩
  · rfl
  · rw [spanL_stop _ _ _ hc, Nat.add_zero]
theorem white_low : ∀ n : Nat, n < 256 → pWhite (n : Nat) = true → n < 128 := by decide +kernel
theorem back_read {v : JV} {a b : List UInt8} (hc : checkE v = 0) (ha : ∀ x ∈ a, pWhite (x.toNat : Nat) = true) (hb : ∀ x ∈ b, pWhite (x.toNat : Nat) = true) (hs : (a ++ (textV v ++ b)).length ≤ 65536) : readP (a ++ (textV v ++ b)) = .ok v := by
  obtain ⟨h1, h2, h3, h4, h5, h6⟩ := checkE_ok hc
  have hvalid : lenF (a ++ (textV v ++ b)) = (a ++ (textV v ++ b)).length := valid_app (ascii_valid a fun x hx => white_low _ x.toNat_lt (ha x hx)) (valid_app (textV_valid v h1 h2) (ascii_valid b fun x hx => white_low _ x.toNat_lt (hb x hx)))
  obtain ⟨c, t, ec, hc2, _⟩ := text_head h1
  have hsk : skipL (a ++ (textV v ++ b)) 0 = a.length := by
    unfold skipL
    rw [List.drop_zero, white_span a _ ha (.inr ⟨c, t ++ b, by rw [ec]; rfl, hc2⟩), Nat.zero_add]
  have hd : (a ++ (textV v ++ b)).drop a.length = textV v ++ b := by
    rw [List.drop_append_of_le_length (Nat.le_refl _), List.drop_length, List.nil_append]
  have hv := val_read v (2 * (a ++ (textV v ++ b)).length + 2) (a ++ (textV v ++ b)) 0 a.length 0 0 b h1 h3 h4 (by omega) (by omega) (by simp only [List.length_append]; omega) hsk hd (stop_white b hb)
  have hd2 : (a ++ (textV v ++ b)).drop (a.length + (textV v).length) = b := drop_more hd
  have hsk2 : skipL (a ++ (textV v ++ b)) (a.length + (textV v).length) = (a ++ (textV v ++ b)).length := by
    unfold skipL
    have := white_span b [] hb (.inl rfl)
    rw [List.append_nil] at this
    rw [hd2, this]
    simp only [List.length_append]
    omega
  unfold readP
  rw [if_neg (by omega), if_neg (by omega), hv]
  simp only
  rw [hsk2, if_neg (by omega)]
end Go.Proofs.YtdiopfngabbkdaaGreatDoor

/-
  TEXT JsonGdM (seat's own).
-/
set_option linter.unusedVariables false
namespace Go.Proofs.YtdiopfngabbkdaaGreatDoor
open Go.RowKit
theorem valid_tail {b : UInt8} {r : List UInt8} (h : allB (b :: r)) (hb : b.toNat < 128) : allB r := by
  obtain ⟨c, t, hv, e, ht, _⟩ := valid_cons h (by simp)
  by_cases hc : c < 128
  · rw [enc1 c hc] at e
    simp only [List.singleton_append, List.cons.injEq] at e
    rw [e.2]
    exact ht
  · exfalso
    have hh := enc_high c hv (by omega)
    have hp := enc_pos c hv
    rcases hx : encL (c : Int) with _ | ⟨a, u⟩
    · rw [hx] at hp; simp only [List.length_nil] at hp; omega
    · rw [hx] at e hh
      simp only [List.cons_append, List.cons.injEq] at e
      have := hh a (List.mem_cons_self ..)
      rw [← e.1] at this
      omega
def Bd (s : List UInt8) (i : Nat) : Prop := allB (s.drop i)
theorem bd_ascii : ∀ (A r : List UInt8), (∀ x ∈ A, x.toNat < 128) → allB (A ++ r) → allB r
  | [], r, _, h => h
  | a :: A, r, ha, h => bd_ascii A r (fun x hx => ha x (List.mem_cons_of_mem _ hx)) (valid_tail (r := A ++ r) h (ha a (List.mem_cons_self ..)))
theorem byL_split {s : List UInt8} {i : Nat} {c : UInt8} (h : byL s i = some c) : s.drop i = c :: s.drop (i + 1) := by
  unfold byL at h
  cases hd : s.drop i with
  | nil => rw [hd] at h; cases h
  | cons a t =>
    rw [hd] at h
    simp only [List.head?_cons, Option.some.injEq] at h
    subst h
    rw [drop_one hd]
theorem Bd.step {s : List UInt8} {i : Nat} {c : UInt8} (h : Bd s i) (hb : byL s i = some c) (hc : c.toNat < 128) : Bd s (i + 1) := by
  unfold Bd at *
  rw [byL_split hb] at h
  exact valid_tail h hc
theorem Bd.span {s : List UInt8} {i : Nat} (p : Int → Bool) (hp : ∀ n : Nat, n < 256 → p (n : Nat) = true → n < 128) (h : Bd s i) : Bd s (i + spanL p (s.drop i)) := by
  unfold Bd at *
  rw [← List.drop_drop]
  refine bd_ascii ((s.drop i).take (spanL p (s.drop i))) _ (fun x hx => hp _ x.toNat_lt (take_span p _ x hx)) ?_
  rw [List.take_append_drop]
  exact h
theorem Bd.skip {s : List UInt8} {i : Nat} (h : Bd s i) : Bd s (skipL s i) := h.span pWhite white_low
structure GoodR (o v v' : Nat) (x : JV) : Prop where
  form : formV x = true
  utf : utfV x = true
  once : twiceV x = false
  flat : deepV o x = false
  size : v' = v + sizeV x
  most : v' ≤ 4096
structure GoodRL (o v v' : Nat) (l : List JV) : Prop where
  form : formL l = true
  utf : utfL l = true
  once : twiceL l = false
  flat : deepL o l = false
  size : v' = v + sizeL l
  most : v' ≤ 4096
theorem GoodRL.one {o v v' : Nat} {x : JV} (h : GoodR o v v' x) : GoodRL o v v' [x] :=
  ⟨by simp [formL, h.form], by simp [utfL, h.utf], by simp [twiceL, h.once], by simp [deepL, h.flat], by simp [sizeL, h.size], h.most⟩
theorem GoodRL.cons {o v v1 v' : Nat} {x : JV} {l : List JV} (h : GoodR o v v1 x) (hl : GoodRL o v1 v' l) : GoodRL o v v' (x :: l) :=
  ⟨by simp [formL, h.form, hl.form], by simp [utfL, h.utf, hl.utf], by simp [twiceL, h.once, hl.once], by simp [deepL, h.flat, hl.flat], by have := h.size; have := hl.size; simp only [sizeL]; omega, hl.most⟩
theorem bytes_len (r : Int) : (bytesS r).data.toList.length ≤ 4 := by
  unfold bytesS
  split
  · rename_i h
    unfold pointB at h
    have hn : ((r.toNat : Nat) : Int) = r := by
      have h2 := h
      simp only [validRune, decide_eq_true_eq] at h2
      omega
    have := (enc_pos r.toNat (by rw [hn]; exact h)).2
    rw [hn] at this
    exact this
  · simp
theorem esc_pos2 {l : List UInt8} {b : List UInt8} {k : Nat} (h : escL l = some (b, k)) : 2 ≤ k ∧ b.length ≤ k := by
  unfold escL at h
  split at h
  · rename_i x c t
    have one : ∀ d : UInt8, some ([d], 2) = some (b, k) → 2 ≤ k ∧ b.length ≤ k := by
      intro d e
      injection e with e
      injection e with e1 e2
      rw [← e1, ← e2]
      exact ⟨Nat.le_refl _, by simp⟩
    split at h
    · exact one _ h
    · split at h
      · exact one _ h
      · split at h
        · exact one _ h
        · split at h
          · exact one _ h
          · split at h
            · exact one _ h
            · split at h
              · exact one _ h
              · split at h
                · exact one _ h
                · split at h
                  · exact one _ h
                  · split at h
                    · cases h
                    · split at h
                      · injection h with h
                        injection h with e1 e2
                        have := bytes_len (by assumption)
                        rw [← e1, ← e2]
                        exact ⟨by omega, Nat.le_trans (bytes_len _) (by omega)⟩
                      · split at h
                        · injection h with h
                          injection h with e1 e2
                          rw [← e1, ← e2]
                          exact ⟨by omega, Nat.le_trans (bytes_len _) (by omega)⟩
                        · cases h
  · cases h
theorem err_inj {a a' k k' : Nat} {α : Type} (h : (Except.error (a, k) : Except Fail α) = .error (a', k')) : k = k' := by
  injection h with h
  injection h
theorem quot_err : ∀ (n : Nat) (s : List UInt8) (i : Nat) (acc : List UInt8) (a k : Nat), quotP n s i acc = .error (a, k) → s.length - i + 1 ≤ n → k ≠ 0 := by
  intro n
  induction n with
  | zero => intro s i acc a k _ h; omega
  | succ n ih =>
    intro s i acc a k h hn
    unfold quotP at h
    cases hc : byL s (i + spanL pPlain (s.drop i)) with
    | none => rw [hc] at h; have := err_inj h; omega
    | some c =>
      have hl := byL_lt hc
      rw [hc] at h
      simp only at h
      split at h
      · cases h
      · split at h
        · split at h
          · have := err_inj h; omega
          · rename_i b kk he
            have := (esc_pos2 he).1
            exact ih _ _ _ _ _ h (by omega)
        · have := err_inj h; omega
theorem valP_err : ∀ (n : Nat), (∀ s i v o a k, valP n s i v o = .error (a, k) → 2 * (s.length - i) + 1 ≤ n → k ≠ 0) ∧
    (∀ s i v o acc a k, itemsP n s i v o acc = .error (a, k) → 2 * (s.length - i) + 2 ≤ n → k ≠ 0) ∧
    (∀ s i v o ks acc a k, fieldsP n s i v o ks acc = .error (a, k) → 2 * (s.length - i) + 2 ≤ n → k ≠ 0) := by
  intro n
  induction n with
  | zero => exact ⟨fun s i v o a k _ h => by omega, fun s i v o acc a k _ h => by omega, fun s i v o ks acc a k _ h => by omega⟩
  | succ n ih =>
    obtain ⟨ihv, ihi, ihf⟩ := ih
    refine ⟨fun s i v o a k h hn => ?_, fun s i v o acc a k h hn => ?_, fun s i v o ks acc a k h hn => ?_⟩
    · have hsk := skipL_le s i
      unfold valP at h
      cases hb : byL s (skipL s i) with
      | none => rw [hb] at h; have := err_inj h; omega
      | some c =>
        have hl := byL_lt hb
        rw [hb] at h
        simp only at h
        split at h
        · have := err_inj h; omega
        · split at h
          · split at h
            · cases h
            · have := err_inj h; omega
          · split at h
            · split at h
              · cases h
              · have := err_inj h; omega
            · split at h
              · split at h
                · have := err_inj h; omega
                · split at h
                  · have := err_inj h; omega
                  · have hs2 := skipL_le s (skipL s i + 1)
                    split at h
                    · cases h
                    · split at h
                      · rename_i e he
                        obtain ⟨a', k'⟩ := e
                        have := err_inj h
                        subst this
                        exact ihi _ _ _ _ _ _ _ he (by omega)
                      · cases h
              · split at h
                · split at h
                  · have := err_inj h; omega
                  · split at h
                    · have := err_inj h; omega
                    · have hs2 := skipL_le s (skipL s i + 1)
                      split at h
                      · cases h
                      · split at h
                        · rename_i e he
                          obtain ⟨a', k'⟩ := e
                          have := err_inj h
                          subst this
                          exact ihf _ _ _ _ _ _ _ _ he (by omega)
                        · cases h
                · split at h
                  · split at h
                    · rename_i e he
                      obtain ⟨a', k'⟩ := e
                      have := err_inj h
                      subst this
                      exact quot_err _ _ _ _ _ _ he (by omega)
                    · cases h
                  · have := err_inj h; omega
    · unfold itemsP at h
      split at h
      · rename_i e he
        obtain ⟨a', k'⟩ := e
        have := err_inj h
        subst this
        exact ihv _ _ _ _ _ _ he (by omega)
      · rename_i x i1 vals1 he
        have hf := (valP_facts n).1 _ _ _ _ _ _ _ he
        have hsk := skipL_le s i1
        split at h
        · have := err_inj h; omega
        · rename_i c hc
          have hl := byL_lt hc
          split at h
          · exact ihi _ _ _ _ _ _ _ h (by omega)
          · split at h
            · cases h
            · have := err_inj h; omega
    · have hsk := skipL_le s i
      unfold fieldsP at h
      split at h
      · have := err_inj h; omega
      · rename_i c hc
        have hl := byL_lt hc
        split at h
        · have := err_inj h; omega
        · split at h
          · rename_i e he
            obtain ⟨a', k'⟩ := e
            have := err_inj h
            subst this
            exact quot_err _ _ _ _ _ _ he (by omega)
          · rename_i t i1 he
            have hq := quotP_facts _ _ _ _ _ _ he
            split at h
            · have := err_inj h; omega
            · split at h
              · have := err_inj h; omega
              · rename_i d hd
                have hl2 := byL_lt hd
                have hsk2 := skipL_le s i1
                split at h
                · have := err_inj h; omega
                · split at h
                  · rename_i e he2
                    obtain ⟨a', k'⟩ := e
                    have := err_inj h
                    subst this
                    exact ihv _ _ _ _ _ _ he2 (by omega)
                  · rename_i x i2 vals2 hx
                    have hf := (valP_facts n).1 _ _ _ _ _ _ _ hx
                    have hsk3 := skipL_le s i2
                    split at h
                    · have := err_inj h; omega
                    · rename_i e he2
                      have hl3 := byL_lt he2
                      split at h
                      · exact ihf _ _ _ _ _ _ _ _ h (by omega)
                      · split at h
                        · cases h
                        · have := err_inj h; omega
mutual
theorem keysV_le : ∀ v : JV, formV v = true → keysV v + 1 ≤ sizeV v
  | .mk k t ks l, h => by
    simp only [formV, Bool.and_eq_true] at h
    have hl := keysL_le l h.2
    have hn := sizeL_len l
    simp only [keysV, sizeV]
    rcases formB_cases h.1 with ⟨_, _, h1, _⟩ | ⟨_, _, h1, _⟩ | ⟨_, h1, _⟩ | ⟨_, _, h1⟩ | ⟨_, _, h1⟩ <;> omega
theorem keysL_le : ∀ l : List JV, formL l = true → keysL l + l.length ≤ sizeL l
  | [], _ => by simp [keysL, sizeL]
  | v :: t, h => by
    simp only [formL, Bool.and_eq_true] at h
    have h1 := keysV_le v h.1
    have h2 := keysL_le t h.2
    simp only [keysL, sizeL, List.length_cons]
    omega
end
end Go.Proofs.YtdiopfngabbkdaaGreatDoor
