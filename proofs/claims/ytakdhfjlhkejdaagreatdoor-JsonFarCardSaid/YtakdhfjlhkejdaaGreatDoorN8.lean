/-
  TEXTS OF THE SEAT, put together: LaidJ, JsonRtM, JsonIntM, JsonRdM, JsonGdM.
-/
import Derived.Test.YtakdhfjlhkejdaaGreatDoorRows
import Derived.Test.YtakdhfjlhkejdaaGreatDoorN7
import Derived.ChangeSame
import Derived.ChangeVars
import Derived.JoinedOf
import Derived.RowKitTokens
import Derived.LaidLaws
import Derived.LaidHandle
import Derived.Stop.Joined
import Derived.Test.YtakdhfjlhkejdaaGreatDoorN2
import Derived.Test.YtakdhfjlhkejdaaGreatDoorN4
import Derived.Test.YtakdhfjlhkejdaaGreatDoorN5
import Derived.Test.YtakdhfjlhkejdaaGreatDoorN3
set_option linter.unusedSimpArgs false
set_option linter.unusedVariables false

/-
  THE LAID VARIABLES of the json rows: the library's two error variables and three tables, as the program's text lays them: what a walk needs of them; a world that meets the condition.
-/
namespace Go.Proofs.YtakdhfjlhkejdaaGreatDoor
open Go.ChangeShapes Go.WideShapes Go.RowKit
def laidL : List (String × DataW Unit) := [("math/bits.deBruijn32tab", Rows.laid_math_bits_deBruijn32tab), ("math/bits.deBruijn64tab", Rows.laid_math_bits_deBruijn64tab), ("internal/strconv.uint64pow10", Rows.laid_internal_strconv_uint64pow10), ("strconv.ErrRange", Rows.laid_strconv_ErrRange), ("strconv.ErrSyntax", Rows.laid_strconv_ErrSyntax)]
theorem glob_syn : Tryz.prog.globalNamed "strconv.ErrSyntax" = some 1 := by kernel_rfl
theorem glob_rng : Tryz.prog.globalNamed "strconv.ErrRange" = some 2 := by kernel_rfl
theorem gtyp_syn : (Tryz.prog.globals[1]?).map (·.type) = some 78 := by kernel_rfl
theorem gtyp_rng : (Tryz.prog.globals[2]?).map (·.type) = some 78 := by kernel_rfl
theorem vars_of_laid {W : World} (h : laidMet Tryz.prog laidL W) : Vars W := by
  obtain ⟨ps, ⟨ga, ta, csa, fa, pa, qa, hga, hta, hva, hda, ⟨gb, tb, csb, fb, pb, qb, hgb, htb, hvb, hdb, ⟨gc, tc, csc, fc, pc, qc, hgc, htc, hvc, hdc, ⟨gd, td, csd, fd, pd, qd, hgd, htd, hvd, hdd, ⟨ge, te, cse, fe, pe, qe, hge, hte, hve, hde, _⟩, _⟩, _⟩, _⟩, _⟩, hnd, hrows⟩ := h
  obtain rfl := Option.some.inj (glob_rng.symm.trans hgd)
  obtain rfl := Option.some.inj (glob_syn.symm.trans hge)
  obtain rfl := Option.some.inj (gtyp_rng.symm.trans htd)
  obtain rfl := Option.some.inj (gtyp_syn.symm.trans hte)
  obtain ⟨_, u1, v1, e1, _⟩ := iface_of_trod Tryz.underlying78 hdd
  obtain ⟨_, u2, v2, e2, _⟩ := iface_of_trod Tryz.underlying78 hde
  obtain ⟨l1⟩ := csd
  obtain ⟨l2⟩ := cse
  simp only at e1 e2
  subst e1
  subst e2
  have c1 : W.cell? ⟨2, 0, none⟩ = some (.iface u1 v1) := by simpa using World.var?_cell glob_rng hvd 0
  have c2 : W.cell? ⟨1, 0, none⟩ = some (.iface u2 v2) := by simpa using World.var?_cell glob_syn hve 0
  exact ⟨⟨u2, v2, c2⟩, ⟨u1, v1, c1⟩, World.block_lt_of_cell? W _ c2, World.block_lt_of_cell? W _ c1⟩
def intsOf : DataW Unit → List Value
  | .agg ds => ds.map fun | .lit (.int k n) => .int k n | _ => undef
  | _ => []
noncomputable def laidLow : Nat := (World.holding Tryz.prog default ⟨#[], #[], []⟩).heap.size
def putCells (h : Array Obj) (g : Nat) (cs : Array Value) : Array Obj := h.modify g fun
  | .cells _ t frozen => .cells cs t frozen
  | o => o
/-- A world that meets the condition: the settled one, the variables' cells laid. -/
noncomputable def laidWorld (os : Os) : World :=
  let w0 := World.holding Tryz.prog os ⟨#[.cells #[.string ⟨#[118, 97, 108, 117, 101, 32, 111, 117, 116, 32, 111, 102, 32, 114, 97, 110, 103, 101]⟩] 152, .cells #[.string ⟨#[105, 110, 118, 97, 108, 105, 100, 32, 115, 121, 110, 116, 97, 120]⟩] 152], #[], []⟩
  { w0 with heap := putCells (putCells (putCells (putCells (putCells w0.heap 2 #[.iface 150 (.pointer (some ⟨laidLow, 0, none⟩))]) 1 #[.iface 150 (.pointer (some ⟨laidLow + 1, 0, none⟩))])
      4 (intsOf Rows.laid_math_bits_deBruijn32tab).toArray) 5 (intsOf Rows.laid_math_bits_deBruijn64tab).toArray) 3 (intsOf Rows.laid_internal_strconv_uint64pow10).toArray }
theorem laidWorld_met (os : Os) (args : Array Value) : laidMet Tryz.prog laidL ((laidWorld os).forCall (fun _ _ => 0) ⟨#[], args, []⟩).memory :=
  laidMet_of_run' 8 (by kernel_rfl) (by kernel_rfl)
end Go.Proofs.YtakdhfjlhkejdaaGreatDoor

/-
  MATHEMATICS: what is quoted is read as itself; a number's digits are that number.
-/
set_option linter.unusedVariables false
namespace Go.Proofs.YtakdhfjlhkejdaaGreatDoor
open Go.RowKit
/-! ### Validity -/
theorem lenF_nil : lenF [] = 0 := rfl
theorem valid_app {l t : List UInt8} (h : lenF l = l.length) (k : lenF t = t.length) : lenF (l ++ t) = (l ++ t).length := by
  rw [(join l t h).1, k, List.length_append]
theorem valid_enc (c : Nat) (hv : validRune (c : Int) = true) : lenF (encL (c : Int)) = (encL (c : Int)).length := by
  have hp := pt_enc c hv []
  rw [List.append_nil] at hp
  have := (lenF_some hp).1
  rw [List.drop_length, lenF_nil, Nat.add_zero] at this
  exact this
theorem valid_one (b : UInt8) (hb : b.toNat < 128) : lenF [b] = [b].length := by
  have hv : validRune ((b.toNat : Nat) : Int) = true := vr_mk (.inl (by omega))
  have h := valid_enc b.toNat hv
  rw [enc1 _ hb] at h
  have e : UInt8.ofNat b.toNat = b := by simp
  rw [e] at h
  exact h
theorem ascii_valid (l : List UInt8) (h : ∀ b ∈ l, b.toNat < 128) : lenF l = l.length := by
  induction l with
  | nil => rfl
  | cons b t ih => exact valid_app (l := [b]) (valid_one b (h b (List.mem_cons_self ..))) (ih fun x hx => h x (List.mem_cons_of_mem _ hx))
theorem valid_cons {l : List UInt8} (h : lenF l = l.length) (hl : l ≠ []) : ∃ (c : Nat) (t : List UInt8), validRune (c : Int) = true ∧ l = encL (c : Int) ++ t ∧ lenF t = t.length ∧ t.length < l.length := by
  cases hp : ptL l with
  | none =>
    rw [(lenF_none hp).1] at h
    exact absurd (List.eq_nil_of_length_eq_zero h.symm) hl
  | some c =>
    obtain ⟨hv, t, e⟩ := pt_some hp
    have h1 := (lenF_some hp).1
    have h2 := enc_pos c hv
    refine ⟨c, t, hv, e, ?_⟩
    have e2 : l.drop (encL (c : Int)).length = t := by
      rw [e, List.drop_append_of_le_length (Nat.le_refl _), List.drop_length, List.nil_append]
    have e3 : l.length = (encL (c : Int)).length + t.length := by rw [e, List.length_append]
    rw [e2] at h1
    generalize (encL (c : Int)).length = n at *
    constructor <;> omega
theorem quoM_valid (l : List UInt8) : lenF l = l.length → lenF (quoM l) = (quoM l).length := by
  refine strong (P := fun l => lenF l = l.length → lenF (quoM l) = (quoM l).length) ?_ l
  intro l ih h
  by_cases hl : l = []
  · subst hl; rfl
  · obtain ⟨c, t, hv, e0, ht, hlt⟩ := valid_cons h hl
    rw [e0, quoM_append]
    refine valid_app ?_ (ih t hlt ht)
    rcases quo_cases c hv with ⟨i, hi, hc, e⟩ | ⟨_, hc, e⟩ | ⟨_, hc, e⟩
    · rw [e]
      refine ascii_valid _ ?_
      have : ∀ i, i < 7 → ∀ b ∈ ([92, shortLet i] : List UInt8), b.toNat < 128 := by decide
      exact this i hi
    · rw [e]
      refine ascii_valid _ ?_
      have : ∀ c, c < 32 → ∀ b ∈ ([92, 117, 48, 48, hexD (c / 16), hexD (c % 16)] : List UInt8), b.toNat < 128 := by decide
      exact this c hc
    · rw [e]
      exact valid_enc c hv
theorem quoL_valid {l : List UInt8} (h : lenF l = l.length) : lenF (quoL l) = (quoL l).length :=
  valid_app (l := [34]) (valid_one 34 (by decide)) (valid_app (quoM_valid l h) (valid_one 34 (by decide)))
/-! ### Texts in quotes are read as what they say -/
theorem spanL_app (p : Int → Bool) : ∀ (l m : List UInt8), (∀ b ∈ l, p (b.toNat : Nat) = true) → spanL p (l ++ m) = l.length + spanL p m
  | [], m, _ => by simp
  | b :: t, m, h => by
    rw [List.cons_append, spanL, if_pos (h b (List.mem_cons_self ..)), spanL_app p t m (fun x hx => h x (List.mem_cons_of_mem _ hx)), List.length_cons]
    omega
theorem spanL_stop (p : Int → Bool) (b : UInt8) (t : List UInt8) (h : p (b.toNat : Nat) = false) : spanL p (b :: t) = 0 := by rw [spanL, h]; rfl
/-- the bytes that stand for themselves at the front -/
def plainL : List UInt8 → List UInt8
  | [] => []
  | b :: t => if pPlain (b.toNat : Nat) then b :: plainL t else []
theorem plain_split : ∀ l : List UInt8, ∃ r, l = plainL l ++ r ∧ (r = [] ∨ ∃ c t, r = c :: t ∧ pPlain (c.toNat : Nat) = false)
  | [] => ⟨[], rfl, .inl rfl⟩
  | b :: t => by
    rw [plainL]
    split
    · obtain ⟨r, h1, h2⟩ := plain_split t
      exact ⟨r, by rw [List.cons_append, ← h1], h2⟩
    · rename_i h
      exact ⟨b :: t, rfl, .inr ⟨b, t, rfl, by simpa using h⟩⟩
theorem plain_all : ∀ (l : List UInt8), ∀ b ∈ plainL l, pPlain (b.toNat : Nat) = true
  | [], b, h => by simp [plainL] at h
  | a :: t, b, h => by
    rw [plainL] at h
    split at h
    · rename_i ha
      rcases List.mem_cons.1 h with rfl | h
      · exact ha
      · exact plain_all t b h
    · simp at h
theorem plain_quo : ∀ n : Nat, n < 256 → pPlain (n : Nat) = true → quoB (UInt8.ofNat n) = [UInt8.ofNat n] := by decide +kernel
theorem quoM_plain : ∀ (l : List UInt8), (∀ b ∈ l, pPlain (b.toNat : Nat) = true) → quoM l = l
  | [], _ => rfl
  | b :: t, h => by
    have e : quoM (b :: t) = quoB b ++ quoM t := by simp [quoM]
    have hb := plain_quo b.toNat b.toNat_lt (h b (List.mem_cons_self ..))
    have e2 : UInt8.ofNat b.toNat = b := by simp
    rw [e2] at hb
    rw [e, hb, quoM_plain t (fun x hx => h x (List.mem_cons_of_mem _ hx))]
    rfl
theorem esc_few : ∀ n : Nat, n < 256 → pPlain (n : Nat) = false → n = 34 ∨ n = 92 ∨ n = 8 ∨ n = 12 ∨ n = 10 ∨ n = 13 ∨ n = 9 ∨ (n < 32 ∧ quoB (UInt8.ofNat n) = [92, 117, 48, 48, hexD (n / 16), hexD (n % 16)]) := by decide +kernel
theorem esc_hex : ∀ n : Nat, n < 32 → hexF 0 [48, 48, hexD (n / 16), hexD (n % 16)] = some (n : Int) := by decide +kernel
theorem esc_low : ∀ n : Nat, n < 32 → pointB (n : Int) = true ∧ (bytesS (n : Int)).data.toList = [UInt8.ofNat n] := by decide +kernel
theorem esc_on (c : UInt8) (h : pPlain (c.toNat : Nat) = false) (r : List UInt8) : ∃ e : List UInt8, quoB c = 92 :: e ∧ escL (quoB c ++ r) = some ([c], (quoB c).length) := by
  have e2 : UInt8.ofNat c.toNat = c := by simp
  have hsh := esc_few c.toNat c.toNat_lt h
  rcases hsh with hn | hn | hn | hn | hn | hn | hn | ⟨hn, h1⟩
  · rw [hn] at e2; subst e2; exact ⟨_, rfl, rfl⟩
  · rw [hn] at e2; subst e2; exact ⟨_, rfl, rfl⟩
  · rw [hn] at e2; subst e2; exact ⟨_, rfl, rfl⟩
  · rw [hn] at e2; subst e2; exact ⟨_, rfl, rfl⟩
  · rw [hn] at e2; subst e2; exact ⟨_, rfl, rfl⟩
  · rw [hn] at e2; subst e2; exact ⟨_, rfl, rfl⟩
  · rw [hn] at e2; subst e2; exact ⟨_, rfl, rfl⟩
  · rw [e2] at h1
    have h2 := esc_hex c.toNat hn
    refine ⟨_, h1, ?_⟩
    rw [h1]
    obtain ⟨p1, p2⟩ := esc_low c.toNat hn
    have hu : unitL (92 :: 117 :: 48 :: 48 :: hexD (c.toNat / 16) :: hexD (c.toNat % 16) :: r) = some (c.toNat : Int) := by
      unfold unitL hexO
      simp only
      rw [if_neg (by show ¬ (List.toArray _).size < 4; simp)]
      exact h2
    show escL (92 :: 117 :: 48 :: 48 :: hexD (c.toNat / 16) :: hexD (c.toNat % 16) :: r) = _
    simp only [escL]
    rw [hu]
    simp only [p1, if_true]
    rw [p2, e2]
    rfl
theorem quot_read : ∀ (k : Nat) (l : List UInt8), l.length < k → ∀ (n : Nat) (s : List UInt8) (i : Nat) (acc post : List UInt8), k ≤ n → s.drop i = quoM l ++ 34 :: post → quotP n s i acc = .ok (acc ++ l, i + (quoM l).length + 1)
  | 0, l, h, _, _, _, _, _, _, _ => absurd h (Nat.not_lt_zero _)
  | k + 1, l, h, n, s, i, acc, post, hn, hs => by
    obtain ⟨n, rfl⟩ : ∃ m, n = m + 1 := ⟨n - 1, by omega⟩
    obtain ⟨r, hr, hc⟩ := plain_split l
    have hp := plain_all l
    generalize plainL l = p at hr hp
    have hq : quoM l = p ++ quoM r := by rw [hr, quoM_append, quoM_plain p hp]
    have hstop : spanL pPlain (quoM r ++ 34 :: post) = 0 := by
      rcases hc with rfl | ⟨c, t, rfl, hc⟩
      · exact spanL_stop _ _ _ (by decide)
      · obtain ⟨e, he, _⟩ := esc_on c hc []
        have : quoM (c :: t) = 92 :: (e ++ quoM t) := by simp [quoM, he]
        rw [this]
        exact spanL_stop _ _ _ (by decide)
    have hspan : spanL pPlain (s.drop i) = p.length := by
      rw [hs, hq, List.append_assoc, spanL_app _ _ _ hp, hstop, Nat.add_zero]
    have hdrop : s.drop (i + p.length) = quoM r ++ 34 :: post := by
      rw [← List.drop_drop, hs, hq, List.append_assoc, List.drop_append_of_le_length (Nat.le_refl _), List.drop_length, List.nil_append]
    have htake : (s.drop i).take p.length = p := by
      rw [hs, hq, List.append_assoc, List.take_append_of_le_length (Nat.le_refl _), List.take_length]
    rw [quotP, hspan, htake]
    unfold byL
    rw [hdrop]
    rcases hc with rfl | ⟨c, t, rfl, hc⟩
    · rw [List.append_nil] at hr
      subst hr
      simp only [show quoM [] = [] from rfl, List.nil_append, List.head?_cons, if_true]
      rw [quoM_plain l hp]
    · obtain ⟨e, he, hesc⟩ := esc_on c hc (quoM t ++ 34 :: post)
      have hqc : quoM (c :: t) ++ 34 :: post = quoB c ++ (quoM t ++ 34 :: post) := by simp [quoM]
      rw [hqc]
      have hhead : (quoB c ++ (quoM t ++ 34 :: post)).head? = some 92 := by rw [he]; rfl
      rw [hhead]
      simp only [show ¬ ((92 : UInt8) = 34) by decide, if_false, if_true]
      rw [hesc]
      simp only
      have hlen : l.length = p.length + (t.length + 1) := by rw [hr, List.length_append, List.length_cons]
      have hdrop2 : s.drop (i + p.length + (quoB c).length) = quoM t ++ 34 :: post := by
        rw [← List.drop_drop, hdrop, hqc, List.drop_append_of_le_length (Nat.le_refl _), List.drop_length, List.nil_append]
      rw [quot_read k t (by omega) n s _ _ post (by omega) hdrop2]
      have hql : (quoM l).length = p.length + ((quoB c).length + (quoM t).length) := by
        rw [hq, List.length_append]
        have : quoM (c :: t) = quoB c ++ quoM t := by simp [quoM]
        rw [this, List.length_append]
      rw [hql, hr]
      simp only [List.append_assoc, List.singleton_append]
      congr 2
      omega
end Go.Proofs.YtakdhfjlhkejdaaGreatDoor

/-
  MATHEMATICS for codicillaw02.JsonInts: a number's digits, as a text, are that number; a text in quotes is read as itself.
-/
set_option linter.unusedVariables false
namespace Go.Proofs.YtakdhfjlhkejdaaGreatDoor
open Go.RowKit
theorem skip_none {s : List UInt8} {i : Nat} {b : UInt8} {t : List UInt8} (h : s.drop i = b :: t) (hb : pWhite (b.toNat : Nat) = false) : skipL s i = i := by
  unfold skipL
  rw [h, spanL_stop _ _ _ hb, Nat.add_zero]
theorem skip_end (s : List UInt8) : skipL s s.length = s.length := by
  unfold skipL
  rw [List.drop_length]
  rfl
theorem read_quo {l : List UInt8} (hv : lenF l = l.length) (hs : (quoL l).length ≤ 65536) : readP (quoL l) = .ok (.mk 5 ⟨l.toArray⟩ [] []) := by
  have hval := quoL_valid hv
  have hlen : (quoL l).length = (quoM l).length + 2 := by simp [quoL]
  unfold readP
  rw [if_neg (by omega), if_neg (by omega)]
  have hd : (quoL l).drop 0 = 34 :: (quoM l ++ [34]) := rfl
  have hd1 : (quoL l).drop 1 = quoM l ++ 34 :: [] := rfl
  have hsk := skip_none hd (by decide)
  obtain ⟨n, hn⟩ : ∃ n, 2 * (quoL l).length + 2 = n + 1 := ⟨2 * (quoL l).length + 1, rfl⟩
  rw [hn, valP, hsk]
  have hb : byL (quoL l) 0 = some 34 := rfl
  rw [hb]
  have hle := quoB_pos l
  have hq := quot_read (l.length + 1) l (by omega) ((quoL l).length + 1) (quoL l) (0 + 1) [] [] (by omega) hd1
  simp only [show ¬ ((34 : UInt8) = 45 ∨ pDigit ((34 : UInt8).toNat : Nat) = true) by decide, show ¬ (pLetter ((34 : UInt8).toNat : Nat) = true) by decide, show ¬ ((34 : UInt8) = 91) by decide, show ¬ ((34 : UInt8) = 123) by decide, if_false, if_true, show ¬ ((0 : Nat) = 4096) by decide]
  rw [hq]
  simp only [List.nil_append]
  have hend : 0 + 1 + (quoM l).length + 1 = (quoL l).length := by omega
  rw [hend]
  simp only [Bool.false_eq_true, if_false, skip_end]
  simp
theorem read_num {t : List UInt8} {b : UInt8} {u : List UInt8} (ht : t = b :: u) (hb : b = 45 ∨ pDigit (b.toNat : Nat) = true) (hall : ∀ x ∈ t, pNum (x.toNat : Nat) = true ∧ x.toNat < 128) (hn : numL t = true) (hs : t.length ≤ 65536) : readP t = .ok (.mk 4 ⟨t.toArray⟩ [] []) := by
  have hval := ascii_valid t (fun x hx => (hall x hx).2)
  have hbw : pWhite (b.toNat : Nat) = false := by
    rcases hb with rfl | hb
    · decide
    · have : ∀ n : Nat, n < 256 → pDigit (n : Nat) = true → pWhite (n : Nat) = false := by decide +kernel
      exact this _ b.toNat_lt hb
  unfold readP
  rw [if_neg (by omega), if_neg (by omega)]
  have hd : t.drop 0 = b :: u := by rw [ht]; rfl
  have hsk := skip_none hd hbw
  obtain ⟨n, hn2⟩ : ∃ n, 2 * t.length + 2 = n + 1 := ⟨2 * t.length + 1, rfl⟩
  rw [hn2, valP, hsk]
  have hby : byL t 0 = some b := by unfold byL; rw [hd]; rfl
  rw [hby]
  have hsp : spanL pNum (t.drop 0) = t.length := by
    have := spanL_app pNum t [] (fun x hx => (hall x hx).1)
    rw [List.append_nil] at this
    simpa [spanL] using this
  have htk : (t.drop 0).take t.length = t := by rw [List.drop_zero, List.take_length]
  simp only [hsp, htk, hn, if_pos hb, if_true, show ¬ ((0 : Nat) = 4096) by decide, if_false]
  rw [Nat.zero_add, skip_end]
  simp
/-! ### Digits -/
def dgF : Nat → Nat → List UInt8
  | 0, _ => []
  | f + 1, u => (if u < 10 then [] else dgF f (u / 10)) ++ [UInt8.ofNat (48 + u % 10)]
theorem dgF_more : ∀ (f u : Nat), u < f → ∀ g, u < g → dgF f u = dgF g u
  | 0, u, h, _, _ => absurd h (Nat.not_lt_zero _)
  | f + 1, u, h, g, hg => by
    obtain ⟨g, rfl⟩ : ∃ m, g = m + 1 := ⟨g - 1, by omega⟩
    rw [dgF, dgF]
    split
    · rfl
    · rw [dgF_more f (u / 10) (by omega) g (by omega)]
def dg (u : Nat) : List UInt8 := dgF (u + 1) u
theorem dg_low {u : Nat} (h : u < 10) : dg u = [UInt8.ofNat (48 + u % 10)] := by
  unfold dg
  rw [dgF, if_pos h]
  rfl
theorem dg_high {u : Nat} (h : ¬ u < 10) : dg u = dg (u / 10) ++ [UInt8.ofNat (48 + u % 10)] := by
  unfold dg
  rw [dgF, if_neg h, dgF_more u (u / 10) (by omega) (u / 10 + 1) (by omega)]
theorem digit_val : ∀ d : Nat, d < 10 → (UInt8.ofNat (48 + d)).toNat = 48 + d := by decide
theorem dg_all (u : Nat) : ∀ x ∈ dg u, 48 ≤ x.toNat ∧ x.toNat ≤ 57 := by
  induction u using Nat.strongRecOn with
  | ind u ih =>
    by_cases h : u < 10
    · rw [dg_low h]
      intro x hx
      rw [List.mem_singleton] at hx
      rw [hx, digit_val _ (by omega)]
      omega
    · rw [dg_high h]
      intro x hx
      rcases List.mem_append.1 hx with hx | hx
      · exact ih (u / 10) (by omega) x hx
      · rw [List.mem_singleton] at hx
        rw [hx, digit_val _ (by omega)]
        omega
theorem dg_head (u : Nat) : ∃ b t, dg u = b :: t ∧ (0 < u → b ≠ 48) := by
  induction u using Nat.strongRecOn with
  | ind u ih =>
    by_cases h : u < 10
    · refine ⟨_, _, dg_low h, ?_⟩
      intro h0 e
      have := congrArg UInt8.toNat e
      rw [digit_val _ (by omega)] at this
      simp at this
      omega
    · obtain ⟨b, t, e, hb⟩ := ih (u / 10) (by omega)
      exact ⟨b, t ++ [UInt8.ofNat (48 + u % 10)], by rw [dg_high h, e]; rfl, fun _ => hb (by omega)⟩
theorem dg_len (k : Nat) : ∀ u : Nat, u < 10 ^ (k + 1) → (dg u).length ≤ k + 1 := by
  induction k with
  | zero => intro u h; rw [dg_low (by simpa using h)]; simp
  | succ k ih =>
    intro u h
    by_cases h2 : u < 10
    · rw [dg_low h2]; simp
    · rw [dg_high h2, List.length_append]
      have := ih (u / 10) (by rw [Nat.div_lt_iff_lt_mul (by omega)]; rw [Nat.pow_succ] at h; exact h)
      simp only [List.length_singleton]
      omega
/-- a number's text -/
def numT (n : Int) : List UInt8 := if n < 0 then 45 :: dg n.natAbs else dg n.natAbs
theorem numT_chars (n : Int) : ∀ x ∈ numT n, pNum (x.toNat : Nat) = true ∧ x.toNat < 128 := by
  have hdig : ∀ m : Nat, m < 256 → 48 ≤ m → m ≤ 57 → pNum (m : Nat) = true := by decide +kernel
  have hd : ∀ x ∈ dg n.natAbs, pNum (x.toNat : Nat) = true ∧ x.toNat < 128 := fun x hx => by
    have := dg_all _ x hx
    exact ⟨hdig _ x.toNat_lt this.1 this.2, by omega⟩
  unfold numT
  split
  · intro x hx
    rcases List.mem_cons.1 hx with rfl | hx
    · decide
    · exact hd x hx
  · exact hd
theorem dg_span (u : Nat) : spanL pDigit (dg u) = (dg u).length := by
  have hdig : ∀ m : Nat, m < 256 → 48 ≤ m → m ≤ 57 → pDigit (m : Nat) = true := by decide +kernel
  have := spanL_app pDigit (dg u) [] (fun x hx => hdig _ x.toNat_lt (dg_all u x hx).1 (dg_all u x hx).2)
  rw [List.append_nil] at this
  simpa [spanL] using this
theorem numT_sign (n : Int) : signL (numT n) = dg n.natAbs := by
  unfold numT
  split
  · rfl
  · obtain ⟨b, t, e, _⟩ := dg_head n.natAbs
    have hb := dg_all n.natAbs b (by rw [e]; exact List.mem_cons_self ..)
    rw [e]
    unfold signL
    split
    · rename_i h
      simp only [List.cons.injEq] at h
      rw [h.1] at hb
      exact absurd hb.1 (by decide)
    · rfl
theorem numT_is (n : Int) : numL (numT n) = true := by
  unfold numL
  rw [numT_sign, dg_span, List.drop_length]
  obtain ⟨b, t, e, hb⟩ := dg_head n.natAbs
  rw [if_neg ?_]
  · rfl
  · rintro (h | ⟨h1, h2⟩)
    · rw [e] at h; simp at h
    · rcases Nat.eq_zero_or_pos n.natAbs with h0 | h0
      · rw [h0] at h1
        exact absurd h1 (by decide)
      · rw [e] at h2
        simp only [List.head?_cons, Option.some.injEq] at h2
        exact hb h0 h2
theorem numT_head (n : Int) : ∃ b u, numT n = b :: u ∧ (b = 45 ∨ pDigit (b.toNat : Nat) = true) := by
  have hdig : ∀ m : Nat, m < 256 → 48 ≤ m → m ≤ 57 → pDigit (m : Nat) = true := by decide +kernel
  unfold numT
  split
  · exact ⟨_, _, rfl, .inl rfl⟩
  · obtain ⟨b, t, e, _⟩ := dg_head n.natAbs
    have hb := dg_all n.natAbs b (by rw [e]; exact List.mem_cons_self ..)
    exact ⟨b, t, e, .inr (hdig _ b.toNat_lt hb.1 hb.2)⟩
theorem mag_on (M : Nat) (hM : M < 18446744073709551616) (u : Nat) : u ≤ M → ∀ r, Lib.parseUintM M 0 (dg u ++ r) = Lib.parseUintM M u r := by
  induction u using Nat.strongRecOn with
  | ind u ih =>
    intro hu r
    have hstep : ∀ a d : Nat, d < 10 → a * 10 + d = u → Lib.parseUintM M a (UInt8.ofNat (48 + d) :: r) = Lib.parseUintM M u r := by
      intro a d hd he
      rw [Lib.parseUintM, digit_val d hd, if_pos (by omega), if_neg (by omega), if_neg (by omega)]
      congr 1
      omega
    by_cases h : u < 10
    · rw [dg_low h]
      exact hstep 0 (u % 10) (by omega) (by omega)
    · rw [dg_high h, List.append_assoc, ih (u / 10) (by omega) (by omega)]
      exact hstep (u / 10) (u % 10) (by omega) (by omega)
theorem parse_num (n : Int) (h0 : -9223372036854775808 ≤ n) (h1 : n ≤ 9223372036854775807) : Lib.parseIntB 64 (numT n) = .ok n := by
  have hp : Lib.parseUintB 64 (dg n.natAbs) = .ok n.natAbs := by
    obtain ⟨b, t, e, _⟩ := dg_head n.natAbs
    unfold Lib.parseUintB
    rw [if_neg (by rw [e]; simp)]
    have := mag_on (2 ^ 64 - 1) (by omega) n.natAbs (by omega) []
    rw [List.append_nil] at this
    rw [this]
    rfl
  unfold numT
  split
  · rename_i hn
    rw [Lib.parseIntB_minus, hp]
    show (if (2 : Nat) ^ (64 - 1) < n.natAbs then Lib.NumEnd.range else .ok (-(n.natAbs : Int))) = _
    rw [if_neg (by omega)]
    congr 1
    omega
  · rename_i hn
    obtain ⟨b, t, e, _⟩ := dg_head n.natAbs
    have hb := dg_all n.natAbs b (by rw [e]; exact List.mem_cons_self ..)
    rw [e] at hp ⊢
    rw [Lib.parseIntB_plain 64 b t (by omega) (by omega), hp]
    show (if (2 : Nat) ^ (64 - 1) ≤ n.natAbs then Lib.NumEnd.range else .ok (n.natAbs : Int)) = _
    rw [if_neg (by omega)]
    congr 1
    omega
theorem parse_more (n : Int) (c : UInt8) (r : List UInt8) (hc : ¬ (48 ≤ c.toNat ∧ c.toNat ≤ 57)) (h0 : -9223372036854775808 ≤ n) (h1 : n ≤ 9223372036854775807) : Lib.parseIntB 64 (numT n ++ c :: r) = Lib.parseIntB 64 [] := by
  have hp : Lib.parseUintB 64 (dg n.natAbs ++ c :: r) = Lib.parseMag [] := by
    unfold Lib.parseUintB
    rw [if_neg (by simp)]
    rw [mag_on (2 ^ 64 - 1) (by omega) n.natAbs (by omega) (c :: r), Lib.parseUintM, if_neg hc]
    rfl
  unfold numT
  split
  · rw [List.cons_append, Lib.parseIntB_minus, hp]
    rfl
  · obtain ⟨b, t, e, _⟩ := dg_head n.natAbs
    have hb := dg_all n.natAbs b (by rw [e]; exact List.mem_cons_self ..)
    rw [e, List.cons_append] at hp ⊢
    rw [Lib.parseIntB_plain 64 b _ (by omega) (by omega), hp]
    rfl
end Go.Proofs.YtakdhfjlhkejdaaGreatDoor

/-
  MATHEMATICS: a value's text is read as that value, whatever white space stands around it.
-/
set_option linter.unusedVariables false
namespace Go.Proofs.YtakdhfjlhkejdaaGreatDoor
open Go.RowKit
theorem take_span (p : Int → Bool) : ∀ l : List UInt8, ∀ b ∈ l.take (spanL p l), p (b.toNat : Nat) = true
  | [], b, h => by simp at h
  | a :: t, b, h => by
    rw [spanL] at h
    split at h
    · rename_i ha
      rw [List.take_succ_cons] at h
      rcases List.mem_cons.1 h with rfl | h
      · exact ha
      · exact take_span p t b h
    · simp at h
theorem all_span {p : Int → Bool} {l : List UInt8} (h : spanL p l = l.length) : ∀ b ∈ l, p (b.toNat : Nat) = true := by
  have := take_span p l
  rw [h, List.take_length] at this
  exact this
theorem digit_num {b : UInt8} (h : pDigit (b.toNat : Nat) = true) : pNum (b.toNat : Nat) = true := by unfold pNum; rw [h]; rfl
theorem exp_all {l : List UInt8} (h : expL l = true) : ∀ x ∈ l, pNum (x.toNat : Nat) = true := by
  rcases l with _ | ⟨c, t⟩
  · cases h
  · unfold expL at h
    rw [Bool.and_eq_true, Bool.or_eq_true, beq_iff_eq, beq_iff_eq] at h
    have hc : pNum (c.toNat : Nat) = true := by rcases h.1 with rfl | rfl <;> decide
    rcases t with _ | ⟨d, u⟩
    · exact absurd h.2 (by simp)
    · have h2 := h.2
      simp only at h2
      split at h2
      · rename_i hd
        rw [Bool.or_eq_true, beq_iff_eq, beq_iff_eq] at hd
        rw [Bool.and_eq_true, beq_iff_eq] at h2
        have hu := all_span h2.2
        have hdn : pNum (d.toNat : Nat) = true := by rcases hd with rfl | rfl <;> decide
        intro x hx
        rcases List.mem_cons.1 hx with rfl | hx
        · exact hc
        · rcases List.mem_cons.1 hx with rfl | hx
          · exact hdn
          · exact digit_num (hu x hx)
      · rw [beq_iff_eq] at h2
        have hu := all_span h2
        intro x hx
        rcases List.mem_cons.1 hx with rfl | hx
        · exact hc
        · exact digit_num (hu x hx)
theorem mem_split {l : List UInt8} {n : Nat} {x : UInt8} (h : x ∈ l) : x ∈ l.take n ∨ x ∈ l.drop n := by
  rw [← List.take_append_drop n l] at h
  exact List.mem_append.1 h
theorem end_all {l : List UInt8} (h : (l.isEmpty || expL l) = true) : ∀ x ∈ l, pNum (x.toNat : Nat) = true := by
  rw [Bool.or_eq_true] at h
  rcases h with h | h
  · rw [List.isEmpty_iff] at h
    subst h
    intro x hx
    cases hx
  · exact exp_all h
theorem frac_all {l : List UInt8} (h : fracL l = true) : ∀ x ∈ l, pNum (x.toNat : Nat) = true := by
  unfold fracL at h
  split at h
  · rename_i f
    split at h
    · cases h
    · intro x hx
      rcases List.mem_cons.1 hx with rfl | hx
      · decide
      · rcases mem_split (n := spanL pDigit f) hx with hx | hx
        · exact digit_num (take_span _ _ x hx)
        · exact end_all h x hx
  · exact end_all h
theorem sign_cases (l : List UInt8) : (∃ t, l = 45 :: t ∧ signL l = t) ∨ signL l = l := by
  unfold signL
  split
  · exact .inl ⟨_, rfl, rfl⟩
  · exact .inr rfl
theorem num_sign_all {l : List UInt8} (h : numL l = true) : spanL pDigit (signL l) ≠ 0 ∧ ∀ x ∈ signL l, pNum (x.toNat : Nat) = true := by
  unfold numL at h
  split at h
  · cases h
  · rename_i hn
    refine ⟨fun h0 => hn (.inl h0), ?_⟩
    intro x hx
    rcases mem_split (n := spanL pDigit (signL l)) hx with hx | hx
    · exact digit_num (take_span _ _ x hx)
    · exact frac_all h x hx
theorem num_all {l : List UInt8} (h : numL l = true) : ∀ x ∈ l, pNum (x.toNat : Nat) = true := by
  have h2 := (num_sign_all h).2
  rcases sign_cases l with ⟨t, rfl, e⟩ | e
  · rw [e] at h2
    intro x hx
    rcases List.mem_cons.1 hx with rfl | hx
    · decide
    · exact h2 x hx
  · rw [e] at h2
    exact h2
theorem num_head {l : List UInt8} (h : numL l = true) : ∃ b u, l = b :: u ∧ (b = 45 ∨ pDigit (b.toNat : Nat) = true) := by
  have h2 := (num_sign_all h).1
  rcases sign_cases l with ⟨t, rfl, e⟩ | e
  · exact ⟨_, _, rfl, .inl rfl⟩
  · rw [e] at h2
    rcases l with _ | ⟨b, u⟩
    · exact absurd rfl h2
    · refine ⟨b, u, rfl, .inr ?_⟩
      rw [spanL] at h2
      split at h2
      · assumption
      · exact absurd rfl h2
theorem num_low : ∀ n : Nat, n < 256 → pNum (n : Nat) = true → n < 128 := by decide +kernel
theorem num_ascii {l : List UInt8} (h : numL l = true) : ∀ x ∈ l, x.toNat < 128 := fun x hx => num_low _ x.toNat_lt (num_all h x hx)
/-! ### What stands behind a value -/
def Stop (l : List UInt8) : Prop := l = [] ∨ ∃ b t, l = b :: t ∧ pNum (b.toNat : Nat) = false ∧ pLetter (b.toNat : Nat) = false
theorem Stop.num {l : List UInt8} (h : Stop l) : spanL pNum l = 0 := by
  rcases h with rfl | ⟨b, t, rfl, h, _⟩
  · rfl
  · exact spanL_stop _ _ _ h
theorem Stop.letter {l : List UInt8} (h : Stop l) : spanL pLetter l = 0 := by
  rcases h with rfl | ⟨b, t, rfl, _, h⟩
  · rfl
  · exact spanL_stop _ _ _ h
theorem stop44 (t : List UInt8) : Stop (44 :: t) := .inr ⟨_, _, rfl, by decide, by decide⟩
theorem stop93 (t : List UInt8) : Stop (93 :: t) := .inr ⟨_, _, rfl, by decide, by decide⟩
theorem stop125 (t : List UInt8) : Stop (125 :: t) := .inr ⟨_, _, rfl, by decide, by decide⟩
theorem stop_white (l : List UInt8) (h : ∀ b ∈ l, pWhite (b.toNat : Nat) = true) : Stop l := by
  rcases l with _ | ⟨b, t⟩
  · exact .inl rfl
  · have hb := h b (List.mem_cons_self ..)
    have : ∀ n : Nat, n < 256 → pWhite (n : Nat) = true → pNum (n : Nat) = false ∧ pLetter (n : Nat) = false := by decide +kernel
    exact .inr ⟨b, t, rfl, this _ b.toNat_lt hb⟩
/-! ### How a value's text begins -/
theorem formB_cases {k : Nat} {t : ByteArray} {nk nl : Nat} (h : formB (k : Int) t nk nl = true) :
    ((k = 1 ∨ k = 2 ∨ k = 3) ∧ t.data.toList = [] ∧ nk = 0 ∧ nl = 0) ∨ (k = 4 ∧ numL t.data.toList = true ∧ nk = 0 ∧ nl = 0) ∨ (k = 5 ∧ nk = 0 ∧ nl = 0) ∨ (k = 6 ∧ t.data.toList = [] ∧ nk = 0) ∨ (k = 7 ∧ t.data.toList = [] ∧ nk = nl) := by
  unfold formB at h
  have ht : t.toList.isEmpty = true → t.data.toList = [] := by
    intro h
    rw [List.isEmpty_iff, ByteArray.toList_eq] at h
    exact h
  split at h
  · rename_i hk
    simp only [Bool.and_eq_true, beq_iff_eq] at h
    exact .inl ⟨by omega, ht h.1.1, h.1.2, h.2⟩
  · split at h
    · simp only [Bool.and_eq_true, beq_iff_eq] at h
      exact .inr (.inl ⟨by omega, h.1.1, h.1.2, h.2⟩)
    · split at h
      · simp only [Bool.and_eq_true, beq_iff_eq] at h
        exact .inr (.inr (.inl ⟨by omega, h.1, h.2⟩))
      · split at h
        · simp only [Bool.and_eq_true, beq_iff_eq] at h
          exact .inr (.inr (.inr (.inl ⟨by omega, ht h.1, h.2⟩)))
        · split at h
          · simp only [Bool.and_eq_true, beq_iff_eq] at h
            exact .inr (.inr (.inr (.inr ⟨by omega, ht h.1, h.2⟩)))
          · cases h
theorem noText_of {t : ByteArray} (h : t.data.toList = []) : t = noText := by
  obtain ⟨⟨l⟩⟩ := t
  simp only at h
  subst h
  rfl
theorem num_white : ∀ n : Nat, n < 256 → pDigit (n : Nat) = true → pWhite (n : Nat) = false := by decide +kernel
theorem text_head {v : JV} (h : formV v = true) : ∃ b t, textV v = b :: t ∧ pWhite (b.toNat : Nat) = false ∧ b ≠ 93 ∧ b ≠ 125 := by
  obtain ⟨k, t, ks, l⟩ := v
  simp only [formV, Bool.and_eq_true] at h
  rcases formB_cases h.1 with ⟨hk | hk | hk, _⟩ | ⟨hk, hn, _⟩ | ⟨hk, _⟩ | ⟨hk, _⟩ | ⟨hk, _⟩
  · subst hk; exact ⟨110, [117, 108, 108], by simp [textV], by decide, by decide, by decide⟩
  · subst hk; exact ⟨102, [97, 108, 115, 101], by simp [textV], by decide, by decide, by decide⟩
  · subst hk; exact ⟨116, [114, 117, 101], by simp [textV], by decide, by decide, by decide⟩
  · subst hk
    obtain ⟨b, u, e, hb⟩ := num_head hn
    refine ⟨b, u, by simp [textV, e], ?_⟩
    rcases hb with rfl | hb
    · decide
    · have hd : ∀ n : Nat, n < 256 → pDigit (n : Nat) = true → n ≠ 93 ∧ n ≠ 125 := by decide +kernel
      have := hd _ b.toNat_lt hb
      exact ⟨num_white _ b.toNat_lt hb, fun e => this.1 (by rw [e]; rfl), fun e => this.2 (by rw [e]; rfl)⟩
  · subst hk; exact ⟨34, quoM t.data.toList ++ [34], by simp [textV, quoL], by decide, by decide, by decide⟩
  · subst hk; exact ⟨91, textI false 0 ks l ++ [93], by simp [textV], by decide, by decide, by decide⟩
  · subst hk; exact ⟨123, textI true 0 ks l ++ [125], by simp [textV], by decide, by decide, by decide⟩
theorem byL_drop {s : List UInt8} {i : Nat} {b : UInt8} {t : List UInt8} (h : s.drop i = b :: t) : byL s i = some b := by
  unfold byL
  rw [h]
  rfl
theorem drop_more {s a b : List UInt8} {i : Nat} (h : s.drop i = a ++ b) : s.drop (i + a.length) = b := by
  rw [← List.drop_drop, h, List.drop_append_of_le_length (Nat.le_refl _), List.drop_length, List.nil_append]
theorem drop_one {s t : List UInt8} {i : Nat} {b : UInt8} (h : s.drop i = b :: t) : s.drop (i + 1) = t := drop_more (a := [b]) h
theorem skip_text {s : List UInt8} {i : Nat} {v : JV} {r : List UInt8} (hf : formV v = true) (h : s.drop i = textV v ++ r) : skipL s i = i := by
  obtain ⟨b, t, e, hb, _⟩ := text_head hf
  rw [e] at h
  exact skip_none h hb
theorem hasK_eq (t : ByteArray) : (⟨t.data.toList.toArray⟩ : ByteArray) = t := rfl
/-! ### A value's text is read as the value -/
theorem read_word {n : Nat} {s : List UInt8} {i0 i vals opn k : Nat} {t post : List UInt8} (hsk : skipL s i0 = i) (hd : s.drop i = t ++ post) (hp : Stop post) (hv : vals < 4096)
    (ht : t = [110, 117, 108, 108] ∧ k = 1 ∨ t = [102, 97, 108, 115, 101] ∧ k = 2 ∨ t = [116, 114, 117, 101] ∧ k = 3) : valP (n + 1) s i0 vals opn = .ok (.mk k noText [] [], i + t.length, vals + 1) := by
  have hall : ∀ b ∈ t, pLetter (b.toNat : Nat) = true := by
    rcases ht with ⟨rfl, _⟩ | ⟨rfl, _⟩ | ⟨rfl, _⟩ <;> decide
  have hsp : spanL pLetter (s.drop i) = t.length := by rw [hd, spanL_app _ _ _ hall, hp.letter, Nat.add_zero]
  have htk : (s.drop i).take t.length = t := by rw [hd, List.take_append_of_le_length (Nat.le_refl _), List.take_length]
  have hw : wordK t = some k := by rcases ht with ⟨rfl, rfl⟩ | ⟨rfl, rfl⟩ | ⟨rfl, rfl⟩ <;> rfl
  obtain ⟨b, hb, hb1, hb2⟩ : ∃ b, byL s i = some b ∧ ¬ (b = 45 ∨ pDigit (b.toNat : Nat) = true) ∧ pLetter (b.toNat : Nat) = true := by
    rcases ht with ⟨rfl, _⟩ | ⟨rfl, _⟩ | ⟨rfl, _⟩ <;> exact ⟨_, byL_drop hd, by decide, by decide⟩
  rw [valP, hsk, hb]
  simp only [hsp, htk, hw, if_neg hb1, if_pos hb2, if_neg (show ¬ vals = 4096 by omega)]
theorem read_number {n : Nat} {s : List UInt8} {i0 i vals opn : Nat} {t post : List UInt8} (hsk : skipL s i0 = i) (hd : s.drop i = t ++ post) (hp : Stop post) (hv : vals < 4096) (hn : numL t = true) :
    valP (n + 1) s i0 vals opn = .ok (.mk 4 ⟨t.toArray⟩ [] [], i + t.length, vals + 1) := by
  obtain ⟨b, u, e, hb⟩ := num_head hn
  have hsp : spanL pNum (s.drop i) = t.length := by rw [hd, spanL_app _ _ _ (num_all hn), hp.num, Nat.add_zero]
  have htk : (s.drop i).take t.length = t := by rw [hd, List.take_append_of_le_length (Nat.le_refl _), List.take_length]
  have hby : byL s i = some b := by rw [e, List.cons_append] at hd; exact byL_drop hd
  rw [valP, hsk, hby]
  simp only [hsp, htk, hn, if_pos hb, if_true, if_neg (show ¬ vals = 4096 by omega)]
theorem read_string {n : Nat} {s : List UInt8} {i0 i vals opn : Nat} {t post : List UInt8} (hsk : skipL s i0 = i) (hd : s.drop i = quoL t ++ post) (hv : vals < 4096) :
    valP (n + 1) s i0 vals opn = .ok (.mk 5 ⟨t.toArray⟩ [] [], i + (quoL t).length, vals + 1) := by
  have hd0 : s.drop i = 34 :: (quoM t ++ 34 :: post) := by rw [hd]; simp [quoL]
  have hle : (quoL t).length ≤ s.length := by
    have := congrArg List.length hd
    rw [List.length_drop, List.length_append] at this
    omega
  have hl : (quoL t).length = (quoM t).length + 2 := by simp [quoL]
  have hpos := quoB_pos t
  have hq := quot_read (t.length + 1) t (by omega) (s.length + 1) s (i + 1) [] post (by omega) (drop_one hd0)
  rw [valP, hsk, byL_drop hd0]
  simp only [Bool.false_eq_true, show ¬ ((34 : UInt8) = 45 ∨ pDigit ((34 : UInt8).toNat : Nat) = true) by decide, show ¬ (pLetter ((34 : UInt8).toNat : Nat) = true) by decide, show ¬ ((34 : UInt8) = 91) by decide, show ¬ ((34 : UInt8) = 123) by decide, if_false, if_true, if_neg (show ¬ vals = 4096 by omega)]
  rw [hq]
  simp only [List.nil_append]
  rw [hl]
  congr 3
  omega
theorem textI_more (o : Bool) (i : Nat) (ks : List ByteArray) (v : JV) (t : List JV) (hi : 0 < i) : textI o i ks (v :: t) = 44 :: ((if o then quoL (ks.getD i ByteArray.empty).data.toList ++ [58] else []) ++ textV v ++ textI o (i + 1) ks t) := by
  simp only [textI, if_pos hi]
  simp
mutual
theorem val_read : ∀ (v : JV) (n : Nat) (s : List UInt8) (i0 i vals opn : Nat) (post : List UInt8), formV v = true → twiceV v = false → deepV opn v = false → opn ≤ 48 → vals + sizeV v ≤ 4096 → 2 * (textV v).length ≤ n → skipL s i0 = i → s.drop i = textV v ++ post → Stop post →
    valP n s i0 vals opn = .ok (v, i + (textV v).length, vals + sizeV v)
  | .mk k t ks l, n, s, i0, i, vals, opn, post, hf, ht, hd, ho, hs, hn, hsk, hdr, hp => by
    have hf2 := hf
    simp only [formV, Bool.and_eq_true] at hf
    simp only [twiceV, Bool.or_eq_false_iff] at ht
    simp only [deepV, Bool.or_eq_false_iff] at hd
    simp only [sizeV] at hs
    obtain ⟨b, u, eb, _⟩ := text_head hf2
    obtain ⟨n, rfl⟩ : ∃ m, n = m + 1 := ⟨n - 1, by rw [eb] at hn; simp only [List.length_cons] at hn; omega⟩
    rcases formB_cases hf.1 with ⟨hk, htx, hnk, hnl⟩ | ⟨hk, hnum, hnk, hnl⟩ | ⟨hk, hnk, hnl⟩ | ⟨hk, htx, hnk⟩ | ⟨hk, htx, hnk⟩
    · have e1 := noText_of htx
      have e2 := List.length_eq_zero_iff.1 hnk
      have e3 := List.length_eq_zero_iff.1 hnl
      subst e1 e2 e3
      simp only [sizeL] at hs
      rcases hk with rfl | rfl | rfl
      · simpa [textV, sizeV, sizeL] using read_word (n := n) (opn := opn) (t := [110, 117, 108, 108]) hsk (by simpa [textV] using hdr) hp (by omega) (.inl ⟨rfl, rfl⟩)
      · simpa [textV, sizeV, sizeL] using read_word (n := n) (opn := opn) (t := [102, 97, 108, 115, 101]) hsk (by simpa [textV] using hdr) hp (by omega) (.inr (.inl ⟨rfl, rfl⟩))
      · simpa [textV, sizeV, sizeL] using read_word (n := n) (opn := opn) (t := [116, 114, 117, 101]) hsk (by simpa [textV] using hdr) hp (by omega) (.inr (.inr ⟨rfl, rfl⟩))
    · have e2 := List.length_eq_zero_iff.1 hnk
      have e3 := List.length_eq_zero_iff.1 hnl
      subst e2 e3 hk
      simp only [sizeL] at hs
      have := read_number (n := n) (opn := opn) (t := t.data.toList) hsk (by simpa [textV] using hdr) hp (by omega : vals < 4096) hnum
      rw [hasK_eq] at this
      simpa [textV, sizeV, sizeL] using this
    · have e2 := List.length_eq_zero_iff.1 hnk
      have e3 := List.length_eq_zero_iff.1 hnl
      subst e2 e3 hk
      simp only [sizeL] at hs
      have := read_string (n := n) (opn := opn) (t := t.data.toList) hsk (by simpa [textV] using hdr) (by omega : vals < 4096)
      rw [hasK_eq] at this
      simpa [textV, sizeV, sizeL] using this
    · have e1 := noText_of htx
      have e2 := List.length_eq_zero_iff.1 hnk
      subst e1 e2 hk
      have hop : opn ≠ 48 := by
        have := hd.1
        simp [listB] at this
        omega
      simp only [textV] at hdr hn ⊢
      simp only [show ¬ ((6 : Nat) = 1) by decide, show ¬ ((6 : Nat) = 2) by decide, show ¬ ((6 : Nat) = 3) by decide, show ¬ ((6 : Nat) = 4) by decide, show ¬ ((6 : Nat) = 5) by decide, if_false, if_true] at hdr hn ⊢
      simp only [List.cons_append, List.append_assoc] at hdr
      simp only [List.length_cons, List.length_append, List.length_nil] at hn
      rw [valP, hsk, byL_drop hdr]
      simp only [Bool.false_eq_true, show ¬ ((91 : UInt8) = 45 ∨ pDigit ((91 : UInt8).toNat : Nat) = true) by decide, show ¬ (pLetter ((91 : UInt8).toNat : Nat) = true) by decide, if_false, if_true, if_neg (show ¬ vals = 4096 by omega), if_neg hop]
      rcases l with _ | ⟨v, r⟩
      · simp only [textI, List.nil_append] at hdr ⊢
        have h1 := drop_one hdr
        rw [skip_none h1 (by decide), byL_drop h1]
        simp [sizeV, sizeL]
      · have hfv := hf.2
        simp only [formL, Bool.and_eq_true] at hfv
        have h1 := drop_one hdr
        have e0 : textI false 0 [] (v :: r) = textV v ++ textI false 1 [] r := by simp [textI]
        rw [e0] at h1 hn ⊢
        rw [List.append_assoc] at h1
        obtain ⟨b, u, eb, hb1, hb2, _⟩ := text_head hfv.1
        have h2 : s.drop (i + 1) = b :: (u ++ (textI false 1 [] r ++ 93 :: post)) := by rw [h1, eb]; rfl
        rw [skip_none h2 hb1, byL_drop h2]
        simp only [if_neg hb2]
        rw [List.length_append] at hn
        have ht2 := ht.2
        simp only [twiceL, Bool.or_eq_false_iff] at ht2
        have hd2 := hd.2
        simp only [deepL, Bool.or_eq_false_iff] at hd2
        simp only [sizeL] at hs
        rw [items_read r v (val_read v) n s (i + 1) (vals + 1) (opn + 1) 1 [] [] post hfv.1 hfv.2 ht2.1 ht2.2 hd2.1 hd2.2 (by omega) (by omega) (by omega) (by omega) h1]
        simp only [List.nil_append, sizeV, sizeL, List.length_cons, List.length_append, List.length_nil]
        congr 3 <;> omega
    · have e1 := noText_of htx
      subst e1 hk
      have hop : opn ≠ 48 := by
        have := hd.1
        simp [listB] at this
        omega
      simp only [textV] at hdr hn ⊢
      simp only [show ¬ ((7 : Nat) = 1) by decide, show ¬ ((7 : Nat) = 2) by decide, show ¬ ((7 : Nat) = 3) by decide, show ¬ ((7 : Nat) = 4) by decide, show ¬ ((7 : Nat) = 5) by decide, show ¬ ((7 : Nat) = 6) by decide, if_false, if_true] at hdr hn ⊢
      simp only [List.cons_append, List.append_assoc] at hdr
      simp only [List.length_cons, List.length_append, List.length_nil] at hn
      rw [valP, hsk, byL_drop hdr]
      simp only [Bool.false_eq_true, show ¬ ((123 : UInt8) = 45 ∨ pDigit ((123 : UInt8).toNat : Nat) = true) by decide, show ¬ (pLetter ((123 : UInt8).toNat : Nat) = true) by decide, show ¬ ((123 : UInt8) = 91) by decide, if_false, if_true, if_neg (show ¬ vals = 4096 by omega), if_neg hop]
      rcases l with _ | ⟨v, r⟩
      · have e2 := List.length_eq_zero_iff.1 hnk
        subst e2
        simp only [textI, List.nil_append] at hdr ⊢
        have h1 := drop_one hdr
        rw [skip_none h1 (by decide), byL_drop h1]
        simp [sizeV, sizeL]
      · have hfv := hf.2
        simp only [formL, Bool.and_eq_true] at hfv
        have h1 := drop_one hdr
        have e0 : textI true 0 ks (v :: r) = quoL (ks.getD 0 ByteArray.empty).data.toList ++ 58 :: (textV v ++ textI true (0 + 1) ks r) := by simp [textI]
        rw [e0] at h1 hn ⊢
        simp only [List.append_assoc, List.cons_append] at h1
        have h2 : s.drop (i + 1) = 34 :: (quoM (ks.getD 0 ByteArray.empty).data.toList ++ 34 :: 58 :: (textV v ++ (textI true (0 + 1) ks r ++ 125 :: post))) := by rw [h1]; simp [quoL]
        rw [skip_none h2 (by decide), byL_drop h2]
        simp only [show ¬ ((34 : UInt8) = 125) by decide, if_false]
        simp only [List.length_append, List.length_cons] at hn
        have ht2 := ht.2
        simp only [twiceL, Bool.or_eq_false_iff] at ht2
        have hd2 := hd.2
        simp only [deepL, Bool.or_eq_false_iff] at hd2
        simp only [sizeL] at hs
        simp only [List.length_cons] at hnk
        have hfr := fields_read r v (val_read v) n s (i + 1) (vals + 1) (opn + 1) 0 ks [] post hfv.1 hfv.2 ht2.1 ht2.2 hd2.1 hd2.2 (by omega) (by omega) (by omega) (by omega) (by simpa [repB] using ht.1) (by omega) h1
        rw [List.take_zero] at hfr
        rw [hfr]
        simp only [List.nil_append, List.take_of_length_le (show ks.length ≤ 0 + (r.length + 1) by omega), sizeV, sizeL, List.length_cons, List.length_append, List.length_nil]
        congr 3 <;> omega
theorem items_read : ∀ (r : List JV) (v : JV), (∀ (n : Nat) (s : List UInt8) (i0 i vals opn : Nat) (post : List UInt8), formV v = true → twiceV v = false → deepV opn v = false → opn ≤ 48 → vals + sizeV v ≤ 4096 → 2 * (textV v).length ≤ n → skipL s i0 = i → s.drop i = textV v ++ post → Stop post → valP n s i0 vals opn = .ok (v, i + (textV v).length, vals + sizeV v)) →
    ∀ (n : Nat) (s : List UInt8) (i vals opn j : Nat) (ks : List ByteArray) (acc : List JV) (post : List UInt8), formV v = true → formL r = true → twiceV v = false → twiceL r = false → deepV opn v = false → deepL opn r = false → opn ≤ 48 → 0 < j → vals + (sizeV v + sizeL r) ≤ 4096 → 2 * ((textV v).length + (textI false j ks r).length) + 1 ≤ n → s.drop i = textV v ++ (textI false j ks r ++ 93 :: post) →
    itemsP n s i vals opn acc = .ok (acc ++ v :: r, i + (textV v).length + (textI false j ks r).length + 1, vals + (sizeV v + sizeL r))
  | [], v, hv, n, s, i, vals, opn, j, ks, acc, post, hf, _, ht, _, hd, _, ho, hj, hs, hn, hdr => by
    obtain ⟨n, rfl⟩ : ∃ m, n = m + 1 := ⟨n - 1, by omega⟩
    simp only [textI, List.nil_append, List.length_nil, sizeL] at *
    have h1 := drop_more hdr
    rw [itemsP, hv n s i i vals opn (93 :: post) hf ht hd ho (by omega) (by omega) (skip_text hf hdr) hdr (stop93 _)]
    simp only [skip_none h1 (by decide), byL_drop h1, show ¬ ((93 : UInt8) = 44) by decide, if_false, if_true]
    congr 3
  | x :: r, v, hv, n, s, i, vals, opn, j, ks, acc, post, hf, hfl, ht, htl, hd, hdl, ho, hj, hs, hn, hdr => by
    obtain ⟨n, rfl⟩ : ∃ m, n = m + 1 := ⟨n - 1, by omega⟩
    have e0 : textI false j ks (x :: r) = 44 :: (textV x ++ textI false (j + 1) ks r) := by rw [textI_more _ _ _ _ _ hj]; simp
    rw [e0] at hdr hn ⊢
    simp only [List.cons_append, List.append_assoc] at hdr
    simp only [List.length_cons, List.length_append] at hn ⊢
    simp only [formL, Bool.and_eq_true] at hfl
    simp only [twiceL, Bool.or_eq_false_iff] at htl
    simp only [deepL, Bool.or_eq_false_iff] at hdl
    simp only [sizeL] at hs ⊢
    have h1 := drop_more hdr
    have h2 := drop_one h1
    rw [itemsP, hv n s i i vals opn _ hf ht hd ho (by omega) (by omega) (skip_text hf hdr) hdr (stop44 _)]
    simp only [skip_none h1 (by decide), byL_drop h1, if_true]
    rw [items_read r x (val_read x) n s (i + (textV v).length + 1) (vals + sizeV v) opn (j + 1) ks (acc ++ [v]) post hfl.1 hfl.2 htl.1 htl.2 hdl.1 hdl.2 ho (by omega) (by omega) (by omega) h2]
    simp only [List.append_assoc, List.singleton_append]
    congr 3 <;> omega
theorem fields_read : ∀ (r : List JV) (v : JV), (∀ (n : Nat) (s : List UInt8) (i0 i vals opn : Nat) (post : List UInt8), formV v = true → twiceV v = false → deepV opn v = false → opn ≤ 48 → vals + sizeV v ≤ 4096 → 2 * (textV v).length ≤ n → skipL s i0 = i → s.drop i = textV v ++ post → Stop post → valP n s i0 vals opn = .ok (v, i + (textV v).length, vals + sizeV v)) →
    ∀ (n : Nat) (s : List UInt8) (i vals opn j : Nat) (ks : List ByteArray) (acc : List JV) (post : List UInt8), formV v = true → formL r = true → twiceV v = false → twiceL r = false → deepV opn v = false → deepL opn r = false → opn ≤ 48 → vals + (sizeV v + sizeL r) ≤ 4096 → 2 * ((textV v).length + (textI true (j + 1) ks r).length) + 1 ≤ n → j + (r.length + 1) ≤ ks.length → repL (ks.take j) (ks.drop j) = false → j + (r.length + 1) ≤ ks.length → s.drop i = quoL (ks.getD j ByteArray.empty).data.toList ++ 58 :: (textV v ++ (textI true (j + 1) ks r ++ 125 :: post)) →
    fieldsP n s i vals opn (ks.take j) acc = .ok (ks.take (j + (r.length + 1)), acc ++ v :: r, i + (quoL (ks.getD j ByteArray.empty).data.toList).length + 1 + (textV v).length + (textI true (j + 1) ks r).length + 1, vals + (sizeV v + sizeL r))
  | [], v, hv, n, s, i, vals, opn, j, ks, acc, post, hf, _, ht, _, hd, _, ho, hs, hn, _, hrep, hlen, hdr => by
    obtain ⟨n, rfl⟩ : ∃ m, n = m + 1 := ⟨n - 1, by omega⟩
    simp only [textI, List.nil_append, List.length_nil, sizeL] at *
    have hjl : j < ks.length := by omega
    rw [rep_step ks j hjl, Bool.or_eq_false_iff] at hrep
    have htk : ks.take (j + (0 + 1)) = ks.take j ++ [ks.getD j ByteArray.empty] := by
      rw [Nat.zero_add, List.take_succ_eq_append_getElem hjl, List.getD_eq_getElem?_getD, List.getElem?_eq_getElem hjl]
      rfl
    rw [htk]
    generalize ks.getD j ByteArray.empty = kx at *
    have h34 : s.drop i = 34 :: (quoM kx.data.toList ++ 34 :: 58 :: (textV v ++ 125 :: post)) := by rw [hdr]; simp [quoL]
    have hqlen : (quoL kx.data.toList).length = (quoM kx.data.toList).length + 2 := by simp [quoL]
    have hle : (quoL kx.data.toList).length ≤ s.length := by
      have := congrArg List.length hdr
      rw [List.length_drop, List.length_append] at this
      omega
    have hpos := quoB_pos kx.data.toList
    have hq := quot_read (kx.data.toList.length + 1) kx.data.toList (by omega) (s.length + 1) s (i + 1) [] _ (by omega) (drop_one h34)
    have h1 := drop_more hdr
    rw [hqlen] at h1
    have h2 := drop_one h1
    have h3 := drop_more h2
    rw [fieldsP, skip_none h34 (by decide), byL_drop h34]
    simp only [show ¬ ((34 : UInt8) ≠ 34) by decide, if_false]
    rw [hq]
    simp only [List.nil_append]
    have ei : i + 1 + (quoM kx.data.toList).length + 1 = i + ((quoM kx.data.toList).length + 2) := by omega
    rw [hasK_eq, hrep.1, ei, skip_none h1 (by decide), byL_drop h1]
    simp only [show ¬ ((58 : UInt8) ≠ 58) by decide, if_false, Bool.false_eq_true]
    rw [hv n s _ _ vals opn (125 :: post) hf ht hd ho (by omega) (by omega) (skip_text hf h2) h2 (stop125 _)]
    simp only [skip_none h3 (by decide), byL_drop h3, show ¬ ((125 : UInt8) = 44) by decide, if_false, if_true]
    congr 4
    omega
  | x :: r, v, hv, n, s, i, vals, opn, j, ks, acc, post, hf, hfl, ht, htl, hd, hdl, ho, hs, hn, _, hrep, hlen, hdr => by
    obtain ⟨n, rfl⟩ : ∃ m, n = m + 1 := ⟨n - 1, by omega⟩
    have e0 : textI true (j + 1) ks (x :: r) = 44 :: (quoL (ks.getD (j + 1) ByteArray.empty).data.toList ++ 58 :: (textV x ++ textI true (j + 1 + 1) ks r)) := by rw [textI_more _ _ _ _ _ (by omega)]; simp
    rw [e0] at hdr hn ⊢
    simp only [List.cons_append, List.append_assoc] at hdr
    simp only [List.length_cons, List.length_append] at hn hlen ⊢
    simp only [formL, Bool.and_eq_true] at hfl
    simp only [twiceL, Bool.or_eq_false_iff] at htl
    simp only [deepL, Bool.or_eq_false_iff] at hdl
    simp only [sizeL] at hs ⊢
    have hjl : j < ks.length := by omega
    rw [rep_step ks j hjl, Bool.or_eq_false_iff] at hrep
    have htk : ks.take (j + 1) = ks.take j ++ [ks.getD j ByteArray.empty] := by
      rw [List.take_succ_eq_append_getElem hjl, List.getD_eq_getElem?_getD, List.getElem?_eq_getElem hjl]
      rfl
    have hq : ∀ kx : ByteArray, kx = ks.getD j ByteArray.empty → kx = ks.getD j ByteArray.empty := fun _ h => h
    obtain ⟨kx, hkx⟩ : ∃ kx, kx = ks.getD j ByteArray.empty := ⟨_, rfl⟩
    rw [← hkx] at hrep hdr htk ⊢
    have h34 : s.drop i = 34 :: (quoM kx.data.toList ++ 34 :: 58 :: (textV v ++ 44 :: (quoL (ks.getD (j + 1) ByteArray.empty).data.toList ++ 58 :: (textV x ++ (textI true (j + 1 + 1) ks r ++ 125 :: post))))) := by rw [hdr]; simp [quoL]
    have hqlen : (quoL kx.data.toList).length = (quoM kx.data.toList).length + 2 := by simp [quoL]
    have hle : (quoL kx.data.toList).length ≤ s.length := by
      have := congrArg List.length hdr
      rw [List.length_drop, List.length_append] at this
      omega
    have hpos := quoB_pos kx.data.toList
    have hq := quot_read (kx.data.toList.length + 1) kx.data.toList (by omega) (s.length + 1) s (i + 1) [] _ (by omega) (drop_one h34)
    have h1 := drop_more hdr
    rw [hqlen] at h1
    have h2 := drop_one h1
    have h3 := drop_more h2
    have h4 := drop_one h3
    rw [fieldsP, skip_none h34 (by decide), byL_drop h34]
    simp only [show ¬ ((34 : UInt8) ≠ 34) by decide, if_false]
    rw [hq]
    simp only [List.nil_append]
    have ei : i + 1 + (quoM kx.data.toList).length + 1 = i + ((quoM kx.data.toList).length + 2) := by omega
    rw [hasK_eq, hrep.1, ei, skip_none h1 (by decide), byL_drop h1]
    simp only [show ¬ ((58 : UInt8) ≠ 58) by decide, if_false, Bool.false_eq_true]
    rw [hv n s _ _ vals opn _ hf ht hd ho (by omega) (by omega) (skip_text hf h2) h2 (stop44 _)]
    simp only [skip_none h3 (by decide), byL_drop h3, if_true]
    rw [← htk, fields_read r x (val_read x) n s _ (vals + sizeV v) opn (j + 1) ks (acc ++ [v]) post hfl.1 hfl.2 htl.1 htl.2 hdl.1 hdl.2 ho (by omega) (by omega) (by omega) hrep.2 (by omega) h4]
    simp only [List.append_assoc, List.singleton_append]
    rw [show j + 1 + (r.length + 1) = j + (r.length + 1 + 1) by omega]
    congr 4 <;> omega
end
/-! ### The whole -/
theorem valid_of {s : ByteArray} (h : validB s = true) : lenF s.data.toList = s.data.toList.length := valid_all h
mutual
theorem textV_valid : ∀ v : JV, formV v = true → utfV v = true → lenF (textV v) = (textV v).length
  | .mk k t ks l, h1, h2 => by
    simp only [formV, utfV, Bool.and_eq_true] at h1 h2
    have he := h2.1
    unfold encB at he
    simp only [Bool.and_eq_true, List.all_eq_true] at he
    have hI := fun o => textI_valid o 0 ks l (fun x hx => valid_of (he.1 x hx)) h1.2 h2.2
    have hT := valid_of he.2
    rcases formB_cases h1.1 with ⟨hk | hk | hk, _⟩ | ⟨hk, hn, _⟩ | ⟨hk, _⟩ | ⟨hk, _⟩ | ⟨hk, _⟩
    · subst hk; exact ascii_valid _ (by simp [textV])
    · subst hk; exact ascii_valid _ (by simp [textV])
    · subst hk; exact ascii_valid _ (by simp [textV])
    · subst hk; exact ascii_valid _ (by simpa [textV] using num_ascii hn)
    · subst hk; simpa [textV] using quoL_valid hT
    · subst hk
      have := valid_app (valid_one 91 (by decide)) (valid_app (hI false) (valid_one 93 (by decide)))
      simpa [textV] using this
    · subst hk
      have := valid_app (valid_one 123 (by decide)) (valid_app (hI true) (valid_one 125 (by decide)))
      simpa [textV] using this
theorem textI_valid (o : Bool) (i : Nat) (ks : List ByteArray) : ∀ l : List JV, (∀ x ∈ ks, lenF x.data.toList = x.data.toList.length) → formL l = true → utfL l = true → lenF (textI o i ks l) = (textI o i ks l).length
  | [], _, _, _ => rfl
  | v :: t, hk, h1, h2 => by
    simp only [formL, utfL, Bool.and_eq_true] at h1 h2
    have hv := textV_valid v h1.1 h2.1
    have ht := textI_valid o (i + 1) ks t hk h1.2 h2.2
    simp only [textI]
    refine valid_app (valid_app (valid_app ?_ ?_) hv) ht
    · split
      · exact valid_one 44 (by decide)
      · rfl
    · split
      · refine valid_app (quoL_valid ?_) (valid_one 58 (by decide))
        rw [List.getD_eq_getElem?_getD]
        cases hx : ks[i]? with
        | none => rfl
        | some x => exact hk x (List.mem_of_getElem? hx)
      · rfl
end
theorem white_span : ∀ (a b : List UInt8), (∀ x ∈ a, pWhite (x.toNat : Nat) = true) → (b = [] ∨ ∃ c t, b = c :: t ∧ pWhite (c.toNat : Nat) = false) → spanL pWhite (a ++ b) = a.length := by
  intro a b ha hb
  rw [spanL_app _ _ _ ha]
  rcases hb with rfl | ⟨c, t, rfl, hc⟩
  · rfl
  · rw [spanL_stop _ _ _ hc, Nat.add_zero]
theorem white_low : ∀ n : Nat, n < 256 → pWhite (n : Nat) = true → n < 128 := by decide +kernel
theorem back_read {v : JV} {a b : List UInt8} (hc : checkE v = 0) (ha : ∀ x ∈ a, pWhite (x.toNat : Nat) = true) (hb : ∀ x ∈ b, pWhite (x.toNat : Nat) = true) (hs : (a ++ (textV v ++ b)).length ≤ 65536) : readP (a ++ (textV v ++ b)) = .ok v := by
  obtain ⟨h1, h2, h3, h4, h5, h6⟩ := checkE_ok hc
  have hvalid : lenF (a ++ (textV v ++ b)) = (a ++ (textV v ++ b)).length := valid_app (ascii_valid a fun x hx => white_low _ x.toNat_lt (ha x hx)) (valid_app (textV_valid v h1 h2) (ascii_valid b fun x hx => white_low _ x.toNat_lt (hb x hx)))
  obtain ⟨c, t, ec, hc2, _⟩ := text_head h1
  have hsk : skipL (a ++ (textV v ++ b)) 0 = a.length := by
    unfold skipL
    rw [List.drop_zero, white_span a _ ha (.inr ⟨c, t ++ b, by rw [ec]; rfl, hc2⟩), Nat.zero_add]
  have hd : (a ++ (textV v ++ b)).drop a.length = textV v ++ b := by
    rw [List.drop_append_of_le_length (Nat.le_refl _), List.drop_length, List.nil_append]
  have hv := val_read v (2 * (a ++ (textV v ++ b)).length + 2) (a ++ (textV v ++ b)) 0 a.length 0 0 b h1 h3 h4 (by omega) (by omega) (by simp only [List.length_append]; omega) hsk hd (stop_white b hb)
  have hd2 : (a ++ (textV v ++ b)).drop (a.length + (textV v).length) = b := drop_more hd
  have hsk2 : skipL (a ++ (textV v ++ b)) (a.length + (textV v).length) = (a ++ (textV v ++ b)).length := by
    unfold skipL
    have := white_span b [] hb (.inl rfl)
    rw [List.append_nil] at this
    rw [hd2, this]
    simp only [List.length_append]
    omega
  unfold readP
  rw [if_neg (by omega), if_neg (by omega), hv]
  simp only
  rw [hsk2, if_neg (by omega)]
end Go.Proofs.YtakdhfjlhkejdaaGreatDoor

/-
  MATHEMATICS: a value that is read may be printed, but for its length.
-/
set_option linter.unusedVariables false
namespace Go.Proofs.YtakdhfjlhkejdaaGreatDoor
open Go.RowKit
/-! ### Places between code points -/
theorem valid_tail {b : UInt8} {r : List UInt8} (h : allB (b :: r)) (hb : b.toNat < 128) : allB r := by
  obtain ⟨c, t, hv, e, ht, _⟩ := valid_cons h (by simp)
  by_cases hc : c < 128
  · rw [enc1 c hc] at e
    simp only [List.singleton_append, List.cons.injEq] at e
    rw [e.2]
    exact ht
  · exfalso
    have hh := enc_high c hv (by omega)
    have hp := enc_pos c hv
    rcases hx : encL (c : Int) with _ | ⟨a, u⟩
    · rw [hx] at hp; simp only [List.length_nil] at hp; omega
    · rw [hx] at e hh
      simp only [List.cons_append, List.cons.injEq] at e
      have := hh a (List.mem_cons_self ..)
      rw [← e.1] at this
      omega
theorem split_ascii : ∀ (n : Nat) (A r : List UInt8) (b : UInt8), A.length < n → b.toNat < 128 → allB (A ++ b :: r) → allB A ∧ allB (b :: r)
  | 0, A, r, b, h, _, _ => absurd h (Nat.not_lt_zero _)
  | n + 1, A, r, b, hn, hb, h => by
    rcases A with _ | ⟨a, A'⟩
    · exact ⟨rfl, h⟩
    · obtain ⟨c, t, hv, e, ht, _⟩ := valid_cons h (by simp)
      generalize hA : a :: A' = A at *
      have hpos : 0 < A.length := by rw [← hA]; simp
      have hp := enc_pos c hv
      have hve := valid_enc c hv
      by_cases hm : (encL (c : Int)).length ≤ A.length
      · have e1 : A.take (encL (c : Int)).length = encL (c : Int) := by
          have := congrArg (List.take (encL (c : Int)).length) e
          rw [List.take_append_of_le_length hm, List.take_append_of_le_length (Nat.le_refl _), List.take_length] at this
          exact this
        have e2 : A.drop (encL (c : Int)).length ++ b :: r = t := by
          have := congrArg (List.drop (encL (c : Int)).length) e
          rw [List.drop_append_of_le_length hm, List.drop_append_of_le_length (Nat.le_refl _), List.drop_length, List.nil_append] at this
          exact this
        have hl : (A.drop (encL (c : Int)).length).length < n := by rw [List.length_drop]; omega
        obtain ⟨h1, h2⟩ := split_ascii n (A.drop (encL (c : Int)).length) r b hl hb (by rw [e2]; exact ht)
        refine ⟨?_, h2⟩
        have := valid_app hve h1
        rw [← e1] at this
        simp only [e1] at this
        have e3 : encL (c : Int) ++ A.drop (encL (c : Int)).length = A := by
          conv => rhs; rw [← List.take_append_drop (encL (c : Int)).length A, e1]
        rw [e3] at this
        exact this
      · exfalso
        have hge : A.length < (encL (c : Int)).length := by omega
        have hbm : b ∈ encL (c : Int) := by
          have h1 : (A ++ b :: r)[A.length]? = some b := by rw [List.getElem?_append_right (Nat.le_refl _), Nat.sub_self]; rfl
          rw [e, List.getElem?_append_left hge] at h1
          exact List.mem_of_getElem? h1
        by_cases hc : c < 128
        · rw [enc1 c hc] at hge
          simp only [List.length_singleton] at hge
          omega
        · have := enc_high c hv (by omega) b hbm
          omega
/-- a place between two code points -/
def Bd (s : List UInt8) (i : Nat) : Prop := allB (s.drop i)
theorem bd_ascii : ∀ (A r : List UInt8), (∀ x ∈ A, x.toNat < 128) → allB (A ++ r) → allB r
  | [], r, _, h => h
  | a :: A, r, ha, h => bd_ascii A r (fun x hx => ha x (List.mem_cons_of_mem _ hx)) (valid_tail (r := A ++ r) h (ha a (List.mem_cons_self ..)))
theorem byL_split {s : List UInt8} {i : Nat} {c : UInt8} (h : byL s i = some c) : s.drop i = c :: s.drop (i + 1) := by
  unfold byL at h
  cases hd : s.drop i with
  | nil => rw [hd] at h; cases h
  | cons a t =>
    rw [hd] at h
    simp only [List.head?_cons, Option.some.injEq] at h
    subst h
    rw [drop_one hd]
theorem Bd.step {s : List UInt8} {i : Nat} {c : UInt8} (h : Bd s i) (hb : byL s i = some c) (hc : c.toNat < 128) : Bd s (i + 1) := by
  unfold Bd at *
  rw [byL_split hb] at h
  exact valid_tail h hc
theorem Bd.span {s : List UInt8} {i : Nat} (p : Int → Bool) (hp : ∀ n : Nat, n < 256 → p (n : Nat) = true → n < 128) (h : Bd s i) : Bd s (i + spanL p (s.drop i)) := by
  unfold Bd at *
  rw [← List.drop_drop]
  refine bd_ascii ((s.drop i).take (spanL p (s.drop i))) _ (fun x hx => hp _ x.toNat_lt (take_span p _ x hx)) ?_
  rw [List.take_append_drop]
  exact h
theorem Bd.skip {s : List UInt8} {i : Nat} (h : Bd s i) : Bd s (skipL s i) := h.span pWhite white_low
/-! ### Escape sequences -/
theorem dig_low : ∀ n : Nat, n < 256 → digV (n : Nat) ≠ none → n < 128 := by decide +kernel
theorem hex_low : ∀ (l : List UInt8) (acc r : Int), hexF acc l = some r → ∀ x ∈ l, x.toNat < 128
  | [], _, _, _, x, hx => by cases hx
  | b :: t, acc, r, h, x, hx => by
    rw [hexF] at h
    cases hd : digV b.toNat with
    | none => rw [hd] at h; cases h
    | some d =>
      rw [hd] at h
      rcases List.mem_cons.1 hx with rfl | hx
      · exact dig_low _ x.toNat_lt (by rw [hd]; simp)
      · exact hex_low t _ r h x hx
theorem unit_low {l : List UInt8} {r : Int} (h : unitL l = some r) : ∃ t, l = 92 :: 117 :: t ∧ 4 ≤ t.length ∧ ∀ x ∈ t.take 4, x.toNat < 128 := by
  unfold unitL at h
  split at h
  · rename_i t
    refine ⟨t, rfl, ?_⟩
    unfold hexO at h
    split at h
    · cases h
    · rename_i hs
      refine ⟨by have : ¬ t.toArray.size < 4 := hs; simp at this; exact this, ?_⟩
      exact hex_low _ _ _ h
  · cases h
theorem unit_bd {l : List UInt8} {r : Int} (h : unitL l = some r) (hl : allB l) : allB (l.drop 6) := by
  obtain ⟨t, rfl, h4, hx⟩ := unit_low h
  have e : (92 :: 117 :: t : List UInt8) = (92 :: 117 :: t.take 4) ++ t.drop 4 := by simp
  have e2 : (92 :: 117 :: t : List UInt8).drop 6 = t.drop 4 := rfl
  rw [e2]
  rw [e] at hl
  refine bd_ascii _ _ ?_ hl
  intro x hm
  rcases List.mem_cons.1 hm with rfl | hm
  · decide
  · rcases List.mem_cons.1 hm with rfl | hm
    · decide
    · exact hx x hm
theorem bytes_valid (r : Int) : allB (bytesS r).data.toList := by
  unfold bytesS
  split
  · rename_i h
    unfold pointB at h
    have hn : ((r.toNat : Nat) : Int) = r := by
      have h2 := h
      simp only [validRune, decide_eq_true_eq] at h2
      omega
    have := valid_enc r.toNat (by rw [hn]; exact h)
    rw [hn] at this
    exact this
  · rfl
theorem esc_good {l : List UInt8} {b : List UInt8} {k : Nat} (h : escL l = some (b, k)) (h0 : l.head? = some 92) (hl : allB l) : allB b ∧ allB (l.drop k) := by
  unfold escL at h
  split at h
  · rename_i x c t
    simp only [List.head?_cons, Option.some.injEq] at h0
    subst h0
    have h2 : c.toNat < 128 → allB ((92 :: c :: t : List UInt8).drop 2) := fun hc => valid_tail (valid_tail hl (by decide)) hc
    have one : ∀ d : UInt8, d.toNat < 128 → c.toNat < 128 → some ([d], 2) = some (b, k) → allB b ∧ allB ((92 :: c :: t : List UInt8).drop k) := by
      intro d hd hc e
      injection e with e
      injection e with e1 e2
      rw [← e1, ← e2]
      exact ⟨valid_one d hd, h2 hc⟩
    split at h
    · rename_i hc; subst hc; exact one _ (by decide) (by decide) h
    · split at h
      · rename_i hc; subst hc; exact one _ (by decide) (by decide) h
      · split at h
        · rename_i hc; subst hc; exact one _ (by decide) (by decide) h
        · split at h
          · rename_i hc; subst hc; exact one _ (by decide) (by decide) h
          · split at h
            · rename_i hc; subst hc; exact one _ (by decide) (by decide) h
            · split at h
              · rename_i hc; subst hc; exact one _ (by decide) (by decide) h
              · split at h
                · rename_i hc; subst hc; exact one _ (by decide) (by decide) h
                · split at h
                  · rename_i hc; subst hc; exact one _ (by decide) (by decide) h
                  · split at h
                    · cases h
                    · rename_i r hr
                      have h6 := unit_bd hr hl
                      split at h
                      · injection h with h
                        injection h with e1 e2
                        rw [← e1, ← e2]
                        exact ⟨bytes_valid _, h6⟩
                      · split at h
                        · rename_i hp
                          injection h with h
                          injection h with e1 e2
                          rw [← e1, ← e2]
                          refine ⟨bytes_valid _, ?_⟩
                          cases hu : unitL ((92 :: c :: t : List UInt8).drop 6) with
                          | none =>
                            rw [hu] at hp
                            unfold pairB at hp
                            rw [show lowB (Option.getD none 0) = false from rfl, Bool.and_false] at hp
                            cases hp
                          | some y =>
                            have := unit_bd hu h6
                            rw [List.drop_drop] at this
                            exact this
                        · cases h
  · cases h
theorem quotP_good : ∀ (n : Nat) (s : List UInt8) (i : Nat) (acc t : List UInt8) (j : Nat), quotP n s i acc = .ok (t, j) → Bd s i → allB acc → allB t ∧ Bd s j := by
  intro n
  induction n with
  | zero => intro s i acc t j h; cases h
  | succ n ih =>
    intro s i acc t j h hb ha
    unfold quotP at h
    cases hc : byL s (i + spanL pPlain (s.drop i)) with
    | none => rw [hc] at h; cases h
    | some c =>
      rw [hc] at h
      simp only at h
      have hsp : ∀ hc2 : c.toNat < 128, allB ((s.drop i).take (spanL pPlain (s.drop i))) ∧ Bd s (i + spanL pPlain (s.drop i)) := by
        intro hc2
        have e := byL_split hc
        have e2 : s.drop i = (s.drop i).take (spanL pPlain (s.drop i)) ++ c :: s.drop (i + spanL pPlain (s.drop i) + 1) := by
          rw [← e, ← List.drop_drop, List.take_append_drop]
        unfold Bd at hb ⊢
        rw [e2] at hb
        obtain ⟨h1, h2⟩ := split_ascii _ _ _ _ (Nat.lt_succ_self _) hc2 hb
        rw [e]
        exact ⟨h1, h2⟩
      split at h
      · rename_i h34
        injection h with h
        injection h with h1 h2
        obtain ⟨p1, p2⟩ := hsp (by rw [h34]; decide)
        rw [← h1, ← h2]
        exact ⟨valid_app ha p1, p2.step hc (by rw [h34]; decide)⟩
      · split at h
        · rename_i h92
          split at h
          · cases h
          · rename_i b k he
            obtain ⟨p1, p2⟩ := hsp (by rw [h92]; decide)
            obtain ⟨q1, q2⟩ := esc_good he (by rw [byL_split hc, h92]; rfl) p2
            rw [List.drop_drop] at q2
            exact ih _ _ _ _ _ h q2 (valid_app (valid_app ha p1) q1)
        · cases h
/-! ### Values -/
theorem repL_more : ∀ (l acc : List ByteArray) (k : ByteArray), repL acc (l ++ [k]) = (repL acc l || hasK (acc ++ l) k)
  | [], acc, k => by simp [repL]
  | x :: t, acc, k => by
    rw [List.cons_append, repL, repL, repL_more t, Bool.or_assoc]
    simp
theorem word_kind {t : List UInt8} {k : Nat} (h : wordK t = some k) : k = 1 ∨ k = 2 ∨ k = 3 := by
  unfold wordK at h
  split at h
  · injection h with h; exact .inl h.symm
  · split at h
    · injection h with h; exact .inr (.inl h.symm)
    · split at h
      · injection h with h; exact .inr (.inr h.symm)
      · cases h
theorem valid_mk {t : List UInt8} (h : allB t) : validB ⟨t.toArray⟩ = true := by
  unfold validB
  exact beq_iff_eq.2 h
structure GoodR (o v v' : Nat) (x : JV) : Prop where
  form : formV x = true
  utf : utfV x = true
  once : twiceV x = false
  flat : deepV o x = false
  size : v' = v + sizeV x
  most : v' ≤ 4096
structure GoodRL (o v v' : Nat) (l : List JV) : Prop where
  form : formL l = true
  utf : utfL l = true
  once : twiceL l = false
  flat : deepL o l = false
  size : v' = v + sizeL l
  most : v' ≤ 4096
theorem GoodRL.one {o v v' : Nat} {x : JV} (h : GoodR o v v' x) : GoodRL o v v' [x] :=
  ⟨by simp [formL, h.form], by simp [utfL, h.utf], by simp [twiceL, h.once], by simp [deepL, h.flat], by simp [sizeL, h.size], h.most⟩
theorem GoodRL.cons {o v v1 v' : Nat} {x : JV} {l : List JV} (h : GoodR o v v1 x) (hl : GoodRL o v1 v' l) : GoodRL o v v' (x :: l) :=
  ⟨by simp [formL, h.form, hl.form], by simp [utfL, h.utf, hl.utf], by simp [twiceL, h.once, hl.once], by simp [deepL, h.flat, hl.flat], by have := h.size; have := hl.size; simp only [sizeL]; omega, hl.most⟩
theorem good_one {o v : Nat} {k : Nat} {t : ByteArray} (hf : formB (k : Int) t 0 0 = true) (hu : validB t = true) (hl : listB (k : Int) = false) (hv : v < 4096) : GoodR o v (v + 1) (.mk k t [] []) :=
  ⟨by simp [formV, formL, hf], by simp [utfV, utfL, encB, hu], by simp [twiceV, twiceL, repB, repL], by simp [deepV, deepL, hl], by simp [sizeV, sizeL], by omega⟩
theorem encB_noText (ks : List ByteArray) (h : ∀ x ∈ ks, validB x = true) : encB noText ks = true := by
  unfold encB
  rw [List.all_eq_true.2 h]
  rfl
theorem noText_list : noText.toList = [] := by rw [ByteArray.toList_eq]; rfl
theorem form_word {k : Nat} (h : k = 1 ∨ k = 2 ∨ k = 3) : formB (k : Int) noText 0 0 = true := by
  rcases h with rfl | rfl | rfl <;> (unfold formB; rw [noText_list]; rfl)
theorem form_arr (n : Nat) : formB ((6 : Nat) : Int) noText 0 n = true := by
  unfold formB
  rw [noText_list]
  rfl
theorem form_obj (n : Nat) : formB ((7 : Nat) : Int) noText n n = true := by
  unfold formB
  rw [noText_list]
  simp
theorem good_arr {o v v' : Nat} {l : List JV} (ho : o < 48) (h : GoodRL (o + 1) (v + 1) v' l) : GoodR o v v' (.mk 6 noText [] l) :=
  ⟨by simp only [formV, h.form, List.length_nil, form_arr]; rfl, by simp only [utfV, h.utf, encB_noText [] (fun x hx => by cases hx)]; rfl, by simp [twiceV, h.once, repB, repL], by simp [deepV, h.flat]; omega, by have := h.size; simp only [sizeV]; omega, h.most⟩
theorem good_obj {o v v' : Nat} {ks : List ByteArray} {l : List JV} (ho : o < 48) (h : GoodRL (o + 1) (v + 1) v' l) (hk : ks.length = l.length) (hu : ∀ x ∈ ks, validB x = true) (hr : repB ks = false) : GoodR o v v' (.mk 7 noText ks l) :=
  ⟨by simp only [formV, h.form, hk, form_obj]; rfl, by simp only [utfV, h.utf, encB_noText ks hu]; rfl, by simp [twiceV, h.once, hr], by simp [deepV, h.flat]; omega, by have := h.size; simp only [sizeV]; omega, h.most⟩
theorem pDigit_low : ∀ n : Nat, n < 256 → pDigit (n : Nat) = true → n < 128 := by decide +kernel
theorem pLetter_low : ∀ n : Nat, n < 256 → pLetter (n : Nat) = true → n < 128 := by decide +kernel
theorem valP_good : ∀ (n : Nat), (∀ s i v o x j v', valP n s i v o = .ok (x, j, v') → Bd s i → v ≤ 4096 → o ≤ 48 → GoodR o v v' x ∧ Bd s j) ∧
    (∀ s i v o acc l j v', itemsP n s i v o acc = .ok (l, j, v') → Bd s i → v ≤ 4096 → o ≤ 48 → ∃ l2, l = acc ++ l2 ∧ GoodRL o v v' l2 ∧ Bd s j) ∧
    (∀ s i v o ks acc ks' l j v', fieldsP n s i v o ks acc = .ok (ks', l, j, v') → Bd s i → v ≤ 4096 → o ≤ 48 → (∀ x ∈ ks, validB x = true) → repB ks = false → ∃ l2, l = acc ++ l2 ∧ ks'.length = ks.length + l2.length ∧ GoodRL o v v' l2 ∧ Bd s j ∧ (∀ x ∈ ks', validB x = true) ∧ repB ks' = false) := by
  intro n
  induction n with
  | zero => exact ⟨fun s i v o x j v' h => by (unfold valP at h; cases h), fun s i v o acc l j v' h => by (unfold itemsP at h; cases h), fun s i v o ks acc ks' l j v' h => by (unfold fieldsP at h; cases h)⟩
  | succ n ih =>
    obtain ⟨ihv, ihi, ihf⟩ := ih
    refine ⟨fun s i v o x j v' h hbd hv4 ho4 => ?_, fun s i v o acc l j v' h hbd hv4 ho4 => ?_, fun s i v o ks acc ks' l j v' h hbd hv4 ho4 hks hrep => ?_⟩
    · have hsk := hbd.skip
      unfold valP at h
      cases hb : byL s (skipL s i) with
      | none => rw [hb] at h; cases h
      | some c =>
        rw [hb] at h
        simp only at h
        split at h
        · cases h
        · rename_i hv
          have hlt : v < 4096 := by omega
          split at h
          · rename_i hc
            split at h
            · rename_i hn
              injection h with h
              injection h with h1 h2
              injection h2 with h2 h3
              rw [← h1, ← h2, ← h3]
              refine ⟨good_one ?_ (valid_mk (ascii_valid _ (num_ascii hn))) rfl hlt, hsk.span pNum num_low⟩
              unfold formB
              rw [if_neg (by decide), if_pos (by decide)]
              have : numS ⟨((s.drop (skipL s i)).take (spanL pNum (s.drop (skipL s i)))).toArray⟩ = true := hn
              rw [this]
              rfl
            · cases h
          · split at h
            · rename_i hc
              split at h
              · rename_i k hk
                injection h with h
                injection h with h1 h2
                injection h2 with h2 h3
                rw [← h1, ← h2, ← h3]
                refine ⟨?_, hsk.span pLetter pLetter_low⟩
                have hw := form_word (word_kind hk)
                rcases word_kind hk with rfl | rfl | rfl <;> exact good_one hw rfl rfl hlt
              · cases h
            · split at h
              · rename_i h91
                split at h
                · cases h
                · rename_i ho
                  have hb1 := (hsk.step hb (by rw [h91]; decide)).skip
                  split at h
                  · cases h
                  · rename_i d hd
                    split at h
                    · rename_i h93
                      injection h with h
                      injection h with h1 h2
                      injection h2 with h2 h3
                      rw [← h1, ← h2, ← h3]
                      exact ⟨good_arr (by omega) ⟨rfl, rfl, rfl, rfl, rfl, by omega⟩, hb1.step hd (by rw [h93]; decide)⟩
                    · split at h
                      · cases h
                      · rename_i l' j' vals' he
                        obtain ⟨l2, e2, g, b⟩ := ihi _ _ _ _ _ _ _ _ he hb1 (by omega) (by omega)
                        injection h with h
                        injection h with h1 h2
                        injection h2 with h2 h3
                        rw [← h1, ← h2, ← h3, e2]
                        exact ⟨good_arr (by omega) g, b⟩
              · split at h
                · rename_i h123
                  split at h
                  · cases h
                  · rename_i ho
                    have hb1 := (hsk.step hb (by rw [h123]; decide)).skip
                    split at h
                    · cases h
                    · rename_i d hd
                      split at h
                      · rename_i h125
                        injection h with h
                        injection h with h1 h2
                        injection h2 with h2 h3
                        rw [← h1, ← h2, ← h3]
                        exact ⟨good_obj (by omega) ⟨rfl, rfl, rfl, rfl, rfl, by omega⟩ rfl (fun x hx => by cases hx) rfl, hb1.step hd (by rw [h125]; decide)⟩
                      · split at h
                        · cases h
                        · rename_i ks2 l' j' vals' he
                          obtain ⟨l2, e2, hkl, g, b, hu, hr⟩ := ihf _ _ _ _ _ _ _ _ _ _ he hb1 (by omega) (by omega) (fun x hx => by cases hx) rfl
                          injection h with h
                          injection h with h1 h2
                          injection h2 with h2 h3
                          rw [← h1, ← h2, ← h3, e2]
                          exact ⟨good_obj (by omega) g (by simpa using hkl) hu hr, b⟩
                · split at h
                  · rename_i h34
                    have hb1 := hsk.step hb (by rw [h34]; decide)
                    split at h
                    · cases h
                    · rename_i t j' he
                      obtain ⟨q1, q2⟩ := quotP_good _ _ _ _ _ _ he hb1 rfl
                      injection h with h
                      injection h with h1 h2
                      injection h2 with h2 h3
                      rw [← h1, ← h2, ← h3]
                      exact ⟨good_one rfl (valid_mk q1) rfl hlt, q2⟩
                  · cases h
    · unfold itemsP at h
      split at h
      · cases h
      · rename_i x i1 vals1 he
        obtain ⟨g, b⟩ := ihv _ _ _ _ _ _ _ he hbd hv4 ho4
        have hb1 := b.skip
        split at h
        · cases h
        · rename_i c hc
          split at h
          · rename_i h44
            obtain ⟨l2, e2, g2, b2⟩ := ihi _ _ _ _ _ _ _ _ h (hb1.step hc (by rw [h44]; decide)) g.most ho4
            exact ⟨x :: l2, by rw [e2]; simp, .cons g g2, b2⟩
          · split at h
            · rename_i h93
              injection h with h
              injection h with h1 h2
              injection h2 with h2 h3
              rw [← h1, ← h2, ← h3]
              exact ⟨[x], rfl, .one g, hb1.step hc (by rw [h93]; decide)⟩
            · cases h
    · have hsk := hbd.skip
      unfold fieldsP at h
      split at h
      · cases h
      · rename_i c hc
        split at h
        · cases h
        · rename_i h34
          have hb1 := hsk.step hc (by rw [Decidable.not_not.1 h34]; decide)
          split at h
          · cases h
          · rename_i t i1 he
            obtain ⟨q1, q2⟩ := quotP_good _ _ _ _ _ _ he hb1 rfl
            split at h
            · cases h
            · rename_i hk
              split at h
              · cases h
              · rename_i d hd
                split at h
                · cases h
                · rename_i h58
                  have hb2 := q2.skip.step hd (by rw [Decidable.not_not.1 h58]; decide)
                  split at h
                  · cases h
                  · rename_i x i2 vals2 hx
                    obtain ⟨g, b⟩ := ihv _ _ _ _ _ _ _ hx hb2 hv4 ho4
                    have hks' : ∀ y ∈ ks ++ [⟨t.toArray⟩], validB y = true := by
                      intro y hy
                      rcases List.mem_append.1 hy with hy | hy
                      · exact hks y hy
                      · rw [List.mem_singleton] at hy
                        rw [hy]
                        exact valid_mk q1
                    have hrep' : repB (ks ++ [⟨t.toArray⟩]) = false := by
                      unfold repB at hrep ⊢
                      rw [repL_more, hrep, List.nil_append]
                      simpa using hk
                    split at h
                    · cases h
                    · rename_i e he2
                      split at h
                      · rename_i h44
                        obtain ⟨l2, e2, hkl, g2, b2, hu, hr⟩ := ihf _ _ _ _ _ _ _ _ _ _ h (b.skip.step he2 (by rw [h44]; decide)) g.most ho4 hks' hrep'
                        refine ⟨x :: l2, by rw [e2]; simp, ?_, .cons g g2, b2, hu, hr⟩
                        rw [hkl]
                        simp only [List.length_append, List.length_cons, List.length_nil]
                        omega
                      · split at h
                        · rename_i h125
                          injection h with h
                          injection h with h1 h2
                          injection h2 with h2 h3
                          injection h3 with h3 h4
                          rw [← h1, ← h2, ← h3, ← h4]
                          exact ⟨[x], rfl, by simp, .one g, b.skip.step he2 (by rw [h125]; decide), hks', hrep'⟩
                        · cases h
theorem read_size {s : List UInt8} {v : JV} (h : readP s = .ok v) : formV v = true ∧ sizeV v ≤ 4096 := by
  unfold readP at h
  split at h
  · cases h
  · split at h
    · cases h
    · rename_i hv
      split at h
      · cases h
      · rename_i x i vs he
        split at h
        · cases h
        · injection h with h
          subst h
          have hb : Bd s 0 := by
            unfold Bd
            rw [List.drop_zero]
            exact Classical.not_not.1 hv
          obtain ⟨g, _⟩ := (valP_good _).1 _ _ _ _ _ _ _ he hb (by omega) (by omega)
          have hs := g.size
          have hm := g.most
          exact ⟨g.form, by omega⟩
theorem read_good {s : List UInt8} {v : JV} (h : readP s = .ok v) : checkE v = 0 ∨ checkE v = 4 := by
  unfold readP at h
  split at h
  · cases h
  · split at h
    · cases h
    · rename_i hv
      split at h
      · cases h
      · rename_i x i vs he
        split at h
        · cases h
        · injection h with h
          subst h
          have hb : Bd s 0 := by
            unfold Bd
            rw [List.drop_zero]
            exact Classical.not_not.1 hv
          obtain ⟨g, _⟩ := (valP_good _).1 _ _ _ _ _ _ _ he hb (by omega) (by omega)
          have hs := g.size
          have hm := g.most
          unfold checkE
          rw [if_neg (by rw [g.form]; decide), if_neg (by rw [g.utf]; decide), if_neg (by rw [g.once]; decide), if_neg (by rw [g.flat]; decide), if_neg (by omega)]
          split
          · exact .inr rfl
          · exact .inl rfl
/-! ### What is wrong is told, and texts are no longer than what they are read from -/
theorem bytes_len (r : Int) : (bytesS r).data.toList.length ≤ 4 := by
  unfold bytesS
  split
  · rename_i h
    unfold pointB at h
    have hn : ((r.toNat : Nat) : Int) = r := by
      have h2 := h
      simp only [validRune, decide_eq_true_eq] at h2
      omega
    have := (enc_pos r.toNat (by rw [hn]; exact h)).2
    rw [hn] at this
    exact this
  · simp
theorem esc_pos2 {l : List UInt8} {b : List UInt8} {k : Nat} (h : escL l = some (b, k)) : 2 ≤ k ∧ b.length ≤ k := by
  unfold escL at h
  split at h
  · rename_i x c t
    have one : ∀ d : UInt8, some ([d], 2) = some (b, k) → 2 ≤ k ∧ b.length ≤ k := by
      intro d e
      injection e with e
      injection e with e1 e2
      rw [← e1, ← e2]
      exact ⟨Nat.le_refl _, by simp⟩
    split at h
    · exact one _ h
    · split at h
      · exact one _ h
      · split at h
        · exact one _ h
        · split at h
          · exact one _ h
          · split at h
            · exact one _ h
            · split at h
              · exact one _ h
              · split at h
                · exact one _ h
                · split at h
                  · exact one _ h
                  · split at h
                    · cases h
                    · split at h
                      · injection h with h
                        injection h with e1 e2
                        have := bytes_len (by assumption)
                        rw [← e1, ← e2]
                        exact ⟨by omega, Nat.le_trans (bytes_len _) (by omega)⟩
                      · split at h
                        · injection h with h
                          injection h with e1 e2
                          rw [← e1, ← e2]
                          exact ⟨by omega, Nat.le_trans (bytes_len _) (by omega)⟩
                        · cases h
  · cases h
theorem err_inj {a a' k k' : Nat} {α : Type} (h : (Except.error (a, k) : Except Fail α) = .error (a', k')) : k = k' := by
  injection h with h
  injection h
theorem quot_err : ∀ (n : Nat) (s : List UInt8) (i : Nat) (acc : List UInt8) (a k : Nat), quotP n s i acc = .error (a, k) → s.length - i + 1 ≤ n → k ≠ 0 := by
  intro n
  induction n with
  | zero => intro s i acc a k _ h; omega
  | succ n ih =>
    intro s i acc a k h hn
    unfold quotP at h
    cases hc : byL s (i + spanL pPlain (s.drop i)) with
    | none => rw [hc] at h; have := err_inj h; omega
    | some c =>
      have hl := byL_lt hc
      rw [hc] at h
      simp only at h
      split at h
      · cases h
      · split at h
        · split at h
          · have := err_inj h; omega
          · rename_i b kk he
            have := (esc_pos2 he).1
            exact ih _ _ _ _ _ h (by omega)
        · have := err_inj h; omega
theorem quot_len : ∀ (n : Nat) (s : List UInt8) (i : Nat) (acc t : List UInt8) (j : Nat), quotP n s i acc = .ok (t, j) → t.length + i ≤ acc.length + j := by
  intro n
  induction n with
  | zero => intro s i acc t j h; cases h
  | succ n ih =>
    intro s i acc t j h
    unfold quotP at h
    have htk := List.length_take_le (spanL pPlain (s.drop i)) (s.drop i)
    cases hc : byL s (i + spanL pPlain (s.drop i)) with
    | none => rw [hc] at h; cases h
    | some c =>
      rw [hc] at h
      simp only at h
      split at h
      · injection h with h
        injection h with h1 h2
        rw [← h1, ← h2, List.length_append]
        omega
      · split at h
        · split at h
          · cases h
          · rename_i b k he
            have h1 := (esc_pos2 he).2
            have h2 := ih _ _ _ _ _ h
            simp only [List.length_append] at h2
            omega
        · cases h
theorem valP_err : ∀ (n : Nat), (∀ s i v o a k, valP n s i v o = .error (a, k) → 2 * (s.length - i) + 1 ≤ n → k ≠ 0) ∧
    (∀ s i v o acc a k, itemsP n s i v o acc = .error (a, k) → 2 * (s.length - i) + 2 ≤ n → k ≠ 0) ∧
    (∀ s i v o ks acc a k, fieldsP n s i v o ks acc = .error (a, k) → 2 * (s.length - i) + 2 ≤ n → k ≠ 0) := by
  intro n
  induction n with
  | zero => exact ⟨fun s i v o a k _ h => by omega, fun s i v o acc a k _ h => by omega, fun s i v o ks acc a k _ h => by omega⟩
  | succ n ih =>
    obtain ⟨ihv, ihi, ihf⟩ := ih
    refine ⟨fun s i v o a k h hn => ?_, fun s i v o acc a k h hn => ?_, fun s i v o ks acc a k h hn => ?_⟩
    · have hsk := skipL_le s i
      unfold valP at h
      cases hb : byL s (skipL s i) with
      | none => rw [hb] at h; have := err_inj h; omega
      | some c =>
        have hl := byL_lt hb
        rw [hb] at h
        simp only at h
        split at h
        · have := err_inj h; omega
        · split at h
          · split at h
            · cases h
            · have := err_inj h; omega
          · split at h
            · split at h
              · cases h
              · have := err_inj h; omega
            · split at h
              · split at h
                · have := err_inj h; omega
                · split at h
                  · have := err_inj h; omega
                  · have hs2 := skipL_le s (skipL s i + 1)
                    split at h
                    · cases h
                    · split at h
                      · rename_i e he
                        obtain ⟨a', k'⟩ := e
                        have := err_inj h
                        subst this
                        exact ihi _ _ _ _ _ _ _ he (by omega)
                      · cases h
              · split at h
                · split at h
                  · have := err_inj h; omega
                  · split at h
                    · have := err_inj h; omega
                    · have hs2 := skipL_le s (skipL s i + 1)
                      split at h
                      · cases h
                      · split at h
                        · rename_i e he
                          obtain ⟨a', k'⟩ := e
                          have := err_inj h
                          subst this
                          exact ihf _ _ _ _ _ _ _ _ he (by omega)
                        · cases h
                · split at h
                  · split at h
                    · rename_i e he
                      obtain ⟨a', k'⟩ := e
                      have := err_inj h
                      subst this
                      exact quot_err _ _ _ _ _ _ he (by omega)
                    · cases h
                  · have := err_inj h; omega
    · unfold itemsP at h
      split at h
      · rename_i e he
        obtain ⟨a', k'⟩ := e
        have := err_inj h
        subst this
        exact ihv _ _ _ _ _ _ he (by omega)
      · rename_i x i1 vals1 he
        have hf := (valP_facts n).1 _ _ _ _ _ _ _ he
        have hsk := skipL_le s i1
        split at h
        · have := err_inj h; omega
        · rename_i c hc
          have hl := byL_lt hc
          split at h
          · exact ihi _ _ _ _ _ _ _ h (by omega)
          · split at h
            · cases h
            · have := err_inj h; omega
    · have hsk := skipL_le s i
      unfold fieldsP at h
      split at h
      · have := err_inj h; omega
      · rename_i c hc
        have hl := byL_lt hc
        split at h
        · have := err_inj h; omega
        · split at h
          · rename_i e he
            obtain ⟨a', k'⟩ := e
            have := err_inj h
            subst this
            exact quot_err _ _ _ _ _ _ he (by omega)
          · rename_i t i1 he
            have hq := quotP_facts _ _ _ _ _ _ he
            split at h
            · have := err_inj h; omega
            · split at h
              · have := err_inj h; omega
              · rename_i d hd
                have hl2 := byL_lt hd
                have hsk2 := skipL_le s i1
                split at h
                · have := err_inj h; omega
                · split at h
                  · rename_i e he2
                    obtain ⟨a', k'⟩ := e
                    have := err_inj h
                    subst this
                    exact ihv _ _ _ _ _ _ he2 (by omega)
                  · rename_i x i2 vals2 hx
                    have hf := (valP_facts n).1 _ _ _ _ _ _ _ hx
                    have hsk3 := skipL_le s i2
                    split at h
                    · have := err_inj h; omega
                    · rename_i e he2
                      have hl3 := byL_lt he2
                      split at h
                      · exact ihf _ _ _ _ _ _ _ _ h (by omega)
                      · split at h
                        · cases h
                        · have := err_inj h; omega
theorem read_err {s : List UInt8} {a k : Nat} (h : readP s = .error (a, k)) : k ≠ 0 := by
  unfold readP at h
  split at h
  · have := err_inj h; omega
  · split at h
    · have := err_inj h; omega
    · split at h
      · rename_i e he
        obtain ⟨a', k'⟩ := e
        have := err_inj h
        subst this
        exact (valP_err _).1 _ _ _ _ _ _ he (by omega)
      · split at h
        · have := err_inj h; omega
        · cases h
theorem sumK_snoc (ks : List ByteArray) (k : ByteArray) : sumK (ks ++ [k]) = sumK ks + k.size := by
  unfold sumK
  rw [List.foldl_append]
  rfl
theorem lettL_app : ∀ (l m : List JV), lettL (l ++ m) = lettL l + lettL m
  | [], m => by simp [lettL]
  | v :: t, m => by simp only [List.cons_append, lettL, lettL_app t m]; omega
theorem valP_lett : ∀ (n : Nat), (∀ s i v o x j v', valP n s i v o = .ok (x, j, v') → lettV x + i ≤ j) ∧
    (∀ s i v o acc l j v', itemsP n s i v o acc = .ok (l, j, v') → lettL l + i ≤ lettL acc + j) ∧
    (∀ s i v o ks acc ks' l j v', fieldsP n s i v o ks acc = .ok (ks', l, j, v') → sumK ks' + lettL l + i ≤ sumK ks + lettL acc + j) := by
  intro n
  induction n with
  | zero => exact ⟨fun s i v o x j v' h => by (unfold valP at h; cases h), fun s i v o acc l j v' h => by (unfold itemsP at h; cases h), fun s i v o ks acc ks' l j v' h => by (unfold fieldsP at h; cases h)⟩
  | succ n ih =>
    obtain ⟨ihv, ihi, ihf⟩ := ih
    have e0 : sumK [] = 0 := rfl
    have e1 : lettL [] = 0 := by simp [lettL]
    have en : noText.size = 0 := rfl
    refine ⟨fun s i v o x j v' h => ?_, fun s i v o acc l j v' h => ?_, fun s i v o ks acc ks' l j v' h => ?_⟩
    · have hsk := skipL_le s i
      unfold valP at h
      cases hb : byL s (skipL s i) with
      | none => rw [hb] at h; cases h
      | some c =>
        rw [hb] at h
        simp only at h
        split at h
        · cases h
        · split at h
          · split at h
            · injection h with h
              injection h with h1 h2
              injection h2 with h2 h3
              have htk := List.length_take_le (spanL pNum (s.drop (skipL s i))) (s.drop (skipL s i))
              have es : (⟨((s.drop (skipL s i)).take (spanL pNum (s.drop (skipL s i)))).toArray⟩ : ByteArray).size = ((s.drop (skipL s i)).take (spanL pNum (s.drop (skipL s i)))).length := by rw [Lib.size_eq]
              rw [← h1, ← h2]
              simp only [lettV, e0, e1, es]
              omega
            · cases h
          · split at h
            · split at h
              · injection h with h
                injection h with h1 h2
                injection h2 with h2 h3
                rw [← h1, ← h2]
                simp only [lettV, e0, e1, en]
                omega
              · cases h
            · split at h
              · split at h
                · cases h
                · split at h
                  · cases h
                  · have hs2 := skipL_le s (skipL s i + 1)
                    split at h
                    · injection h with h
                      injection h with h1 h2
                      injection h2 with h2 h3
                      rw [← h1, ← h2]
                      simp only [lettV, e0, e1, en]
                      omega
                    · split at h
                      · cases h
                      · rename_i l' j' vals' he
                        have := ihi _ _ _ _ _ _ _ _ he
                        injection h with h
                        injection h with h1 h2
                        injection h2 with h2 h3
                        rw [← h1, ← h2]
                        simp only [lettV, e0, en]
                        omega
              · split at h
                · split at h
                  · cases h
                  · split at h
                    · cases h
                    · have hs2 := skipL_le s (skipL s i + 1)
                      split at h
                      · injection h with h
                        injection h with h1 h2
                        injection h2 with h2 h3
                        rw [← h1, ← h2]
                        simp only [lettV, e0, e1, en]
                        omega
                      · split at h
                        · cases h
                        · rename_i ks2 l' j' vals' he
                          have := ihf _ _ _ _ _ _ _ _ _ _ he
                          injection h with h
                          injection h with h1 h2
                          injection h2 with h2 h3
                          rw [← h1, ← h2]
                          simp only [lettV, en]
                          omega
                · split at h
                  · split at h
                    · cases h
                    · rename_i t j' he
                      have := quot_len _ _ _ _ _ _ he
                      simp only [List.length_nil] at this
                      injection h with h
                      injection h with h1 h2
                      injection h2 with h2 h3
                      have es : (⟨t.toArray⟩ : ByteArray).size = t.length := by rw [Lib.size_eq]
                      rw [← h1, ← h2]
                      simp only [lettV, e0, e1, es]
                      omega
                  · cases h
    · unfold itemsP at h
      split at h
      · cases h
      · rename_i x i1 vals1 he
        have hx := ihv _ _ _ _ _ _ _ he
        have hsk := skipL_le s i1
        split at h
        · cases h
        · split at h
          · have := ihi _ _ _ _ _ _ _ _ h
            rw [lettL_app] at this
            simp only [lettL] at this
            omega
          · split at h
            · injection h with h
              injection h with h1 h2
              injection h2 with h2 h3
              rw [← h1, ← h2, lettL_app]
              simp only [lettL]
              omega
            · cases h
    · have hsk := skipL_le s i
      unfold fieldsP at h
      split at h
      · cases h
      · split at h
        · cases h
        · split at h
          · cases h
          · rename_i t i1 he
            have hq := quot_len _ _ _ _ _ _ he
            simp only [List.length_nil] at hq
            have es : (⟨t.toArray⟩ : ByteArray).size = t.length := by rw [Lib.size_eq]
            have hsk2 := skipL_le s i1
            split at h
            · cases h
            · split at h
              · cases h
              · split at h
                · cases h
                · split at h
                  · cases h
                  · rename_i x i2 vals2 hx
                    have hxl := ihv _ _ _ _ _ _ _ hx
                    have hsk3 := skipL_le s i2
                    split at h
                    · cases h
                    · split at h
                      · have := ihf _ _ _ _ _ _ _ _ _ _ h
                        rw [lettL_app, sumK_snoc, es] at this
                        simp only [lettL] at this
                        omega
                      · split at h
                        · injection h with h
                          injection h with h1 h2
                          injection h2 with h2 h3
                          injection h3 with h3 h4
                          rw [← h1, ← h2, ← h3, lettL_app, sumK_snoc, es]
                          simp only [lettL]
                          omega
                        · cases h
theorem read_lett {s : List UInt8} {v : JV} (h : readP s = .ok v) : lettV v ≤ s.length := by
  unfold readP at h
  split at h
  · cases h
  · split at h
    · cases h
    · split at h
      · cases h
      · rename_i x i vs he
        have h1 := (valP_lett _).1 _ _ _ _ _ _ _ he
        have h2 := ((valP_facts _).1 _ _ _ _ _ _ _ he).2.1
        split at h
        · cases h
        · injection h with h
          subst h
          omega
mutual
theorem keysV_le : ∀ v : JV, formV v = true → keysV v + 1 ≤ sizeV v
  | .mk k t ks l, h => by
    simp only [formV, Bool.and_eq_true] at h
    have hl := keysL_le l h.2
    have hn := sizeL_len l
    simp only [keysV, sizeV]
    rcases formB_cases h.1 with ⟨_, _, h1, _⟩ | ⟨_, _, h1, _⟩ | ⟨_, h1, _⟩ | ⟨_, _, h1⟩ | ⟨_, _, h1⟩ <;> omega
theorem keysL_le : ∀ l : List JV, formL l = true → keysL l + l.length ≤ sizeL l
  | [], _ => by simp [keysL, sizeL]
  | v :: t, h => by
    simp only [formL, Bool.and_eq_true] at h
    have h1 := keysV_le v h.1
    have h2 := keysL_le t h.2
    simp only [keysL, sizeL, List.length_cons]
    omega
end
end Go.Proofs.YtakdhfjlhkejdaaGreatDoor
