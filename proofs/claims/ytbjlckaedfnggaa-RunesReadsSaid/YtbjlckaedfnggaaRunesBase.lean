/-
  CONTRACTS of package runes' functions: what each answers of any values, and that the world is as it was but for new blocks. No conditions but the texts' sizes.
-/
import Derived.Test.YtbjlckaedfnggaaRows
import Derived.Test.YtbjlckaedfnggaaRunesMath
import Derived.WalkKit
import Derived.WalkSpells
import Derived.WalkLawsBesides
import Derived.Lib.Walk
import Derived.Lib.Strings
import Derived.Lib.Split
import Derived.Lib.Hide
import Derived.Laws.RangeString
import Derived.Laws.RangeAny
import Derived.LoopTactic
import Derived.Outline
namespace Go.Proofs.Ytbjlckaedfnggaa
open Go.RowKit

theorem ret_bool {a b : Bool} (h : a = b) : Ending.returned (.bool a) = .returned (.bool b) := by rw [h]
theorem ret_int {k : IntKind} {a b : Int} (h : a = b) : Ending.returned (.int k a) = .returned (.int k b) := by rw [h]
theorem ret_str {a b : ByteArray} (h : a = b) : Ending.returned (.string a) = .returned (.string b) := by rw [h]

def isHp (s : ByteArray) : Bool := hpL s.data.toList
def brkS (s : ByteArray) (r : Int) : Bool := r == 65533 && !isHp s
def pointB (r : Int) : Bool := validRune r
def highB (r : Int) : Bool := decide (55296 ≤ r ∧ r < 56320)
def lowB (r : Int) : Bool := decide (56320 ≤ r ∧ r ≤ 57343)

theorem hasPrefix_any (s : ByteArray) (w : World) (hs : s.size ≤ maxLen) :
    Calls Try.prog 31 #[.string s, .string ⟨#[239, 191, 189]⟩] w fun e w' => e = .returned (.bool (isHp s)) ∧ w = w' := by
  unfold maxLen at hs
  have hd : (s.extract 0 3).toList = s.data.toList.take 3 := by rw [Lib.extract_toList]; rfl
  go_enter Try.func31, Try.ntmps31
  go_wp2
  · go_ret
    exact ⟨ret_bool rfl, rfl⟩
  · have h : (s.size : Int) < 3 := by assumption
    go_ret
    refine ⟨ret_bool ?_, rfl⟩
    have hl := Lib.size_eq s
    unfold isHp
    rcases e : s.data.toList with _ | ⟨a, _ | ⟨b, _ | ⟨c, t⟩⟩⟩
    · rfl
    · rw [hp_short1]
    · rw [hp_short2]
    · rw [e] at hl
      simp only [List.length_cons] at hl
      omega

theorem broken_any (s : ByteArray) (r : Int) (w : World) (hs : s.size ≤ maxLen) :
    Calls Try.prog 24 #[.string s, .int .i32 r] w fun e w' => e = .returned (.bool (brkS s r)) ∧ w = w' := by
  go_enter Try.func24, Try.ntmps24
  by_cases h : (r == 65533) = true
  · go_wp2_with (go_at_call 31; refine (hasPrefix_any _ _ hs).mono ?_; rintro e w' ⟨rfl, rfl⟩)
    go_ret
    exact ⟨ret_bool (by unfold brkS; rw [h]; rfl), rfl⟩
  · have h : (r == 65533) = false := by simpa using h
    go_wp2_with (go_at_call 31; refine (hasPrefix_any _ _ hs).mono ?_; rintro e w' ⟨rfl, rfl⟩)
    go_ret
    exact ⟨ret_bool (by unfold brkS; rw [h]; rfl), rfl⟩

theorem isPoint_any (r : Int) (w : World) :
    Calls Try.prog 29 #[.int .i32 r] w fun e w' => e = .returned (.bool (pointB r)) ∧ w = w' := by
  by_cases h1 : 0 ≤ r
  · by_cases h2 : r < 55296
    · go_enter Try.func29, Try.ntmps29
      go_wp2
      all_goals go_ret
      all_goals exact ⟨ret_bool (by unfold pointB validRune; simp; omega), rfl⟩
    · by_cases h3 : 57343 < r
      · by_cases h4 : r ≤ 1114111
        all_goals go_enter Try.func29, Try.ntmps29
        all_goals go_wp2
        all_goals go_ret
        all_goals exact ⟨ret_bool (by unfold pointB validRune; simp; omega), rfl⟩
      · go_enter Try.func29, Try.ntmps29
        go_wp2
        all_goals go_ret
        all_goals exact ⟨ret_bool (by unfold pointB validRune; simp; omega), rfl⟩
  · have h3 : ¬ 57343 < r := by omega
    go_enter Try.func29, Try.ntmps29
    go_wp2
    all_goals go_ret
    all_goals exact ⟨ret_bool (by unfold pointB validRune; simp; omega), rfl⟩

theorem isHigh_any (r : Int) (w : World) :
    Calls Try.prog 25 #[.int .i32 r] w fun e w' => e = .returned (.bool (highB r)) ∧ w = w' := by
  go_enter Try.func25, Try.ntmps25
  go_wp2
  all_goals go_ret
  all_goals exact ⟨ret_bool (by unfold highB; simp; omega), rfl⟩

theorem isLow_any (r : Int) (w : World) :
    Calls Try.prog 26 #[.int .i32 r] w fun e w' => e = .returned (.bool (lowB r)) ∧ w = w' := by
  go_enter Try.func26, Try.ntmps26
  go_wp2
  all_goals go_ret
  all_goals exact ⟨ret_bool (by unfold lowB; simp; omega), rfl⟩

def badI (s : ByteArray) : Int := if lenF s.data.toList = s.size then -1 else lenF s.data.toList
def validB (s : ByteArray) : Bool := lenF s.data.toList == s.size

theorem drop_ne {s : ByteArray} {pos : Nat} (hp : pos < s.size) : s.data.toList.drop pos ≠ [] := by
  intro e
  have := congrArg List.length e
  rw [List.length_drop, ← Lib.size_eq] at this
  simp only [List.length_nil] at this
  omega
theorem from_data (s : ByteArray) (pos : Nat) : (s.extract pos s.size).data.toList = s.data.toList.drop pos := by
  rw [Lib.extract_data, List.take_of_length_le (by rw [List.length_drop, ← Lib.size_eq]; omega)]
/-- one round over a text: a fault, or a code point -/
theorem round_at (s : ByteArray) (pos : Nat) (hp : pos < s.size) :
    (brkS (s.extract pos s.size) ((Utf8.decode s pos).1 : Nat) = true → ptL (s.data.toList.drop pos) = none) ∧
    (brkS (s.extract pos s.size) ((Utf8.decode s pos).1 : Nat) = false → ptL (s.data.toList.drop pos) = some (Utf8.decode s pos).1 ∧ (Utf8.decode s pos).2 = (encL ((Utf8.decode s pos).1 : Nat)).length) := by
  have hb := brk_iff _ (drop_ne hp)
  have e : brkS (s.extract pos s.size) ((Utf8.decode s pos).1 : Nat) = brkL (s.data.toList.drop pos) := by
    unfold brkS brkL isHp
    rw [from_data, decode_eq]
    congr 1
    by_cases h : (decL (s.data.toList.drop pos)).1 = 65533
    · rw [h]; rfl
    · rw [beq_eq_false_iff_ne.2 h, beq_eq_false_iff_ne.2 (by omega)]
  rw [e, decode_eq]
  exact hb

theorem from_size {s : ByteArray} {pos : Nat} (hs : s.size ≤ maxLen) : (s.extract pos s.size).size ≤ maxLen := by
  rw [Lib.size_eq, from_data, List.length_drop, ← Lib.size_eq]
  omega
theorem drop_end {s : ByteArray} {pos : Nat} (hp : ¬ pos < s.size) : s.data.toList.drop pos = [] :=
  List.drop_eq_nil_of_le (by rw [← Lib.size_eq]; omega)
theorem lenF_le' (s : ByteArray) : lenF s.data.toList ≤ s.size := by rw [Lib.size_eq]; exact lenF_le _
theorem bad_end {s : ByteArray} {pos b : Nat} (hp : ¬ pos < s.size) (hc : pos + lenL b (s.data.toList.drop pos) = lenF s.data.toList) : (-1 : Int) = badI s := by
  rw [drop_end hp, lenL_none pt_nil] at hc
  have := lenF_le' s
  unfold badI
  rw [if_pos (by omega)]
theorem bad_here {s : ByteArray} {pos b : Nat} (hp : pos < s.size) (hc : pos + lenL b (s.data.toList.drop pos) = lenF s.data.toList)
    (hk : brkS (s.extract pos s.size) ((Utf8.decode s pos).1 : Nat) = true) : (pos : Int) = badI s := by
  rw [lenL_none ((round_at s pos hp).1 hk)] at hc
  unfold badI
  rw [if_neg (by omega)]
  omega
theorem bad_on {s : ByteArray} {pos b : Nat} (hp : pos < s.size) (hb : s.size ≤ pos + b) (hc : pos + lenL b (s.data.toList.drop pos) = lenF s.data.toList)
    (hk : brkS (s.extract pos s.size) ((Utf8.decode s pos).1 : Nat) = false) :
    ∃ b', pos + (Utf8.decode s pos).2 + lenL b' (s.data.toList.drop (pos + (Utf8.decode s pos).2)) = lenF s.data.toList ∧ s.size ≤ pos + (Utf8.decode s pos).2 + b' := by
  obtain ⟨h1, h2⟩ := (round_at s pos hp).2 hk
  have hwd := Lib.decode_width_pos s pos hp
  obtain ⟨b, rfl⟩ : ∃ b', b = b' + 1 := ⟨b - 1, by omega⟩
  refine ⟨b, ?_, by omega⟩
  simp only [lenL, h1] at hc
  rw [List.drop_drop, ← h2] at hc
  omega

set_option maxHeartbeats 1000000 in
theorem bad_any (s : ByteArray) (w : World) (hs : s.size ≤ maxLen) :
    Calls Try.prog 12 #[.string s] w fun e w' => e = .returned (.int .i64 (badI s)) ∧ Below w.heap.size w w' := by
  have hs' := hs
  unfold maxLen at hs'
  go_enter Try.func12, Try.ntmps12
  go_wp2
  go_loopw [3] (fun _ w' => ∃ (pos b : Nat), w' = w.iter s pos ∧ pos + lenL b (s.data.toList.drop pos) = lenF s.data.toList ∧ s.size ≤ pos + b) (fun _ w' => s.size - w'.iterPos w.heap.size)
  case atStart => exact ⟨0, s.size, rfl, by rw [Nat.zero_add, List.drop_zero, Lib.size_eq]; rfl, by omega⟩
  case round =>
    obtain ⟨pos, b, rfl, hc, hb⟩ := hrel
    by_cases hp : pos < s.size
    · have hnx : ∀ ty, (Instr.next (.pointer (some ⟨w.heap.size, 0, none⟩)) true ty).run Try.prog (w.iter s pos) = _ := fun ty => run_next_any w s pos ty hp
      have hwd := Lib.decode_width_pos s pos hp
      go_wp2_with (go_at_call 24; refine (broken_any _ _ _ (from_size hs)).mono ?_; rintro e w' ⟨rfl, rfl⟩)
      · have hk : brkS (s.extract pos s.size) ((Utf8.decode s pos).1 : Nat) = true := by assumption
        go_ret
        exact ⟨ret_int (bad_here hp hc hk), (Below.refl _ _).alloc (Nat.le_refl _) _⟩
      · have hk : brkS (s.extract pos s.size) ((Utf8.decode s pos).1 : Nat) = false := by assumption
        obtain ⟨b', h1, h2⟩ := bad_on hp hb hc hk
        go_roundw
        case rel => exact ⟨_, b', rfl, h1, h2⟩
        case measure => simp; omega
    · have hnx : ∀ ty, (Instr.next (.pointer (some ⟨w.heap.size, 0, none⟩)) true ty).run Try.prog (w.iter s pos) = _ := fun ty => run_next_end w s pos ty hp
      go_wp2
      go_ret
      exact ⟨ret_int (bad_end hp hc), (Below.refl _ _).alloc (Nat.le_refl _) _⟩

theorem bad_valid (s : ByteArray) : decide (badI s < 0) = validB s := by
  have := lenF_le' s
  unfold badI validB
  by_cases h : lenF s.data.toList = s.size
  · rw [if_pos h, h]
    simp
  · rw [if_neg h, beq_eq_false_iff_ne.2 h]
    simp
theorem valid_any (s : ByteArray) (w : World) (hs : s.size ≤ maxLen) :
    Calls Try.prog 10 #[.string s] w fun e w' => e = .returned (.bool (validB s)) ∧ Below w.heap.size w w' := by
  go_enter Try.func10, Try.ntmps10
  go_wp2_with (go_at_call 12; refine (bad_any _ _ hs).mono ?_; rintro e w' ⟨rfl, hb⟩)
  go_ret
  exact ⟨ret_bool (bad_valid s), hb⟩

def countI (s : ByteArray) : Int := if lenF s.data.toList = s.size then (cntF s.data.toList : Nat) else -1

theorem cnt_end {s : ByteArray} {pos b acc : Nat} (hp : ¬ pos < s.size) (hc : pos + lenL b (s.data.toList.drop pos) = lenF s.data.toList)
    (hn : acc + cntL b (s.data.toList.drop pos) = cntF s.data.toList) : (acc : Int) = countI s := by
  rw [drop_end hp, lenL_none pt_nil] at hc
  rw [drop_end hp, cntL_none pt_nil] at hn
  have := lenF_le' s
  unfold countI
  rw [if_pos (by omega)]
  omega
theorem cnt_here {s : ByteArray} {pos b : Nat} (hp : pos < s.size) (hc : pos + lenL b (s.data.toList.drop pos) = lenF s.data.toList)
    (hk : brkS (s.extract pos s.size) ((Utf8.decode s pos).1 : Nat) = true) : (-1 : Int) = countI s := by
  rw [lenL_none ((round_at s pos hp).1 hk)] at hc
  unfold countI
  rw [if_neg (by omega)]
theorem cnt_on {s : ByteArray} {pos b acc : Nat} (hp : pos < s.size) (hb : s.size ≤ pos + b) (hc : pos + lenL b (s.data.toList.drop pos) = lenF s.data.toList)
    (hn : acc + cntL b (s.data.toList.drop pos) = cntF s.data.toList)
    (hk : brkS (s.extract pos s.size) ((Utf8.decode s pos).1 : Nat) = false) :
    ∃ b', pos + (Utf8.decode s pos).2 + lenL b' (s.data.toList.drop (pos + (Utf8.decode s pos).2)) = lenF s.data.toList ∧ acc + 1 + cntL b' (s.data.toList.drop (pos + (Utf8.decode s pos).2)) = cntF s.data.toList ∧ s.size ≤ pos + (Utf8.decode s pos).2 + b' := by
  obtain ⟨h1, h2⟩ := (round_at s pos hp).2 hk
  have hwd := Lib.decode_width_pos s pos hp
  obtain ⟨b, rfl⟩ : ∃ b', b = b' + 1 := ⟨b - 1, by omega⟩
  refine ⟨b, ?_, ?_, by omega⟩
  · simp only [lenL, h1] at hc
    rw [List.drop_drop, ← h2] at hc
    omega
  · simp only [cntL, h1] at hn
    rw [List.drop_drop, ← h2] at hn
    omega

set_option maxHeartbeats 1000000 in
theorem count_any (s : ByteArray) (w : World) (hs : s.size ≤ maxLen) :
    Calls Try.prog 14 #[.string s] w fun e w' => e = .returned (.int .i64 (countI s)) ∧ Below w.heap.size w w' := by
  have hs' := hs
  unfold maxLen at hs'
  have hcl := cntF_le s.data.toList
  rw [← Lib.size_eq] at hcl
  go_enter Try.func14, Try.ntmps14
  go_wp2
  go_loopw [3] (fun n w' => ∃ (pos b acc : Nat), w' = w.iter s pos ∧ n = .int .i64 acc ∧ pos + lenL b (s.data.toList.drop pos) = lenF s.data.toList ∧ acc + cntL b (s.data.toList.drop pos) = cntF s.data.toList ∧ s.size ≤ pos + b ∧ acc ≤ pos) (fun _ w' => s.size - w'.iterPos w.heap.size)
  case atStart => exact ⟨0, s.size, 0, rfl, rfl, by rw [Nat.zero_add, List.drop_zero, Lib.size_eq]; rfl, by rw [Nat.zero_add, List.drop_zero, Lib.size_eq]; rfl, by omega, by omega⟩
  case round =>
    obtain ⟨pos, b, acc, rfl, rfl, hc, hn, hb, ha⟩ := hrel
    by_cases hp : pos < s.size
    · have hnx : ∀ ty, (Instr.next (.pointer (some ⟨w.heap.size, 0, none⟩)) true ty).run Try.prog (w.iter s pos) = _ := fun ty => run_next_any w s pos ty hp
      have hwd := Lib.decode_width_pos s pos hp
      have Hn := Lib.hid hn
      have Hc := Lib.hid hc
      clear hn hc
      go_wp2_with (go_at_call 24; refine (broken_any _ _ _ (from_size hs)).mono ?_; rintro e w' ⟨rfl, rfl⟩)
      · have hk : brkS (s.extract pos s.size) ((Utf8.decode s pos).1 : Nat) = true := by assumption
        go_ret
        exact ⟨ret_int (cnt_here hp Hc.out hk), (Below.refl _ _).alloc (Nat.le_refl _) _⟩
      · have hk : brkS (s.extract pos s.size) ((Utf8.decode s pos).1 : Nat) = false := by assumption
        obtain ⟨b', h1, h3, h2⟩ := cnt_on hp hb Hc.out Hn.out hk
        go_roundw
        case rel => exact ⟨_, b', acc + 1, rfl, by go_num, h1, h3, h2, by omega⟩
        case measure => simp; omega
    · have hnx : ∀ ty, (Instr.next (.pointer (some ⟨w.heap.size, 0, none⟩)) true ty).run Try.prog (w.iter s pos) = _ := fun ty => run_next_end w s pos ty hp
      have Hn := Lib.hid hn
      have Hc := Lib.hid hc
      clear hn hc
      go_wp2
      go_ret
      exact ⟨ret_int (cnt_end hp Hc.out Hn.out), (Below.refl _ _).alloc (Nat.le_refl _) _⟩

def bytesS (r : Int) : ByteArray := if pointB r then Utf8.encode r else ⟨#[]⟩
theorem bytesS_yes {r : Int} (h : pointB r = true) : Utf8.encode r = bytesS r := by unfold bytesS; rw [if_pos h]
theorem bytesS_no {r : Int} (h : pointB r = false) : (⟨#[]⟩ : ByteArray) = bytesS r := by unfold bytesS; rw [h]; rfl
theorem bytes_any (r : Int) (w : World) :
    Calls Try.prog 22 #[.int .i32 r] w fun e w' => e = .returned (.string (bytesS r)) ∧ w = w' := by
  go_enter Try.func22, Try.ntmps22
  go_wp2_with (go_at_call 29; refine (isPoint_any _ _).mono ?_; rintro e w' ⟨rfl, rfl⟩)
  · have h : (!pointB r) = true := by assumption
    have h : pointB r = false := by simpa using h
    go_ret
    exact ⟨ret_str (bytesS_no h), rfl⟩
  · have h : (!pointB r) = false := by assumption
    have h : pointB r = true := by simpa using h
    go_ret
    exact ⟨ret_str (bytesS_yes h), rfl⟩

/-! ### First -/
def firstR (s : ByteArray) : Int := match ptL s.data.toList with | some c => (c : Nat) | none => 0
def firstN (s : ByteArray) : Int := match ptL s.data.toList with | some c => (encL (c : Nat)).length | none => 0
def firstB (s : ByteArray) : Bool := (ptL s.data.toList).isSome
theorem first_some {s : ByteArray} {c : Nat} (h : ptL s.data.toList = some c) : firstR s = c ∧ firstN s = (encL (c : Nat)).length ∧ firstB s = true := by
  unfold firstR firstN firstB
  rw [h]
  exact ⟨rfl, rfl, rfl⟩
theorem first_none {s : ByteArray} (h : ptL s.data.toList = none) : firstR s = 0 ∧ firstN s = 0 ∧ firstB s = false := by
  unfold firstR firstN firstB
  rw [h]
  exact ⟨rfl, rfl, rfl⟩
theorem ret_first {s : ByteArray} {a b : Int} {c : Bool} (h : firstR s = a ∧ firstN s = b ∧ firstB s = c) :
    Ending.returned (.tuple #[.int .i32 a, .int .i64 b, .bool c]) = .returned (.tuple #[.int .i32 (firstR s), .int .i64 (firstN s), .bool (firstB s)]) := by
  rw [h.1, h.2.1, h.2.2]
/-- the front of a text: a fault, or a code point -/
theorem front_at (s : ByteArray) (hp : 0 < s.size) :
    (brkS s ((Utf8.decode s 0).1 : Nat) = true → ptL s.data.toList = none) ∧
    (brkS s ((Utf8.decode s 0).1 : Nat) = false → ptL s.data.toList = some (Utf8.decode s 0).1 ∧ (Utf8.decode s 0).2 = (encL ((Utf8.decode s 0).1 : Nat)).length) := by
  have h := round_at s 0 hp
  have e : s.extract 0 s.size = s := by
    rw [Lib.extract_eq, List.drop_zero, List.take_of_length_le (by rw [Lib.size_eq]; omega), Lib.mk_data]
  rw [e, List.drop_zero] at h
  exact h
theorem pt_width {s : ByteArray} {c : Nat} (h : ptL s.data.toList = some c) : 1 ≤ (encL (c : Nat)).length ∧ (encL (c : Nat)).length ≤ s.size := by
  have := pt_drop h
  rw [Lib.size_eq]
  omega
theorem pt_empty {s : ByteArray} (h : ¬ 0 < s.size) : ptL s.data.toList = none := by
  have : s.data.toList = [] := List.eq_nil_of_length_eq_zero (by rw [← Lib.size_eq]; omega)
  rw [this]
  rfl

set_option maxHeartbeats 1000000 in
theorem first_any (s : ByteArray) (w : World) (hs : s.size ≤ maxLen) :
    Calls Try.prog 8 #[.string s] w fun e w' => e = .returned (.tuple #[.int .i32 (firstR s), .int .i64 (firstN s), .bool (firstB s)]) ∧ Below w.heap.size w w' := by
  have hs' := hs
  unfold maxLen at hs'
  go_enter Try.func8, Try.ntmps8
  go_wp2
  go_loopw [2, 4] (fun r is w' => (w' = w.iter s 0 ∧ r = .int .i32 0 ∧ is = .bool false) ∨ ∃ c : Nat, ptL s.data.toList = some c ∧ w' = w.iter s (encL (c : Nat)).length ∧ r = .int .i32 c ∧ is = .bool true) (fun _ _ w' => s.size - w'.iterPos w.heap.size)
  case atStart => exact .inl ⟨rfl, rfl, rfl⟩
  case round =>
    rcases hrel with ⟨rfl, rfl, rfl⟩ | ⟨c, hpt, rfl, rfl, rfl⟩
    · by_cases hp : 0 < s.size
      · have hnx : ∀ ty, (Instr.next (.pointer (some ⟨w.heap.size, 0, none⟩)) true ty).run Try.prog (w.iter s 0) = _ := fun ty => run_next_any w s 0 ty hp
        have hwd := Lib.decode_width_pos s 0 hp
        go_wp2_with (go_at_call 24; refine (broken_any _ _ _ hs).mono ?_; rintro e w' ⟨rfl, rfl⟩)
        · have hk : brkS s ((Utf8.decode s 0).1 : Nat) = true := by assumption
          go_ret3
          exact ⟨ret_first (first_none ((front_at s hp).1 hk)), (Below.refl _ _).alloc (Nat.le_refl _) _⟩
        · have hk : brkS s ((Utf8.decode s 0).1 : Nat) = false := by assumption
          obtain ⟨h1, h2⟩ := (front_at s hp).2 hk
          go_roundw
          case rel => exact .inr ⟨_, h1, by rw [h2], rfl, rfl⟩
          case measure => simp; omega
      · have hnx : ∀ ty, (Instr.next (.pointer (some ⟨w.heap.size, 0, none⟩)) true ty).run Try.prog (w.iter s 0) = _ := fun ty => run_next_end w s 0 ty hp
        have hz : (0 : Int) = s.size := by omega
        go_wp2
        go_ret3
        refine ⟨?_, (Below.refl _ _).alloc (Nat.le_refl _) _⟩
        have := first_none (pt_empty hp)
        exact ret_first ⟨this.1, by rw [this.2.1]; omega, this.2.2⟩
    · have hw := pt_width hpt
      have hf := first_some hpt
      obtain ⟨n, hn⟩ : ∃ n, n = (encL (c : Nat)).length := ⟨_, rfl⟩
      rw [← hn] at hw hf
      rw [← hn]
      have Hf := Lib.hid hf
      have Hn := Lib.hid hn
      have Hpt := Lib.hid hpt
      clear hf hn hpt
      have h0 : (0 : Int) < (n : Int) := by omega
      by_cases hp : n < s.size
      · have hnx : ∀ ty, (Instr.next (.pointer (some ⟨w.heap.size, 0, none⟩)) true ty).run Try.prog (w.iter s n) = _ := fun ty => run_next_any w s n ty hp
        have hwd := Lib.decode_width_pos s n hp
        go_wp2
        go_ret3
        exact ⟨ret_first Hf.out, (Below.refl _ _).alloc (Nat.le_refl _) _⟩
      · have hnx : ∀ ty, (Instr.next (.pointer (some ⟨w.heap.size, 0, none⟩)) true ty).run Try.prog (w.iter s n) = _ := fun ty => run_next_end w s n ty hp
        go_wp2
        go_ret3
        refine ⟨?_, (Below.refl _ _).alloc (Nat.le_refl _) _⟩
        exact ret_first ⟨Hf.out.1, by rw [Hf.out.2.1]; omega, Hf.out.2.2⟩

/-! ### Pair, Halves -/
def pairB (a b : Int) : Bool := highB a && lowB b
def pairR (a b : Int) : Int := if pairB a b then 65536 + (a - 55296) * 1024 + (b - 56320) else 0
theorem ret_pair_no {a b : Int} (h : pairB a b = false) : Ending.returned (.tuple #[.int .i32 0, .bool false]) = .returned (.tuple #[.int .i32 (pairR a b), .bool (pairB a b)]) := by
  unfold pairR
  rw [h]
  rfl
theorem ret_pair_yes {a b : Int} (h : pairB a b = true) : Ending.returned (.tuple #[.int .i32 (65536 + (a - 55296) * 1024 + (b - 56320)), .bool true]) = .returned (.tuple #[.int .i32 (pairR a b), .bool (pairB a b)]) := by
  unfold pairR
  rw [h]
  rfl
theorem pair_any (a b : Int) (w : World) :
    Calls Try.prog 16 #[.int .i32 a, .int .i32 b] w fun e w' => e = .returned (.tuple #[.int .i32 (pairR a b), .bool (pairB a b)]) ∧ w = w' := by
  by_cases hh : highB a = true
  · have ha := of_decide_eq_true hh
    obtain ⟨ha1, ha2⟩ := ha
    by_cases hl : lowB b = true
    · have hb := of_decide_eq_true hl
      obtain ⟨hb1, hb2⟩ := hb
      go_enter Try.func16, Try.ntmps16
      go_wp2_with (first | (go_at_call 25; refine (isHigh_any _ _).mono ?_; rintro e w' ⟨rfl, rfl⟩) | (go_at_call 26; refine (isLow_any _ _).mono ?_; rintro e w' ⟨rfl, rfl⟩))
      go_ret2
      exact ⟨ret_pair_yes (by unfold pairB; rw [hh, hl]; rfl), rfl⟩
    · have hl : lowB b = false := by simpa using hl
      go_enter Try.func16, Try.ntmps16
      go_wp2_with (first | (go_at_call 25; refine (isHigh_any _ _).mono ?_; rintro e w' ⟨rfl, rfl⟩) | (go_at_call 26; refine (isLow_any _ _).mono ?_; rintro e w' ⟨rfl, rfl⟩))
      go_ret2
      exact ⟨ret_pair_no (by unfold pairB; rw [hl, Bool.and_false]), rfl⟩
  · have hh : highB a = false := by simpa using hh
    go_enter Try.func16, Try.ntmps16
    go_wp2_with (first | (go_at_call 25; refine (isHigh_any _ _).mono ?_; rintro e w' ⟨rfl, rfl⟩) | (go_at_call 26; refine (isLow_any _ _).mono ?_; rintro e w' ⟨rfl, rfl⟩))
    go_ret2
    exact ⟨ret_pair_no (by unfold pairB; rw [hh, Bool.false_and]), rfl⟩
def halfB (r : Int) : Bool := decide (65536 ≤ r ∧ r ≤ 1114111)
def halfH (r : Int) : Int := if halfB r then 55296 + (r - 65536) / 1024 else 0
def halfL (r : Int) : Int := if halfB r then 56320 + (r - 65536) % 1024 else 0
theorem ret_half_no {r : Int} (h : halfB r = false) : Ending.returned (.tuple #[.int .i32 0, .int .i32 0, .bool false]) = .returned (.tuple #[.int .i32 (halfH r), .int .i32 (halfL r), .bool (halfB r)]) := by
  unfold halfH halfL
  rw [h]
  rfl
theorem ret_half_yes {r : Int} (h : halfB r = true) : Ending.returned (.tuple #[.int .i32 (55296 + (r - 65536) / 1024), .int .i32 (56320 + (r - 65536) % 1024), .bool true]) = .returned (.tuple #[.int .i32 (halfH r), .int .i32 (halfL r), .bool (halfB r)]) := by
  unfold halfH halfL
  rw [h]
  rfl
theorem halves_any (r : Int) (w : World) :
    Calls Try.prog 18 #[.int .i32 r] w fun e w' => e = .returned (.tuple #[.int .i32 (halfH r), .int .i32 (halfL r), .bool (halfB r)]) ∧ w = w' := by
  by_cases h1 : 65536 ≤ r
  · by_cases h2 : r ≤ 1114111
    · have hm : bits BinOp.and IntKind.i32 (r - 65536) 1023 = (r - 65536) % 1024 := bits_mask .i32 31 (by decide) wraps_i32 10 (by decide) (r - 65536) (by omega) (by omega)
      go_enter Try.func18, Try.ntmps18
      go_wp2
      go_ret3
      exact ⟨ret_half_yes (decide_eq_true ⟨h1, h2⟩), rfl⟩
    · go_enter Try.func18, Try.ntmps18
      go_wp2
      go_ret3
      exact ⟨ret_half_no (decide_eq_false (by omega)), rfl⟩
  · have h2 : r ≤ 1114111 := by omega
    go_enter Try.func18, Try.ntmps18
    go_wp2
    go_ret3
    exact ⟨ret_half_no (decide_eq_false (by omega)), rfl⟩

/-! ### Hex -/
def digV (c : Int) : Option Int := if 48 ≤ c ∧ c ≤ 57 then some (c - 48) else if 97 ≤ c ∧ c ≤ 102 then some (c - 97 + 10) else if 65 ≤ c ∧ c ≤ 70 then some (c - 65 + 10) else none
def digR (c : Int) : Int := (digV c).getD 0
def digB (c : Int) : Bool := (digV c).isSome
theorem ret_dig {c d : Int} (h : digV c = some d) : Ending.returned (.tuple #[.int .i32 d, .bool true]) = .returned (.tuple #[.int .i32 (digR c), .bool (digB c)]) := by
  unfold digR digB
  rw [h]
  rfl
theorem ret_dig_no {c : Int} (h : digV c = none) : Ending.returned (.tuple #[.int .i32 0, .bool false]) = .returned (.tuple #[.int .i32 (digR c), .bool (digB c)]) := by
  unfold digR digB
  rw [h]
  rfl
theorem digit_any (c : Int) (w : World) :
    Calls Try.prog 27 #[.int .i32 c] w fun e w' => e = .returned (.tuple #[.int .i32 (digR c), .bool (digB c)]) ∧ w = w' := by
  by_cases h1 : 48 ≤ c
  · by_cases h2 : c ≤ 57
    · go_enter Try.func27, Try.ntmps27
      go_wp2
      go_ret2
      exact ⟨ret_dig (by unfold digV; rw [if_pos ⟨h1, h2⟩]), rfl⟩
    · by_cases h3 : 97 ≤ c
      · by_cases h4 : c ≤ 102
        · go_enter Try.func27, Try.ntmps27
          go_wp2
          go_ret2
          exact ⟨ret_dig (by unfold digV; rw [if_neg (by omega), if_pos ⟨h3, h4⟩]), rfl⟩
        · have h6 : ¬ c ≤ 70 := by omega
          have h5 : 65 ≤ c := by omega
          go_enter Try.func27, Try.ntmps27
          go_wp2
          go_ret2
          exact ⟨ret_dig_no (by unfold digV; rw [if_neg (by omega), if_neg (by omega), if_neg (by omega)]), rfl⟩
      · by_cases h5 : 65 ≤ c
        · by_cases h6 : c ≤ 70
          · go_enter Try.func27, Try.ntmps27
            go_wp2
            go_ret2
            exact ⟨ret_dig (by unfold digV; rw [if_neg (by omega), if_neg (by omega), if_pos ⟨h5, h6⟩]), rfl⟩
          · go_enter Try.func27, Try.ntmps27
            go_wp2
            go_ret2
            exact ⟨ret_dig_no (by unfold digV; rw [if_neg (by omega), if_neg (by omega), if_neg (by omega)]), rfl⟩
        · go_enter Try.func27, Try.ntmps27
          go_wp2
          go_ret2
          exact ⟨ret_dig_no (by unfold digV; rw [if_neg (by omega), if_neg (by omega), if_neg (by omega)]), rfl⟩
  · have h3 : ¬ 97 ≤ c := by omega
    have h5 : ¬ 65 ≤ c := by omega
    go_enter Try.func27, Try.ntmps27
    go_wp2
    go_ret2
    exact ⟨ret_dig_no (by unfold digV; rw [if_neg (by omega), if_neg (by omega), if_neg (by omega)]), rfl⟩

theorem digV_range {c d : Int} (h : digV c = some d) : 0 ≤ d ∧ d < 16 ∧ c < 128 := by
  unfold digV at h
  split at h
  · injection h with h; omega
  · split at h
    · injection h with h; omega
    · split at h
      · injection h with h; omega
      · cases h

def hexF (acc : Int) : List UInt8 → Option Int
  | [] => some acc
  | b :: t => match digV b.toNat with
    | none => none
    | some d => hexF (acc * 16 + d) t
def hexO (s : ByteArray) : Option Int := if s.size < 4 then none else hexF 0 (s.data.toList.take 4)
def hexR (s : ByteArray) : Int := (hexO s).getD 0
def hexB (s : ByteArray) : Bool := (hexO s).isSome
def hexTop : Nat → Int
  | 0 => 1
  | 1 => 16
  | 2 => 256
  | 3 => 4096
  | _ => 65536
theorem hexTop_on {k : Nat} {a d : Int} (hk : k < 4) (h0 : 0 ≤ a) (ha : a < hexTop k) (h1 : 0 ≤ d) (h2 : d < 16) : a < 4096 ∧ a * 16 + d < hexTop (k + 1) := by
  rcases k with _ | _ | _ | _ | k
  all_goals simp only [hexTop] at ha ⊢
  all_goals omega
theorem ret_hex {s : ByteArray} {d : Int} (h : hexO s = some d) : Ending.returned (.tuple #[.int .i32 d, .bool true]) = .returned (.tuple #[.int .i32 (hexR s), .bool (hexB s)]) := by
  unfold hexR hexB
  rw [h]
  rfl
theorem ret_hex_no {s : ByteArray} (h : hexO s = none) : Ending.returned (.tuple #[.int .i32 0, .bool false]) = .returned (.tuple #[.int .i32 (hexR s), .bool (hexB s)]) := by
  unfold hexR hexB
  rw [h]
  rfl
theorem hex_short {s : ByteArray} (h : s.size < 4) : hexO s = none := by
  unfold hexO
  rw [if_pos h]
theorem hex_long {s : ByteArray} (h : 4 ≤ s.size) : hexO s = hexF 0 (s.extract 0 4).data.toList := by
  unfold hexO
  rw [if_neg (by omega), Lib.extract_from_zero]

/-- one round over a text's digits -/
theorem hex_step {t : ByteArray} {pos : Nat} (hp : pos < t.size) (acc : Int) :
    (∀ d, digV ((Utf8.decode t pos).1 : Nat) = some d → (Utf8.decode t pos).2 = 1 ∧ hexF acc (t.data.toList.drop pos) = hexF (acc * 16 + d) (t.data.toList.drop (pos + 1))) ∧
    (digV ((Utf8.decode t pos).1 : Nat) = none → hexF acc (t.data.toList.drop pos) = none) := by
  have hc : t.data.toList.drop pos = t[pos] :: t.data.toList.drop (pos + 1) := by
    rw [List.drop_eq_getElem_cons (by rw [← Lib.size_eq]; exact hp)]
    rfl
  by_cases ha : (t[pos]'hp).toNat < 128
  · rw [decode_ascii t pos hp ha]
    constructor
    · intro d hd
      refine ⟨rfl, ?_⟩
      rw [hc]
      have hd' : digV ((t[pos]'hp).toNat : Nat) = some d := hd
      simp only [hexF, hd']
    · intro hd
      rw [hc]
      have hd' : digV ((t[pos]'hp).toNat : Nat) = none := hd
      simp only [hexF, hd']
  · have hh := (decode_high t pos hp (by omega)).1
    constructor
    · intro d hd
      have := (digV_range hd).2.2
      omega
    · intro _
      have hd' : digV ((t[pos]'hp).toNat : Nat) = none := by
        cases hd : digV ((t[pos]'hp).toNat : Nat) with
        | none => rfl
        | some d => have := (digV_range hd).2.2; omega
      rw [hc]
      simp only [hexF, hd']

set_option maxHeartbeats 1000000 in
theorem hex_any (s : ByteArray) (w : World) (hs : s.size ≤ maxLen) :
    Calls Try.prog 20 #[.string s] w fun e w' => e = .returned (.tuple #[.int .i32 (hexR s), .bool (hexB s)]) ∧ Below w.heap.size w w' := by
  unfold maxLen at hs
  by_cases h4 : s.size < 4
  · go_enter Try.func20, Try.ntmps20
    go_wp2
    go_ret2
    exact ⟨ret_hex_no (hex_short h4), Below.refl _ _⟩
  · have h4' : 4 ≤ s.size := by omega
    have ht : (s.extract 0 4).size = 4 := by
      rw [Lib.size_eq, Lib.extract_from_zero, List.length_take, ← Lib.size_eq]
      omega
    have hx := hex_long h4'
    obtain ⟨t, et⟩ : ∃ t, t = s.extract 0 4 := ⟨_, rfl⟩
    rw [← et] at ht hx
    have Ht := Lib.hid ht
    have Hx := Lib.hid hx
    have Et := Lib.hid et
    clear ht hx et
    go_enter Try.func20, Try.ntmps20
    go_wp2
    rw [← Et.out]
    go_loopw [2] (fun r w' => ∃ (pos : Nat) (acc : Int), w' = w.iter t pos ∧ r = .int .i32 acc ∧ pos ≤ 4 ∧ 0 ≤ acc ∧ acc < hexTop pos ∧ hexF acc (t.data.toList.drop pos) = hexO s) (fun _ w' => 4 - w'.iterPos w.heap.size)
    case atStart => exact ⟨0, 0, rfl, rfl, by omega, by omega, by simp [hexTop], by rw [Hx.out]; rfl⟩
    case round =>
      obtain ⟨pos, acc, rfl, rfl, hp4, ha0, ha, hf⟩ := hrel
      by_cases hp : pos < t.size
      · have hp' : pos < 4 := by rw [Ht.out] at hp; exact hp
        have hnx : ∀ ty, (Instr.next (.pointer (some ⟨w.heap.size, 0, none⟩)) true ty).run Try.prog (w.iter t pos) = _ := fun ty => run_next_any w t pos ty hp
        have hstep := hex_step hp acc
        cases hd : digV ((Utf8.decode t pos).1 : Nat) with
        | none =>
          have hB : digB ((Utf8.decode t pos).1 : Nat) = false := by unfold digB; rw [hd]; rfl
          have hn := hstep.2 hd
          rw [hn] at hf
          have Hf := Lib.hid hf
          have Hd := Lib.hid hd
          clear hf hd hn hstep
          go_wp2_with (go_at_call 27; refine (digit_any _ _).mono ?_; rintro e w' ⟨rfl, rfl⟩)
          go_ret2
          exact ⟨ret_hex_no Hf.out.symm, (Below.refl _ _).alloc (Nat.le_refl _) _⟩
        | some d =>
          have hB : digB ((Utf8.decode t pos).1 : Nat) = true := by unfold digB; rw [hd]; rfl
          have hR : digR ((Utf8.decode t pos).1 : Nat) = d := by unfold digR; rw [hd]; rfl
          obtain ⟨hd0, hd1, hd2⟩ := digV_range hd
          obtain ⟨hw1, hfs⟩ := hstep.1 d hd
          obtain ⟨ht1, ht2⟩ := hexTop_on hp' ha0 ha hd0 hd1
          rw [hfs] at hf
          have hor : bits BinOp.or IntKind.i32 (acc * 16) d = acc * 16 + d := bits_join .i32 31 (by decide) wraps_i32 4 (acc * 16) d (by omega) (by omega) (by omega) (by omega) (by omega) (by omega)
          have Hf := Lib.hid hf
          have Hw := Lib.hid hw1
          clear hf hd hfs hstep ha hw1
          go_wp2_with (go_at_call 27; refine (digit_any _ _).mono ?_; rintro e w' ⟨rfl, rfl⟩)
          go_roundw
          case rel => exact ⟨pos + 1, acc * 16 + d, by rw [Hw.out], rfl, by omega, by omega, ht2, Hf.out⟩
          case measure => simp; rw [Hw.out]; omega
      · have hnx : ∀ ty, (Instr.next (.pointer (some ⟨w.heap.size, 0, none⟩)) true ty).run Try.prog (w.iter t pos) = _ := fun ty => run_next_end w t pos ty hp
        rw [drop_end hp] at hf
        have Hf := Lib.hid hf
        clear hf
        go_wp2
        go_ret2
        exact ⟨ret_hex Hf.out.symm, (Below.refl _ _).alloc (Nat.le_refl _) _⟩
end Go.Proofs.Ytbjlckaedfnggaa
