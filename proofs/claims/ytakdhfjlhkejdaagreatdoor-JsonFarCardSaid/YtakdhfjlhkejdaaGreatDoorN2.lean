/-
  TEXTS OF THE SEAT, put together: JsonQuo2, JsonBase, JsonNum, JsonVal, JsonText, JsonPrint, JsonAlike.
-/
import Derived.Test.YtakdhfjlhkejdaaGreatDoorN1
import Derived.Deep.QuietTactic
import Derived.BigQuiet
import Derived.RegionTactic
import Derived.Test.YtakdhfjlhkejdaaGreatDoorShelf
set_option linter.unusedSimpArgs false
set_option linter.unusedVariables false

/-
  CONTRACTS of package json's fitting and Quote: what each answers of any text, and that the world is as it was but for new blocks. Conditions: the texts' sizes.
-/
set_option linter.unusedVariables false
namespace Go.Proofs.YtakdhfjlhkejdaaGreatDoor
open Go.RowKit

def fitS (s : ByteArray) : ByteArray := if s.size ≤ 65536 then s else ⟨#[]⟩
def fitE (s : ByteArray) : Int := if s.size ≤ 65536 then 0 else 4
theorem fit_yes {s : ByteArray} (h : s.size ≤ 65536) : fitS s = s ∧ fitE s = 0 := by
  unfold fitS fitE
  rw [if_pos h, if_pos h]
  exact ⟨rfl, rfl⟩
theorem fit_no {s : ByteArray} (h : ¬ s.size ≤ 65536) : fitS s = ⟨#[]⟩ ∧ fitE s = 4 := by
  unfold fitS fitE
  rw [if_neg h, if_neg h]
  exact ⟨rfl, rfl⟩
theorem ret_se {s t : ByteArray} {a b : Int} (h : s = t) (k : a = b) : Ending.returned (.tuple #[.string s, .int .i64 a]) = .returned (.tuple #[.string t, .int .i64 b]) := by rw [h, k]
theorem fitting_any (s : ByteArray) (w : World) (hs : s.size ≤ maxLen) :
    Calls Tryz.prog 41 #[.string s] w fun e w' => e = .returned (.tuple #[.string (fitS s), .int .i64 (fitE s)]) ∧ w = w' := by
  unfold maxLen at hs
  by_cases h : s.size ≤ 65536
  · have Hf := Lib.hid (fit_yes h)
    go_enter Tryz.func41, Tryz.ntmps41
    go_wp2
    go_ret2
    exact ⟨ret_se Hf.out.1.symm Hf.out.2.symm, rfl⟩
  · have Hf := Lib.hid (fit_no h)
    have h' : (65536 : Int) < s.size := by omega
    go_enter Tryz.func41, Tryz.ntmps41
    go_wp2
    go_ret2
    exact ⟨ret_se Hf.out.1.symm Hf.out.2.symm, rfl⟩

def quotE (s : ByteArray) : Int := if validB s then fitE ⟨(quoL s.data.toList).toArray⟩ else 24
def quotS (s : ByteArray) : ByteArray := if validB s then fitS ⟨(quoL s.data.toList).toArray⟩ else ⟨#[]⟩
theorem quot_bad {s : ByteArray} (h : validB s = false) : quotS s = ⟨#[]⟩ ∧ quotE s = 24 := by
  unfold quotS quotE
  rw [h]
  exact ⟨rfl, rfl⟩
theorem quot_good {s : ByteArray} (h : validB s = true) : quotS s = fitS ⟨(quoL s.data.toList).toArray⟩ ∧ quotE s = fitE ⟨(quoL s.data.toList).toArray⟩ := by
  unfold quotS quotE
  rw [h]
  exact ⟨rfl, rfl⟩
theorem quoB_pos (l : List UInt8) : l.length ≤ (quoM l).length := by
  induction l with
  | nil => simp [quoM]
  | cons b t ih =>
    have := quoB_len b
    have e : quoM (b :: t) = quoB b ++ quoM t := by simp [quoM]
    rw [e, List.length_append, List.length_cons]
    omega
theorem quot_long {s : ByteArray} (h : ¬ s.size ≤ 65536) (hv : validB s = true) : quotS s = ⟨#[]⟩ ∧ quotE s = 4 := by
  have := quot_good hv
  rw [this.1, this.2]
  refine fit_no ?_
  show ¬ (quoL s.data.toList).length ≤ 65536
  have := quoB_pos s.data.toList
  unfold quoL
  rw [List.length_cons, List.length_append]
  rw [← Lib.size_eq] at this
  omega
theorem valid_all {s : ByteArray} (h : validB s = true) : allB s.data.toList := by
  unfold validB at h
  unfold allB
  rw [← Lib.size_eq]
  exact beq_iff_eq.1 h
set_option maxRecDepth 10000000 in
set_option maxHeartbeats 2000000 in
theorem quoteTop_any (s : ByteArray) (w : World) (hs : s.size ≤ maxLen) :
    Calls Tryz.prog 17 #[.string s] w fun e w' => e = .returned (.tuple #[.string (quotS s), .int .i64 (quotE s)]) ∧ Below w.heap.size w w' := by
  have hs' := hs
  unfold maxLen at hs'
  cases hv : validB s
  · have Hf := Lib.hid (quot_bad hv)
    go_enter Tryz.func17, Tryz.ntmps17
    go_wp2_with (go_at_call 44; refine (valid_any _ _ hs).mono ?_; rintro e w' ⟨rfl, hb⟩)
    go_ret2
    exact ⟨ret_se Hf.out.1.symm Hf.out.2.symm, hb⟩
  · by_cases hl : s.size ≤ 65536
    · have Hf := Lib.hid (quot_good hv)
      have Ha := Lib.hid (valid_all hv)
      go_enter Tryz.func17, Tryz.ntmps17
      go_wp2_with (go_at_call 44; refine (valid_any _ _ hs).mono ?_; rintro e w1 ⟨rfl, hb1⟩)
      have hI := Lib.IsBuilderF.of (Lib.fresh_isBuilder 70 5 w1)
      refine (quote_any w1.heap.size w1.heap.size [] s _ hI Ha.out (by omega) (by simp) (by simp)).mono ?_
      rintro e w2 ⟨rfl, h2, b2, k2⟩
      go_wp2_with fail
      have hsz := b2.size
      refine (Tryz.Builder_String_any_k w1.heap.size w1.heap.size _ _ h2 (by simp at hsz; omega)).mono ?_
      rintro e w3 ⟨rfl, h3, b3, k3⟩
      have hq : (ByteArray.mk ([] ++ quoL s.data.toList).toArray).size ≤ maxLen := by
        show ([] ++ quoL s.data.toList).length ≤ maxLen
        have h6 := quoM_len s.data.toList
        rw [← Lib.size_eq] at h6
        unfold maxLen quoL
        rw [List.nil_append, List.length_cons, List.length_append, List.length_cons, List.length_nil]
        omega
      go_wp2_with fail
      refine (fitting_any _ _ hq).mono ?_
      rintro e w' ⟨rfl, rfl⟩
      go_wp2_with fail
      go_ret2
      refine ⟨ret_se Hf.out.1.symm Hf.out.2.symm, ?_⟩
      exact (hb1.trans ((((Below.refl w1.heap.size w1).alloc (Nat.le_refl _) _).trans (b2.mono (Nat.le_refl _))).trans b3 |>.mono hb1.size))
    · have Hf := Lib.hid (quot_long hl hv)
      have hl' : (65536 : Int) < s.size := by omega
      go_enter Tryz.func17, Tryz.ntmps17
      go_wp2_with (go_at_call 44; refine (valid_any _ _ hs).mono ?_; rintro e w' ⟨rfl, hb⟩)
      go_ret2
      exact ⟨ret_se Hf.out.1.symm Hf.out.2.symm, hb⟩
end Go.Proofs.YtakdhfjlhkejdaaGreatDoor

/-
  CONTRACTS of package json's small functions: which code points are of a kind, how many bytes at the front of a text are, which texts are numbers. No conditions but the texts' sizes.
-/
namespace Go.Proofs.YtakdhfjlhkejdaaGreatDoor
open Go.RowKit

theorem isDigit_any (r : Int) (w : World) :
    Calls Tryz.prog 85 #[.int .i32 r] w fun e w' => e = .returned (.bool (pDigit r)) ∧ w = w' := by
  go_enter Tryz.func85, Tryz.ntmps85
  go_wp2
  all_goals go_ret
  all_goals exact ⟨ret_bool (by unfold pDigit; simp; try omega), rfl⟩
theorem isLetter_any (r : Int) (w : World) :
    Calls Tryz.prog 94 #[.int .i32 r] w fun e w' => e = .returned (.bool (pLetter r)) ∧ w = w' := by
  go_enter Tryz.func94, Tryz.ntmps94
  go_wp2
  all_goals go_ret
  all_goals exact ⟨ret_bool (by unfold pLetter; simp; try omega), rfl⟩
theorem isWhite_any (r : Int) (w : World) :
    Calls Tryz.prog 64 #[.int .i32 r] w fun e w' => e = .returned (.bool (pWhite r)) ∧ w = w' := by
  go_enter Tryz.func64, Tryz.ntmps64
  go_wp2
  all_goals go_ret
  all_goals exact ⟨ret_bool (by unfold pWhite; simp [*]), rfl⟩
theorem isPlain_any (r : Int) (w : World) :
    Calls Tryz.prog 125 #[.int .i32 r] w fun e w' => e = .returned (.bool (pPlain r)) ∧ w = w' := by
  go_enter Tryz.func125, Tryz.ntmps125
  go_wp2
  all_goals go_ret
  all_goals exact ⟨ret_bool (by unfold pPlain; simp [*]; try omega), rfl⟩
theorem isOfNumber_any (r : Int) (w : World) :
    Calls Tryz.prog 118 #[.int .i32 r] w fun e w' => e = .returned (.bool (pNum r)) ∧ w = w' := by
  cases hd : pDigit r
  all_goals
    go_enter Tryz.func118, Tryz.ntmps118
    go_wp2_with (go_at_call 85; refine (isDigit_any _ _).mono ?_; rintro e w' ⟨rfl, rfl⟩)
    all_goals go_ret
    all_goals exact ⟨ret_bool (by unfold pNum; simp [*]), rfl⟩

/-! ### Spans -/
theorem span_at {p : Int → Bool} (hp : Flat p) (s : ByteArray) (pos : Nat) (h : pos < s.size) :
    (p ((Utf8.decode s pos).1 : Nat) = false → spanL p (s.data.toList.drop pos) = 0) ∧
    (p ((Utf8.decode s pos).1 : Nat) = true → spanL p (s.data.toList.drop pos) = (Utf8.decode s pos).2 + spanL p (s.data.toList.drop (pos + (Utf8.decode s pos).2)) ∧ 1 ≤ (Utf8.decode s pos).2) := by
  rw [decode_eq]
  have hr := span_round hp (s.data.toList.drop pos) (drop_ne h)
  refine ⟨hr.1, fun hq => ?_⟩
  have := hr.2 hq
  rw [List.drop_drop] at this
  exact ⟨this.1, this.2.1⟩
def spanS (p : Int → Bool) (s : ByteArray) : Nat := spanL p s.data.toList
theorem spanS_le (p : Int → Bool) (s : ByteArray) : spanS p s ≤ s.size := by
  unfold spanS
  rw [Lib.size_eq]
  exact spanL_le p _
set_option maxHeartbeats 1000000 in
theorem span_digit (s : ByteArray) (w : World) (hs : s.size ≤ maxLen) :
    Calls Tryz.prog 84 #[.string s, .func (.func 85) #[] #[]] w fun e w' => e = .returned (.int .i64 (spanS pDigit s)) ∧ Below w.heap.size w w' := by
  have hs' := hs
  unfold maxLen at hs'
  go_enter Tryz.func84, Tryz.ntmps84
  go_wp2
  go_loopw [4] (fun r w' => ∃ pos : Nat, r = .int .i64 0 ∧ w' = w.iter s pos ∧ pos + spanL pDigit (s.data.toList.drop pos) = spanS pDigit s) (fun _ w' => s.size - w'.iterPos w.heap.size)
  case atStart => exact ⟨0, rfl, rfl, by rw [Nat.zero_add, List.drop_zero]; rfl⟩
  case round =>
    obtain ⟨pos, rfl, rfl, hc⟩ := hrel
    by_cases hlt : pos < s.size
    · have hnx : ∀ ty, (Instr.next (.pointer (some ⟨w.heap.size, 0, none⟩)) true ty).run Tryz.prog (w.iter s pos) = _ := fun ty => run_next_any w s pos ty hlt
      have hsp := span_at flat_digit s pos hlt
      cases hk : pDigit ((Utf8.decode s pos).1 : Nat)
      · have Hc := Lib.hid (show (pos : Int) = (spanS pDigit s : Nat) by rw [hsp.1 hk] at hc; omega)
        clear hc hsp
        go_wp2_with (go_at_call 85; refine (isDigit_any _ _).mono ?_; rintro e w' ⟨rfl, rfl⟩)
        go_ret
        exact ⟨ret_int Hc.out, (Below.refl _ _).alloc (Nat.le_refl _) _⟩
      · obtain ⟨h1, h2⟩ := hsp.2 hk
        have Hc := Lib.hid (show pos + (Utf8.decode s pos).2 + spanL pDigit (s.data.toList.drop (pos + (Utf8.decode s pos).2)) = spanS pDigit s by omega)
        clear hc hsp h1
        go_wp2_with (go_at_call 85; refine (isDigit_any _ _).mono ?_; rintro e w' ⟨rfl, rfl⟩)
        go_roundw
        case rel => exact ⟨_, rfl, rfl, Hc.out⟩
        case measure => simp; omega
    · have hnx : ∀ ty, (Instr.next (.pointer (some ⟨w.heap.size, 0, none⟩)) true ty).run Tryz.prog (w.iter s pos) = _ := fun ty => run_next_end w s pos ty hlt
      have hle := spanS_le pDigit s
      have Hc := Lib.hid (show (s.size : Int) = (spanS pDigit s : Nat) by rw [drop_end hlt] at hc; simp only [spanL] at hc; omega)
      clear hc hle
      go_wp2
      go_ret
      exact ⟨ret_int Hc.out, (Below.refl _ _).alloc (Nat.le_refl _) _⟩
set_option maxHeartbeats 1000000 in
theorem span_white (s : ByteArray) (w : World) (hs : s.size ≤ maxLen) :
    Calls Tryz.prog 84 #[.string s, .func (.func 64) #[] #[]] w fun e w' => e = .returned (.int .i64 (spanS pWhite s)) ∧ Below w.heap.size w w' := by
  have hs' := hs
  unfold maxLen at hs'
  go_enter Tryz.func84, Tryz.ntmps84
  go_wp2
  go_loopw [4] (fun r w' => ∃ pos : Nat, r = .int .i64 0 ∧ w' = w.iter s pos ∧ pos + spanL pWhite (s.data.toList.drop pos) = spanS pWhite s) (fun _ w' => s.size - w'.iterPos w.heap.size)
  case atStart => exact ⟨0, rfl, rfl, by rw [Nat.zero_add, List.drop_zero]; rfl⟩
  case round =>
    obtain ⟨pos, rfl, rfl, hc⟩ := hrel
    by_cases hlt : pos < s.size
    · have hnx : ∀ ty, (Instr.next (.pointer (some ⟨w.heap.size, 0, none⟩)) true ty).run Tryz.prog (w.iter s pos) = _ := fun ty => run_next_any w s pos ty hlt
      have hsp := span_at flat_white s pos hlt
      cases hk : pWhite ((Utf8.decode s pos).1 : Nat)
      · have Hc := Lib.hid (show (pos : Int) = (spanS pWhite s : Nat) by rw [hsp.1 hk] at hc; omega)
        clear hc hsp
        go_wp2_with (go_at_call 64; refine (isWhite_any _ _).mono ?_; rintro e w' ⟨rfl, rfl⟩)
        go_ret
        exact ⟨ret_int Hc.out, (Below.refl _ _).alloc (Nat.le_refl _) _⟩
      · obtain ⟨h1, h2⟩ := hsp.2 hk
        have Hc := Lib.hid (show pos + (Utf8.decode s pos).2 + spanL pWhite (s.data.toList.drop (pos + (Utf8.decode s pos).2)) = spanS pWhite s by omega)
        clear hc hsp h1
        go_wp2_with (go_at_call 64; refine (isWhite_any _ _).mono ?_; rintro e w' ⟨rfl, rfl⟩)
        go_roundw
        case rel => exact ⟨_, rfl, rfl, Hc.out⟩
        case measure => simp; omega
    · have hnx : ∀ ty, (Instr.next (.pointer (some ⟨w.heap.size, 0, none⟩)) true ty).run Tryz.prog (w.iter s pos) = _ := fun ty => run_next_end w s pos ty hlt
      have hle := spanS_le pWhite s
      have Hc := Lib.hid (show (s.size : Int) = (spanS pWhite s : Nat) by rw [drop_end hlt] at hc; simp only [spanL] at hc; omega)
      clear hc hle
      go_wp2
      go_ret
      exact ⟨ret_int Hc.out, (Below.refl _ _).alloc (Nat.le_refl _) _⟩
set_option maxHeartbeats 1000000 in
theorem span_letter (s : ByteArray) (w : World) (hs : s.size ≤ maxLen) :
    Calls Tryz.prog 84 #[.string s, .func (.func 94) #[] #[]] w fun e w' => e = .returned (.int .i64 (spanS pLetter s)) ∧ Below w.heap.size w w' := by
  have hs' := hs
  unfold maxLen at hs'
  go_enter Tryz.func84, Tryz.ntmps84
  go_wp2
  go_loopw [4] (fun r w' => ∃ pos : Nat, r = .int .i64 0 ∧ w' = w.iter s pos ∧ pos + spanL pLetter (s.data.toList.drop pos) = spanS pLetter s) (fun _ w' => s.size - w'.iterPos w.heap.size)
  case atStart => exact ⟨0, rfl, rfl, by rw [Nat.zero_add, List.drop_zero]; rfl⟩
  case round =>
    obtain ⟨pos, rfl, rfl, hc⟩ := hrel
    by_cases hlt : pos < s.size
    · have hnx : ∀ ty, (Instr.next (.pointer (some ⟨w.heap.size, 0, none⟩)) true ty).run Tryz.prog (w.iter s pos) = _ := fun ty => run_next_any w s pos ty hlt
      have hsp := span_at flat_letter s pos hlt
      cases hk : pLetter ((Utf8.decode s pos).1 : Nat)
      · have Hc := Lib.hid (show (pos : Int) = (spanS pLetter s : Nat) by rw [hsp.1 hk] at hc; omega)
        clear hc hsp
        go_wp2_with (go_at_call 94; refine (isLetter_any _ _).mono ?_; rintro e w' ⟨rfl, rfl⟩)
        go_ret
        exact ⟨ret_int Hc.out, (Below.refl _ _).alloc (Nat.le_refl _) _⟩
      · obtain ⟨h1, h2⟩ := hsp.2 hk
        have Hc := Lib.hid (show pos + (Utf8.decode s pos).2 + spanL pLetter (s.data.toList.drop (pos + (Utf8.decode s pos).2)) = spanS pLetter s by omega)
        clear hc hsp h1
        go_wp2_with (go_at_call 94; refine (isLetter_any _ _).mono ?_; rintro e w' ⟨rfl, rfl⟩)
        go_roundw
        case rel => exact ⟨_, rfl, rfl, Hc.out⟩
        case measure => simp; omega
    · have hnx : ∀ ty, (Instr.next (.pointer (some ⟨w.heap.size, 0, none⟩)) true ty).run Tryz.prog (w.iter s pos) = _ := fun ty => run_next_end w s pos ty hlt
      have hle := spanS_le pLetter s
      have Hc := Lib.hid (show (s.size : Int) = (spanS pLetter s : Nat) by rw [drop_end hlt] at hc; simp only [spanL] at hc; omega)
      clear hc hle
      go_wp2
      go_ret
      exact ⟨ret_int Hc.out, (Below.refl _ _).alloc (Nat.le_refl _) _⟩
set_option maxHeartbeats 1000000 in
theorem span_num (s : ByteArray) (w : World) (hs : s.size ≤ maxLen) :
    Calls Tryz.prog 84 #[.string s, .func (.func 118) #[] #[]] w fun e w' => e = .returned (.int .i64 (spanS pNum s)) ∧ Below w.heap.size w w' := by
  have hs' := hs
  unfold maxLen at hs'
  go_enter Tryz.func84, Tryz.ntmps84
  go_wp2
  go_loopw [4] (fun r w' => ∃ pos : Nat, r = .int .i64 0 ∧ w' = w.iter s pos ∧ pos + spanL pNum (s.data.toList.drop pos) = spanS pNum s) (fun _ w' => s.size - w'.iterPos w.heap.size)
  case atStart => exact ⟨0, rfl, rfl, by rw [Nat.zero_add, List.drop_zero]; rfl⟩
  case round =>
    obtain ⟨pos, rfl, rfl, hc⟩ := hrel
    by_cases hlt : pos < s.size
    · have hnx : ∀ ty, (Instr.next (.pointer (some ⟨w.heap.size, 0, none⟩)) true ty).run Tryz.prog (w.iter s pos) = _ := fun ty => run_next_any w s pos ty hlt
      have hsp := span_at flat_num s pos hlt
      cases hk : pNum ((Utf8.decode s pos).1 : Nat)
      · have Hc := Lib.hid (show (pos : Int) = (spanS pNum s : Nat) by rw [hsp.1 hk] at hc; omega)
        clear hc hsp
        go_wp2_with (go_at_call 118; refine (isOfNumber_any _ _).mono ?_; rintro e w' ⟨rfl, rfl⟩)
        go_ret
        exact ⟨ret_int Hc.out, (Below.refl _ _).alloc (Nat.le_refl _) _⟩
      · obtain ⟨h1, h2⟩ := hsp.2 hk
        have Hc := Lib.hid (show pos + (Utf8.decode s pos).2 + spanL pNum (s.data.toList.drop (pos + (Utf8.decode s pos).2)) = spanS pNum s by omega)
        clear hc hsp h1
        go_wp2_with (go_at_call 118; refine (isOfNumber_any _ _).mono ?_; rintro e w' ⟨rfl, rfl⟩)
        go_roundw
        case rel => exact ⟨_, rfl, rfl, Hc.out⟩
        case measure => simp; omega
    · have hnx : ∀ ty, (Instr.next (.pointer (some ⟨w.heap.size, 0, none⟩)) true ty).run Tryz.prog (w.iter s pos) = _ := fun ty => run_next_end w s pos ty hlt
      have hle := spanS_le pNum s
      have Hc := Lib.hid (show (s.size : Int) = (spanS pNum s : Nat) by rw [drop_end hlt] at hc; simp only [spanL] at hc; omega)
      clear hc hle
      go_wp2
      go_ret
      exact ⟨ret_int Hc.out, (Below.refl _ _).alloc (Nat.le_refl _) _⟩
set_option maxHeartbeats 1000000 in
theorem span_plain (s : ByteArray) (w : World) (hs : s.size ≤ maxLen) :
    Calls Tryz.prog 84 #[.string s, .func (.func 125) #[] #[]] w fun e w' => e = .returned (.int .i64 (spanS pPlain s)) ∧ Below w.heap.size w w' := by
  have hs' := hs
  unfold maxLen at hs'
  go_enter Tryz.func84, Tryz.ntmps84
  go_wp2
  go_loopw [4] (fun r w' => ∃ pos : Nat, r = .int .i64 0 ∧ w' = w.iter s pos ∧ pos + spanL pPlain (s.data.toList.drop pos) = spanS pPlain s) (fun _ w' => s.size - w'.iterPos w.heap.size)
  case atStart => exact ⟨0, rfl, rfl, by rw [Nat.zero_add, List.drop_zero]; rfl⟩
  case round =>
    obtain ⟨pos, rfl, rfl, hc⟩ := hrel
    by_cases hlt : pos < s.size
    · have hnx : ∀ ty, (Instr.next (.pointer (some ⟨w.heap.size, 0, none⟩)) true ty).run Tryz.prog (w.iter s pos) = _ := fun ty => run_next_any w s pos ty hlt
      have hsp := span_at flat_plain s pos hlt
      cases hk : pPlain ((Utf8.decode s pos).1 : Nat)
      · have Hc := Lib.hid (show (pos : Int) = (spanS pPlain s : Nat) by rw [hsp.1 hk] at hc; omega)
        clear hc hsp
        go_wp2_with (go_at_call 125; refine (isPlain_any _ _).mono ?_; rintro e w' ⟨rfl, rfl⟩)
        go_ret
        exact ⟨ret_int Hc.out, (Below.refl _ _).alloc (Nat.le_refl _) _⟩
      · obtain ⟨h1, h2⟩ := hsp.2 hk
        have Hc := Lib.hid (show pos + (Utf8.decode s pos).2 + spanL pPlain (s.data.toList.drop (pos + (Utf8.decode s pos).2)) = spanS pPlain s by omega)
        clear hc hsp h1
        go_wp2_with (go_at_call 125; refine (isPlain_any _ _).mono ?_; rintro e w' ⟨rfl, rfl⟩)
        go_roundw
        case rel => exact ⟨_, rfl, rfl, Hc.out⟩
        case measure => simp; omega
    · have hnx : ∀ ty, (Instr.next (.pointer (some ⟨w.heap.size, 0, none⟩)) true ty).run Tryz.prog (w.iter s pos) = _ := fun ty => run_next_end w s pos ty hlt
      have hle := spanS_le pPlain s
      have Hc := Lib.hid (show (s.size : Int) = (spanS pPlain s : Nat) by rw [drop_end hlt] at hc; simp only [spanL] at hc; omega)
      clear hc hle
      go_wp2
      go_ret
      exact ⟨ret_int Hc.out, (Below.refl _ _).alloc (Nat.le_refl _) _⟩
end Go.Proofs.YtakdhfjlhkejdaaGreatDoor

/-
  CONTRACTS of package json's isNumber and isExponent, and of the library's prefixes: what each answers of any text, and that the world is as it was but for new blocks. No conditions but the texts' sizes.
-/
namespace Go.Proofs.YtakdhfjlhkejdaaGreatDoor
open Go.RowKit
set_option linter.unusedVariables false

/-! ### The library's prefixes -/
def preB (s q : ByteArray) : Bool := Lib.hasPrefix s.data.toList q.data.toList
theorem sliteHas_any (s q : ByteArray) (w : World) (hs : s.size ≤ maxLen) (hq : q.size ≤ maxLen) :
    Calls Tryz.prog 133 #[.string s, .string q] w fun e w' => e = .returned (.bool (preB s q)) ∧ w = w' := by
  unfold maxLen at hs hq
  have h := Lib.hid (Lib.hasPrefix_raw s q)
  go_enter Tryz.func133, Tryz.ntmps133
  go_wp2
  · have h1 : q.size ≤ s.size := by assumption
    go_ret
    exact ⟨ret_bool (by unfold preB; rw [← h.out, decide_eq_true h1]; rfl), rfl⟩
  · have h1 : ¬ q.size ≤ s.size := by assumption
    go_ret
    exact ⟨ret_bool (by unfold preB; rw [← h.out, decide_eq_false h1]; rfl), rfl⟩
def behS (s q : ByteArray) : ByteArray := if preB s q then s.extract q.size s.size else s
theorem preB_le {s q : ByteArray} (h : preB s q = true) : q.size ≤ s.size := by
  unfold preB at h
  rw [← Lib.hasPrefix_raw] at h
  simp only [Bool.and_eq_true, decide_eq_true_eq] at h
  exact h.1
theorem trimPrefix_any (s q : ByteArray) (w : World) (hs : s.size ≤ maxLen) (hq : q.size ≤ maxLen) :
    Calls Tryz.prog 83 #[.string s, .string q] w fun e w' => e = .returned (.string (behS s q)) ∧ w = w' := by
  have hs' := hs
  unfold maxLen at hs'
  cases hb : preB s q
  · go_enter Tryz.func83, Tryz.ntmps83
    go_wp2_with (first | (go_at_call 110; go_in) | (go_at_call 133; refine (sliteHas_any _ _ _ hs hq).mono ?_; rintro e w' ⟨rfl, rfl⟩))
    go_ret
    exact ⟨ret_str (by unfold behS; rw [hb]; rfl), rfl⟩
  · have hle := preB_le hb
    go_enter Tryz.func83, Tryz.ntmps83
    go_wp2_with (first | (go_at_call 110; go_in) | (go_at_call 133; refine (sliteHas_any _ _ _ hs hq).mono ?_; rintro e w' ⟨rfl, rfl⟩))
    go_ret
    exact ⟨ret_str (by unfold behS; rw [hb]; rfl), rfl⟩
theorem cutPrefix_any (s q : ByteArray) (w : World) (hs : s.size ≤ maxLen) (hq : q.size ≤ maxLen) :
    Calls Tryz.prog 86 #[.string s, .string q] w fun e w' => e = .returned (.tuple #[.string (behS s q), .bool (preB s q)]) ∧ w = w' := by
  have hs' := hs
  unfold maxLen at hs'
  cases hb : preB s q
  · go_enter Tryz.func86, Tryz.ntmps86
    go_wp2_with (first | (go_at_call 111; go_in) | (go_at_call 133; refine (sliteHas_any _ _ _ hs hq).mono ?_; rintro e w' ⟨rfl, rfl⟩))
    go_ret2
    exact ⟨by unfold behS; rw [hb]; rfl, rfl⟩
  · have hle := preB_le hb
    go_enter Tryz.func86, Tryz.ntmps86
    go_wp2_with (first | (go_at_call 111; go_in) | (go_at_call 133; refine (sliteHas_any _ _ _ hs hq).mono ?_; rintro e w' ⟨rfl, rfl⟩))
    go_ret2
    exact ⟨by unfold behS; rw [hb]; rfl, rfl⟩

/-! ### isExponent -/
theorem byte_is {b c : UInt8} {k : Int} (h : b = c) (hk : ((c.toNat : Nat) : Int) = k) : (((b.toNat : Nat) : Int) == k) = true ∧ (((b.toNat : Nat) : Int) != k) = false := by
  rw [h, hk]
  simp
theorem byte_not {b c : UInt8} {k : Int} (h : b ≠ c) (hk : ((c.toNat : Nat) : Int) = k) : (((b.toNat : Nat) : Int) == k) = false ∧ (((b.toNat : Nat) : Int) != k) = true := by
  have e : b.toNat ≠ c.toNat := fun e => h (toNat_inj e)
  have e' : ((b.toNat : Nat) : Int) ≠ k := by omega
  simp [e']
theorem cons_at (s : ByteArray) (h : 0 < s.size) : s.data.toList = s[0] :: (s.extract 1 s.size).data.toList := by
  rw [from_data]
  have := List.drop_eq_getElem_cons (l := s.data.toList) (i := 0) (by rw [← Lib.size_eq]; exact h)
  rw [List.drop_zero] at this
  exact this
theorem from1_size (s : ByteArray) : (s.extract 1 s.size).size = s.size - 1 := by
  rw [Lib.size_eq, from_data, List.length_drop, ← Lib.size_eq]
theorem toL_nil {s : ByteArray} (h : ¬ 0 < s.size) : s.toList = [] ∧ s.data.toList = [] := by
  have : s.data.toList = [] := List.eq_nil_of_length_eq_zero (by rw [← Lib.size_eq]; omega)
  exact ⟨by rw [Lib.toList_data]; exact this, this⟩
theorem toL_ne {s : ByteArray} (h : 0 < s.size) : (!s.toList.isEmpty) = true ∧ s.toList.isEmpty = false ∧ s.data.toList ≠ [] := by
  have : s.data.toList ≠ [] := by
    intro e
    have := congrArg List.length e
    rw [← Lib.size_eq] at this
    simp only [List.length_nil] at this
    omega
  rw [Lib.toList_data]
  cases hl : s.data.toList with
  | nil => exact absurd hl this
  | cons a t => simp
theorem expL_no {c : UInt8} {t : List UInt8} (h1 : c ≠ 101) (h2 : c ≠ 69) : expL (c :: t) = false := by
  unfold expL
  simp [h1, h2]
theorem expL_end (c : UInt8) : expL [c] = false := by
  unfold expL
  simp
theorem expL_sign {c d : UInt8} {u : List UInt8} (h : c = 101 ∨ c = 69) (k : d = 43 ∨ d = 45) : expL (c :: d :: u) = (u != [] && spanL pDigit u == u.length) := by
  unfold expL
  rcases h with rfl | rfl <;> rcases k with rfl | rfl <;> rfl
theorem expL_plain {c d : UInt8} {u : List UInt8} (h : c = 101 ∨ c = 69) (k1 : d ≠ 43) (k2 : d ≠ 45) : expL (c :: d :: u) = (spanL pDigit (d :: u) == (d :: u).length) := by
  unfold expL
  rcases h with rfl | rfl <;> simp [k1, k2]
theorem span_is (p : Int → Bool) (s : ByteArray) : (((spanS p s : Nat) : Int) == (s.size : Nat)) = (spanL p s.data.toList == s.data.toList.length) := by
  unfold spanS
  rw [Lib.size_eq]
  by_cases h : spanL p s.data.toList = s.data.toList.length
  · rw [h]; simp
  · rw [beq_eq_false_iff_ne.2 h, beq_eq_false_iff_ne.2 (by omega)]

def expS (s : ByteArray) : Bool := expL s.data.toList
set_option maxHeartbeats 2000000 in
theorem isExponent_any (s : ByteArray) (w : World) (hs : s.size ≤ maxLen) (h0 : 0 < s.size) :
    Calls Tryz.prog 87 #[.string s] w fun e w' => e = .returned (.bool (expS s)) ∧ Below w.heap.size w w' := by
  have hs' := hs
  unfold maxLen at hs'
  have z1 := from1_size s
  have Hc := Lib.hid (cons_at s h0)
  by_cases hc : s[0] = 101 ∨ s[0] = 69
  · by_cases h1 : 0 < s.size - 1
    · have hm1 : (s.extract 1 s.size).size ≤ maxLen := from_size hs
      have h11 : 0 < (s.extract 1 s.size).size := by omega
      obtain ⟨n1, n2, n3⟩ := toL_ne h11
      clear n3
      have Hd := Lib.hid (cons_at (s.extract 1 s.size) h11)
      have hm2 : ((s.extract 1 s.size).extract 1 (s.size - 1)).size ≤ maxLen := by
        have := from_size (pos := 1) hm1
        rw [z1] at this
        exact this
      have Hu : Hid (((s.extract 1 s.size).extract 1 (s.extract 1 s.size).size).data.toList = ((s.extract 1 s.size).extract 1 (s.size - 1)).data.toList) := by
        rw [z1]
        exact rfl
      by_cases hd : (s.extract 1 s.size)[0] = 43 ∨ (s.extract 1 s.size)[0] = 45
      · have He := Lib.hid (expL_sign (u := ((s.extract 1 s.size).extract 1 (s.extract 1 s.size).size).data.toList) hc hd)
        rw [← Hd.out, ← Hc.out, Hu.out] at He
        clear Hc Hd
        by_cases h2 : 0 < ((s.extract 1 s.size).extract 1 (s.size - 1)).size
        · obtain ⟨m1, m2, m3⟩ := toL_ne h2
          have z2 : ((s.extract 1 s.size).extract 1 (s.size - 1)).size = s.size - 1 - 1 := by
            have := from1_size (s.extract 1 s.size)
            rw [z1] at this
            exact this
          have Hsp := Lib.hid (span_is pDigit ((s.extract 1 s.size).extract 1 (s.size - 1)))
          have Hf : Hid (((((spanS pDigit ((s.extract 1 s.size).extract 1 (s.size - 1)) : Nat) : Int) == ((s.size - 1 - 1 : Nat) : Int))) = expL s.data.toList) := by
            rw [He.out, bne_iff_ne.2 m3, Bool.true_and, ← Hsp.out, z2]
            exact rfl
          clear z2
          clear m3 He Hsp
          rcases hc with hc | hc <;> rcases hd with hd | hd
          all_goals
            first | obtain ⟨b1, b2⟩ := byte_is (k := 101) hc rfl | (obtain ⟨b1, b2⟩ := byte_is (k := 69) hc rfl; obtain ⟨b3, b4⟩ := byte_not (k := 101) (show s[0] ≠ 101 by rw [hc]; decide) rfl)
            first | obtain ⟨d1, d2⟩ := byte_is (k := 43) hd rfl | (obtain ⟨d1, d2⟩ := byte_is (k := 45) hd rfl; obtain ⟨d3, d4⟩ := byte_not (k := 43) (show (s.extract 1 s.size)[0] ≠ 43 by rw [hd]; decide) rfl)
            clear hc hd
            go_enter Tryz.func87, Tryz.ntmps87
            go_wp2_with (go_at_call 84; refine (span_digit _ _ hm2).mono ?_; rintro e w' ⟨rfl, hb⟩)
            go_ret
            exact ⟨ret_bool Hf.out, hb⟩
        · have hm := toL_nil h2
          have Hf : Hid (false = expL s.data.toList) := by
            rw [He.out, hm.2]
            exact rfl
          have hm := hm.1
          clear He
          rcases hc with hc | hc <;> rcases hd with hd | hd
          all_goals
            first | obtain ⟨b1, b2⟩ := byte_is (k := 101) hc rfl | (obtain ⟨b1, b2⟩ := byte_is (k := 69) hc rfl; obtain ⟨b3, b4⟩ := byte_not (k := 101) (show s[0] ≠ 101 by rw [hc]; decide) rfl)
            first | obtain ⟨d1, d2⟩ := byte_is (k := 43) hd rfl | (obtain ⟨d1, d2⟩ := byte_is (k := 45) hd rfl; obtain ⟨d3, d4⟩ := byte_not (k := 43) (show (s.extract 1 s.size)[0] ≠ 43 by rw [hd]; decide) rfl)
            clear hc hd
            go_enter Tryz.func87, Tryz.ntmps87
            go_wp2_with fail
            go_ret
            exact ⟨ret_bool Hf.out, Below.refl _ _⟩
      · have hd1 : (s.extract 1 s.size)[0] ≠ 43 := fun e => hd (.inl e)
        have hd2 : (s.extract 1 s.size)[0] ≠ 45 := fun e => hd (.inr e)
        have He := Lib.hid (expL_plain (u := ((s.extract 1 s.size).extract 1 (s.extract 1 s.size).size).data.toList) hc hd1 hd2)
        rw [← Hd.out, ← Hc.out] at He
        have Hsp := Lib.hid (span_is pDigit (s.extract 1 s.size))
        have Hf : Hid (((((spanS pDigit (s.extract 1 s.size) : Nat) : Int) == ((s.size - 1 : Nat) : Int))) = expL s.data.toList) := by
          rw [He.out, ← Hsp.out, z1]
          exact rfl
        obtain ⟨d1, d2⟩ := byte_not (k := 43) hd1 rfl
        obtain ⟨d3, d4⟩ := byte_not (k := 45) hd2 rfl
        clear Hc Hd He Hsp hd hd1 hd2 Hu
        rcases hc with hc | hc
        all_goals
          first | obtain ⟨b1, b2⟩ := byte_is (k := 101) hc rfl | (obtain ⟨b1, b2⟩ := byte_is (k := 69) hc rfl; obtain ⟨b3, b4⟩ := byte_not (k := 101) (show s[0] ≠ 101 by rw [hc]; decide) rfl)
          clear hc
          go_enter Tryz.func87, Tryz.ntmps87
          go_wp2_with (go_at_call 84; refine (span_digit _ _ hm1).mono ?_; rintro e w' ⟨rfl, hb⟩)
          go_ret
          exact ⟨ret_bool Hf.out, hb⟩
    · have hn := (toL_nil (s := s.extract 1 s.size) (by omega))
      have Hn := Lib.hid hn.2
      have hn := hn.1
      have He : Hid (false = expL s.data.toList) := by rw [Hc.out, Hn.out, expL_end]; exact rfl
      rcases hc with hc | hc
      · obtain ⟨b1, b2⟩ := byte_is (k := 101) hc rfl
        clear hc
        go_enter Tryz.func87, Tryz.ntmps87
        go_wp2_with fail
        go_ret
        exact ⟨ret_bool He.out, Below.refl _ _⟩
      · obtain ⟨b1, b2⟩ := byte_is (k := 69) hc rfl
        obtain ⟨b3, b4⟩ := byte_not (k := 101) (show s[0] ≠ 101 by rw [hc]; decide) rfl
        clear hc
        go_enter Tryz.func87, Tryz.ntmps87
        go_wp2_with fail
        go_ret
        exact ⟨ret_bool He.out, Below.refl _ _⟩
  · have hc1 : s[0] ≠ 101 := fun e => hc (.inl e)
    have hc2 : s[0] ≠ 69 := fun e => hc (.inr e)
    obtain ⟨b1, b2⟩ := byte_not (k := 101) hc1 rfl
    obtain ⟨b3, b4⟩ := byte_not (k := 69) hc2 rfl
    have He : Hid (false = expL s.data.toList) := by rw [Hc.out, expL_no hc1 hc2]; exact rfl
    clear hc hc1 hc2
    go_enter Tryz.func87, Tryz.ntmps87
    go_wp2_with fail
    go_ret
    exact ⟨ret_bool He.out, Below.refl _ _⟩
/-! ### isNumber -/
theorem behS_sign (s : ByteArray) : (behS s ⟨#[45]⟩).data.toList = signL s.data.toList := by
  unfold behS preB Lib.hasPrefix
  cases hl : s.data.toList with
  | nil =>
    rw [if_neg (by decide), hl]
    rfl
  | cons c t =>
    by_cases hc : c = 45
    · have e : List.isPrefixOf (ByteArray.mk #[45]).data.toList (c :: t) = true := by rw [hc]; rfl
      rw [if_pos e, from_data, hl, hc]
      rfl
    · have e : ¬ List.isPrefixOf (ByteArray.mk #[45]).data.toList (c :: t) = true := by
        simp [List.isPrefixOf]
        intro h
        exact absurd h.symm hc
      rw [if_neg e, hl]
      unfold signL
      split
      · rename_i h; injection h with h1 h2; exact absurd h1 hc
      · rfl
theorem preB_dot (s : ByteArray) : preB s ⟨#[46]⟩ = (s.data.toList.head? == some 46) := by
  unfold preB Lib.hasPrefix
  cases hl : s.data.toList with
  | nil => rfl
  | cons c t =>
    by_cases hc : c = 46
    · rw [hc]; rfl
    · have e : List.isPrefixOf (ByteArray.mk #[46]).data.toList (c :: t) = false := by
        simp [List.isPrefixOf]
        intro h
        exact absurd h.symm hc
      rw [e]
      simp [hc]
/-- what is behind a number's digits -/
def restB (s : ByteArray) : Bool := s.data.toList.isEmpty || expL s.data.toList
theorem frac_dot {s : ByteArray} (h : preB s ⟨#[46]⟩ = true) : fracL s.data.toList = if spanS pDigit (s.extract 1 s.size) = 0 then false else restB ((s.extract 1 s.size).extract (spanS pDigit (s.extract 1 s.size)) (s.extract 1 s.size).size) := by
  rw [preB_dot] at h
  unfold restB spanS
  simp only [from_data]
  cases hl : s.data.toList with
  | nil => rw [hl] at h; cases h
  | cons c t =>
    rw [hl] at h
    simp at h
    rw [h]
    rfl
theorem frac_no {s : ByteArray} (h : preB s ⟨#[46]⟩ = false) : fracL s.data.toList = restB s := by
  rw [preB_dot] at h
  unfold restB
  cases hl : s.data.toList with
  | nil => rfl
  | cons c t =>
    rw [hl] at h
    simp at h
    unfold fracL
    split
    · rename_i hh; injection hh with h1 h2; exact absurd h1 h
    · rfl
def numS (s : ByteArray) : Bool := numL s.data.toList
theorem num_none {s s1 : ByteArray} (e : s1 = behS s ⟨#[45]⟩) (h : spanS pDigit s1 = 0) : false = numS s := by
  unfold numS numL
  rw [← behS_sign, ← e, if_pos (.inl h)]
theorem num_zero {s s1 : ByteArray} (e : s1 = behS s ⟨#[45]⟩) (h : 1 < spanS pDigit s1) (h0 : 0 < s1.size) (hz : s1[0] = 48) : false = numS s := by
  unfold numS numL
  rw [← behS_sign, ← e, if_pos (.inr ⟨h, by rw [cons_at s1 h0, hz]; rfl⟩)]
theorem num_rest {s s1 : ByteArray} (e : s1 = behS s ⟨#[45]⟩) (h : spanS pDigit s1 ≠ 0) (h0 : 0 < s1.size) (hz : ¬ (1 < spanS pDigit s1 ∧ s1[0] = 48)) : fracL (s1.extract (spanS pDigit s1) s1.size).data.toList = numS s := by
  unfold numS numL
  rw [← behS_sign, ← e, if_neg, from_data]
  · rfl
  · rintro (k | ⟨k, k2⟩)
    · exact h k
    · rw [cons_at s1 h0] at k2
      exact hz ⟨k, by injection k2⟩

set_option maxHeartbeats 2000000 in
theorem isNumber_any (s : ByteArray) (w : World) (hs : s.size ≤ maxLen) :
    Calls Tryz.prog 53 #[.string s] w fun e w' => e = .returned (.bool (numS s)) ∧ Below w.heap.size w w' := by
  have hs' := hs
  unfold maxLen at hs'
  have acc : Below w.heap.size w w := Below.refl _ _
  have q1 : (ByteArray.mk #[45]).size ≤ maxLen := by unfold maxLen; decide
  have q2 : (ByteArray.mk #[46]).size ≤ maxLen := by unfold maxLen; decide
  obtain ⟨s1, e1⟩ : ∃ s1, s1 = behS s ⟨#[45]⟩ := ⟨_, rfl⟩
  have hs1 : s1.size ≤ maxLen := by
    rw [e1]
    unfold behS
    split
    · exact from_size hs
    · exact hs
  obtain ⟨n, en⟩ : ∃ n, n = spanS pDigit s1 := ⟨_, rfl⟩
  have hn1 : n ≤ s1.size := by rw [en]; exact spanS_le _ _
  have hs1' := hs1
  unfold maxLen at hs1'
  have E1 := Lib.hid e1
  have En := Lib.hid en
  by_cases hn0 : n = 0
  · have Hf := Lib.hid (num_none e1 (by rw [← en]; exact hn0))
    have t0 : ((n : Int) == 0) = true := by simp [hn0]
    clear e1 en hn0
    go_enter Tryz.func53, Tryz.ntmps53
    go_wp2_with fail
    refine (trimPrefix_any _ _ _ hs q1).mono ?_
    rintro e w' ⟨rfl, rfl⟩
    rw [← E1.out]
    go_wp2_with fail
    refine (span_digit _ _ hs1).mono ?_
    rintro e w' ⟨rfl, hb⟩
    rw [← En.out]
    go_wp2_with fail
    go_ret
    exact ⟨ret_bool Hf.out, hb⟩
  · have t0 : ((n : Int) == 0) = false := by rw [beq_eq_false_iff_ne]; omega
    have h1 : 0 < s1.size := by omega
    by_cases hz : 1 < n ∧ s1[0] = 48
    · obtain ⟨hz1, hz2⟩ := hz
      have Hf := Lib.hid (num_zero e1 (by rw [← en]; exact hz1) h1 hz2)
      obtain ⟨b1, b2⟩ := byte_is (k := 48) hz2 rfl
      have t1 : decide ((1 : Int) < (n : Int)) = true := decide_eq_true (by omega)
      clear e1 en hn0 hz2
      go_enter Tryz.func53, Tryz.ntmps53
      go_wp2_with fail
      refine (trimPrefix_any _ _ _ hs q1).mono ?_
      rintro e w' ⟨rfl, rfl⟩
      rw [← E1.out]
      go_wp2_with fail
      refine (span_digit _ _ hs1).mono ?_
      rintro e w' ⟨rfl, hb⟩
      rw [← En.out]
      go_wp2_with fail
      go_ret
      exact ⟨ret_bool Hf.out, hb⟩
    · have Hr := Lib.hid (num_rest e1 (by rw [← en]; exact hn0) h1 (by rw [← en]; exact hz))
      rw [← en] at Hr
      obtain ⟨s2, e2⟩ : ∃ s2, s2 = s1.extract n s1.size := ⟨_, rfl⟩
      have hs2 : s2.size ≤ maxLen := by rw [e2]; exact from_size hs1
      rw [← e2] at Hr
      have E2 := Lib.hid e2
      have hall : (1 < n ∧ decide ((1 : Int) < (n : Int)) = true ∧ (((s1[0].toNat : Nat) : Int) == 48) = false) ∨ (¬ 1 < n ∧ decide ((1 : Int) < (n : Int)) = false) := by
        by_cases h : 1 < n
        · exact .inl ⟨h, decide_eq_true (by omega), (byte_not (k := 48) (fun e => hz ⟨h, e⟩) rfl).1⟩
        · exact .inr ⟨h, decide_eq_false (by omega)⟩
      clear e1 en e2 hn0 hz
      cases hp : preB s2 ⟨#[46]⟩
      · have Hf : Hid (restB s2 = numS s) := by rw [← Hr.out, frac_no hp]; exact rfl
        have hbe : behS s2 ⟨#[46]⟩ = s2 := by unfold behS; rw [hp]; rfl
        have Hbe := Lib.hid hbe
        clear Hr hbe
        by_cases h3 : 0 < s2.size
        · obtain ⟨m1, m2, m3⟩ := toL_ne h3
          have Hg : Hid (expL s2.data.toList = numS s) := by
            rw [← Hf.out]
            unfold restB
            cases hl : s2.data.toList with
            | nil => exact absurd hl m3
            | cons c t => exact rfl
          clear Hf m3
          rcases hall with ⟨k1, k2, k3⟩ | ⟨k1, k2⟩
          all_goals
            go_enter Tryz.func53, Tryz.ntmps53
            go_wp2_with fail
            refine (trimPrefix_any _ _ _ hs q1).mono ?_
            rintro e w' ⟨rfl, rfl⟩
            rw [← E1.out]
            go_wp2_with fail
            refine (span_digit _ _ hs1).mono ?_
            rintro e w1 ⟨rfl, hb1⟩
            rw [← En.out]
            go_wp2_with fail
            rw [← E2.out]
            refine (cutPrefix_any _ _ _ hs2 q2).mono ?_
            rintro e w' ⟨rfl, rfl⟩
            rw [Hbe.out]
            go_wp2_with (go_at_call 87; refine (isExponent_any _ _ hs2 h3).mono ?_; rintro e w2 ⟨rfl, hb2⟩)
            go_ret
            exact ⟨ret_bool Hg.out, hb1.trans (hb2.mono hb1.size)⟩
        · obtain ⟨m1, m2⟩ := toL_nil h3
          have Hg : Hid (true = numS s) := by
            rw [← Hf.out]
            unfold restB
            rw [m2]
            exact rfl
          clear Hf m2
          rcases hall with ⟨k1, k2, k3⟩ | ⟨k1, k2⟩
          all_goals
            go_enter Tryz.func53, Tryz.ntmps53
            go_wp2_with fail
            refine (trimPrefix_any _ _ _ hs q1).mono ?_
            rintro e w' ⟨rfl, rfl⟩
            rw [← E1.out]
            go_wp2_with fail
            refine (span_digit _ _ hs1).mono ?_
            rintro e w1 ⟨rfl, hb1⟩
            rw [← En.out]
            go_wp2_with fail
            rw [← E2.out]
            refine (cutPrefix_any _ _ _ hs2 q2).mono ?_
            rintro e w' ⟨rfl, rfl⟩
            rw [Hbe.out]
            go_wp2_with fail
            go_ret
            exact ⟨ret_bool Hg.out, hb1⟩
      · obtain ⟨f, ef⟩ : ∃ f, f = s2.extract 1 s2.size := ⟨_, rfl⟩
        have hsf : f.size ≤ maxLen := by rw [ef]; exact from_size hs2
        have hfr := frac_dot hp
        rw [← ef, Hr.out] at hfr
        have hbe : behS s2 ⟨#[46]⟩ = f := by unfold behS; rw [hp, ef]; rfl
        have Hbe := Lib.hid hbe
        obtain ⟨m, em⟩ : ∃ m, m = spanS pDigit f := ⟨_, rfl⟩
        have hm1 : m ≤ f.size := by rw [em]; exact spanS_le _ _
        rw [← em] at hfr
        have Em := Lib.hid em
        have hsf' := hsf
        unfold maxLen at hsf'
        clear ef hbe em Hr
        by_cases hm0 : m = 0
        · have Hg : Hid (false = numS s) := by rw [hfr, if_pos hm0]; exact rfl
          have t1 : ((m : Int) == 0) = true := by simp [hm0]
          clear hfr hm0
          rcases hall with ⟨k1, k2, k3⟩ | ⟨k1, k2⟩
          all_goals
            go_enter Tryz.func53, Tryz.ntmps53
            go_wp2_with fail
            refine (trimPrefix_any _ _ _ hs q1).mono ?_
            rintro e w' ⟨rfl, rfl⟩
            rw [← E1.out]
            go_wp2_with fail
            refine (span_digit _ _ hs1).mono ?_
            rintro e w1 ⟨rfl, hb1⟩
            rw [← En.out]
            go_wp2_with fail
            rw [← E2.out]
            refine (cutPrefix_any _ _ _ hs2 q2).mono ?_
            rintro e w' ⟨rfl, rfl⟩
            rw [Hbe.out]
            go_wp2_with fail
            refine (span_digit _ _ hsf).mono ?_
            rintro e w2 ⟨rfl, hb2⟩
            rw [← Em.out]
            go_wp2_with fail
            go_ret
            exact ⟨ret_bool Hg.out, hb1.trans (hb2.mono hb1.size)⟩
        · have t1 : ((m : Int) == 0) = false := by rw [beq_eq_false_iff_ne]; omega
          have Hf : Hid (restB (f.extract m f.size) = numS s) := by rw [hfr, if_neg hm0]; exact rfl
          have hs3 : (f.extract m f.size).size ≤ maxLen := from_size hsf
          clear hfr hm0
          by_cases h3 : 0 < (f.extract m f.size).size
          · obtain ⟨m1, m2, m3⟩ := toL_ne h3
            have Hg : Hid (expL (f.extract m f.size).data.toList = numS s) := by
              rw [← Hf.out]
              unfold restB
              cases hl : (f.extract m f.size).data.toList with
              | nil => exact absurd hl m3
              | cons c t => exact rfl
            clear Hf m3
            rcases hall with ⟨k1, k2, k3⟩ | ⟨k1, k2⟩
            all_goals
              go_enter Tryz.func53, Tryz.ntmps53
              go_wp2_with fail
              refine (trimPrefix_any _ _ _ hs q1).mono ?_
              rintro e w' ⟨rfl, rfl⟩
              rw [← E1.out]
              go_wp2_with fail
              refine (span_digit _ _ hs1).mono ?_
              rintro e w1 ⟨rfl, hb1⟩
              rw [← En.out]
              go_wp2_with fail
              rw [← E2.out]
              refine (cutPrefix_any _ _ _ hs2 q2).mono ?_
              rintro e w' ⟨rfl, rfl⟩
              rw [Hbe.out]
              go_wp2_with fail
              refine (span_digit _ _ hsf).mono ?_
              rintro e w2 ⟨rfl, hb2⟩
              rw [← Em.out]
              go_wp2_with (go_at_call 87; refine (isExponent_any _ _ hs3 h3).mono ?_; rintro e w3 ⟨rfl, hb3⟩)
              go_ret
              exact ⟨ret_bool Hg.out, (hb1.trans (hb2.mono hb1.size)).trans (hb3.mono (Nat.le_trans hb1.size hb2.size))⟩
          · obtain ⟨m1, m2⟩ := toL_nil h3
            have Hg : Hid (true = numS s) := by
              rw [← Hf.out]
              unfold restB
              rw [m2]
              exact rfl
            clear Hf m2
            rcases hall with ⟨k1, k2, k3⟩ | ⟨k1, k2⟩
            all_goals
              go_enter Tryz.func53, Tryz.ntmps53
              go_wp2_with fail
              refine (trimPrefix_any _ _ _ hs q1).mono ?_
              rintro e w' ⟨rfl, rfl⟩
              rw [← E1.out]
              go_wp2_with fail
              refine (span_digit _ _ hs1).mono ?_
              rintro e w1 ⟨rfl, hb1⟩
              rw [← En.out]
              go_wp2_with fail
              rw [← E2.out]
              refine (cutPrefix_any _ _ _ hs2 q2).mono ?_
              rintro e w' ⟨rfl, rfl⟩
              rw [Hbe.out]
              go_wp2_with fail
              refine (span_digit _ _ hsf).mono ?_
              rintro e w2 ⟨rfl, hb2⟩
              rw [← Em.out]
              go_wp2_with fail
              go_ret
              exact ⟨ret_bool Hg.out, hb1.trans (hb2.mono hb1.size)⟩
end Go.Proofs.YtakdhfjlhkejdaaGreatDoor

/-
  JSON's values IN MEMORY: what a struct's four cells say of a value, from a block on; that it stays said where the cells stay. CONTRACTS of package json's functions on one value alone: formed, hasList, letters, encoded.
-/
set_option linter.unusedVariables false
namespace Go.Proofs.YtakdhfjlhkejdaaGreatDoor
open Go.RowKit

/-- a slice of texts -/
def IsKeys (w : World) (lo : Nat) (ks : List ByteArray) (c : Value) : Prop :=
  ∃ a cap, c = .slice a ks.length cap ∧ (ks = [] ∨ ∃ b off, a = some ⟨b, off, none⟩ ∧ lo ≤ b ∧ ∀ j, j < ks.length → w.cell? ⟨b, off + j, none⟩ = some (.string (ks.getD j ByteArray.empty)))
mutual
/-- four cells that are a value -/
def IsV (w : World) (lo : Nat) : JV → Value → Value → Value → Value → Prop
  | .mk k t ks l, c0, c1, c2, c3 => c0 = .int .u8 (k : Nat) ∧ c1 = .string t ∧ IsKeys w lo ks c2 ∧ ∃ a cap, c3 = .slice a l.length cap ∧ (l = [] ∨ ∃ b off, a = some ⟨b, off, none⟩ ∧ lo ≤ b ∧ IsRow w lo l b off)
/-- values in a row, four cells each -/
def IsRow (w : World) (lo : Nat) : List JV → Nat → Nat → Prop
  | [], _, _ => True
  | v :: t, b, off => (∃ c0 c1 c2 c3, w.cell? ⟨b, off, none⟩ = some c0 ∧ w.cell? ⟨b, off + 1, none⟩ = some c1 ∧ w.cell? ⟨b, off + 2, none⟩ = some c2 ∧ w.cell? ⟨b, off + 3, none⟩ = some c3 ∧ IsV w lo v c0 c1 c2 c3) ∧ IsRow w lo t b (off + 4)
end

/-- the cells from a block on stay -/
def Stays (lo : Nat) (w w' : World) : Prop := ∀ (a : Addr) (c : Value), lo ≤ a.block → w.cell? a = some c → w'.cell? a = some c
theorem Stays.refl (lo : Nat) (w : World) : Stays lo w w := fun _ _ _ h => h
theorem Stays.trans {lo : Nat} {a b c : World} (h : Stays lo a b) (k : Stays lo b c) : Stays lo a c := fun x v hl hx => k x v hl (h x v hl hx)
theorem cell_lt {w : World} {a : Addr} {c : Value} (h : w.cell? a = some c) : a.block < w.heap.size := by
  rcases Nat.lt_or_ge a.block w.heap.size with h' | h'
  · exact h'
  · unfold World.cell? at h
    rw [Array.getElem?_eq_none h'] at h
    simp at h
theorem Below.stays {w w' : World} (h : Below w.heap.size w w') (lo : Nat) : Stays lo w w' := fun a c _ hc => (h.cell (p := a) (cell_lt hc)).trans hc
theorem IsKeys.stays {w w' : World} {lo lo' : Nat} {ks : List ByteArray} {c : Value} (h : IsKeys w lo ks c) (hs : Stays lo w w') (hl : lo' ≤ lo) : IsKeys w' lo' ks c := by
  obtain ⟨a, cap, e, h⟩ := h
  refine ⟨a, cap, e, ?_⟩
  rcases h with h | ⟨b, off, e2, hb, h⟩
  · exact .inl h
  · exact .inr ⟨b, off, e2, by omega, fun j hj => hs _ _ hb (h j hj)⟩
mutual
theorem IsV.stays {w w' : World} {lo lo' : Nat} (hs : Stays lo w w') (hl : lo' ≤ lo) : ∀ (v : JV) (c0 c1 c2 c3 : Value), IsV w lo v c0 c1 c2 c3 → IsV w' lo' v c0 c1 c2 c3
  | .mk k t ks l, c0, c1, c2, c3, h => by
    simp only [IsV] at h ⊢
    obtain ⟨e0, e1, hk, a, cap, e3, h⟩ := h
    refine ⟨e0, e1, hk.stays hs hl, a, cap, e3, ?_⟩
    rcases h with h | ⟨b, off, e, hb, h⟩
    · exact .inl h
    · exact .inr ⟨b, off, e, by omega, IsRow.stays hs hl l b off hb h⟩
theorem IsRow.stays {w w' : World} {lo lo' : Nat} (hs : Stays lo w w') (hl : lo' ≤ lo) : ∀ (l : List JV) (b off : Nat), lo ≤ b → IsRow w lo l b off → IsRow w' lo' l b off
  | [], _, _, _, _ => by simp only [IsRow]
  | v :: t, b, off, hb, h => by
    simp only [IsRow] at h ⊢
    obtain ⟨⟨c0, c1, c2, c3, h0, h1, h2, h3, hv⟩, ht⟩ := h
    exact ⟨⟨c0, c1, c2, c3, hs _ _ hb h0, hs _ _ hb h1, hs _ _ hb h2, hs _ _ hb h3, IsV.stays hs hl v c0 c1 c2 c3 hv⟩, IsRow.stays hs hl t b (off + 4) hb ht⟩
end
/-- the value that stands at a place of a row -/
theorem IsRow.at {w : World} {lo : Nat} : ∀ (l : List JV) (b off i : Nat) (v : JV), IsRow w lo l b off → l[i]? = some v →
    ∃ c0 c1 c2 c3, w.cell? ⟨b, off + 4 * i, none⟩ = some c0 ∧ w.cell? ⟨b, off + 4 * i + 1, none⟩ = some c1 ∧ w.cell? ⟨b, off + 4 * i + 2, none⟩ = some c2 ∧ w.cell? ⟨b, off + 4 * i + 3, none⟩ = some c3 ∧ IsV w lo v c0 c1 c2 c3
  | [], _, _, _, _, _, hi => by simp at hi
  | x :: t, b, off, 0, v, h, hi => by
    simp only [IsRow] at h
    simp only [List.getElem?_cons_zero, Option.some.injEq] at hi
    subst hi
    exact h.1
  | x :: t, b, off, i + 1, v, h, hi => by
    simp only [IsRow] at h
    have := IsRow.at t b (off + 4) i v h.2 (by simpa using hi)
    rw [show off + 4 * (i + 1) = off + 4 + 4 * i by omega]
    exact this

theorem int_beq (a b : Nat) : ((a : Int) == (b : Int)) = (a == b) := by
  by_cases h : a = b
  · rw [h]; simp
  · rw [beq_eq_false_iff_ne.2 h, beq_eq_false_iff_ne.2 (by omega)]
theorem int_beq0 (a : Nat) : ((a : Int) == 0) = (a == 0) := int_beq a 0
/-! ### One value alone -/
def formB (k : Int) (t : ByteArray) (nk nl : Nat) : Bool :=
  if k = 1 ∨ k = 2 ∨ k = 3 then t.toList.isEmpty && nk == 0 && nl == 0
  else if k = 4 then numS t && nk == 0 && nl == 0
  else if k = 5 then nk == 0 && nl == 0
  else if k = 6 then t.toList.isEmpty && nk == 0
  else if k = 7 then t.toList.isEmpty && nk == nl
  else false
def listB (k : Int) : Bool := k == 6 || k == 7
theorem hasList_any (k : Int) (w : World) :
    Calls Tryz.prog 76 #[.int .u8 k] w fun e w' => e = .returned (.bool (listB k)) ∧ w = w' := by
  go_enter Tryz.func76, Tryz.ntmps76
  go_wp2
  all_goals go_ret
  all_goals exact ⟨ret_bool (by unfold listB; simp [*]), rfl⟩
set_option maxRecDepth 10000000 in
set_option maxHeartbeats 4000000 in
theorem formed_any (k : Int) (t : ByteArray) (ak al : Option Addr) (nk ck nl cl : Nat) (w : World) (ht : t.size ≤ maxLen) :
    Calls Tryz.prog 73 #[.agg #[.int .u8 k, .string t, .slice ak nk ck, .slice al nl cl]] w fun e w' => e = .returned (.bool (formB k t nk nl)) ∧ Below w.heap.size w w' := by
  go_enter Tryz.func73, Tryz.ntmps73
  go_wp2_with fail
  go_region
  go_wp2_with (go_at_call 53; refine (isNumber_any _ _ ht).mono ?_; rintro e w1 ⟨rfl, hb1⟩)
  all_goals go_ret
  all_goals refine ⟨ret_bool ?_, ?_⟩
  all_goals first
    | exact ((Below.refl _ _).alloc (Nat.le_refl _) _).drew
    | exact (((Below.refl _ _).alloc (Nat.le_refl _) _).drew).trans (hb1.mono (by simp))
    | (unfold formB; simp_all; done)
    | (unfold formB; simp_all; first | exact int_beq0 _ | exact int_beq _ _)

/-! ### Keys -/
def encB (t : ByteArray) (ks : List ByteArray) : Bool := ks.all validB && validB t
def letN (t : ByteArray) (ks : List ByteArray) : Nat := ks.foldl (fun n k => n + k.size) t.size
theorem encB_no {t : ByteArray} {ks : List ByteArray} {j : Nat} (h : j < ks.length) (hv : validB (ks.getD j ByteArray.empty) = false) : false = encB t ks := by
  unfold encB
  have : ks.all validB = false := by
    rw [Bool.eq_false_iff]
    intro hall
    have := List.all_eq_true.1 hall (ks.getD j ByteArray.empty) (by rw [List.getD_eq_getElem?_getD, List.getElem?_eq_getElem h]; exact List.getElem_mem h)
    rw [this] at hv
    cases hv
  rw [this, Bool.false_and]
theorem encB_yes {t : ByteArray} {ks : List ByteArray} (h : ∀ j, j < ks.length → validB (ks.getD j ByteArray.empty) = true) : validB t = encB t ks := by
  unfold encB
  have : ks.all validB = true := by
    rw [List.all_eq_true]
    intro x hx
    obtain ⟨j, hj, e⟩ := List.getElem_of_mem hx
    have := h j hj
    rw [List.getD_eq_getElem?_getD, List.getElem?_eq_getElem hj, e] at this
    exact this
  rw [this, Bool.true_and]
set_option maxRecDepth 10000000 in
set_option maxHeartbeats 4000000 in
theorem encoded_any (k : Int) (t : ByteArray) (ks : List ByteArray) (c2 c3 : Value) (w : World) (ht : t.size ≤ maxLen) (hk : IsKeys w 0 ks c2) (hks : ∀ x ∈ ks, x.size ≤ maxLen) (hn : ks.length ≤ maxLen) :
    Calls Tryz.prog 74 #[.agg #[.int .u8 k, .string t, c2, c3]] w fun e w' => e = .returned (.bool (encB t ks)) ∧ Below w.heap.size w w' := by
  unfold maxLen at hn
  obtain ⟨a, cap, rfl, hk⟩ := hk
  have hcell : ∀ j, j < ks.length → ∃ b off, a = some ⟨b, off, none⟩ ∧ b < w.heap.size ∧ w.cell? ⟨b, off + j, none⟩ = some (.string (ks.getD j ByteArray.empty)) := by
    intro j hj
    rcases hk with rfl | ⟨b, off, rfl, _, h⟩
    · simp at hj
    · exact ⟨b, off, rfl, cell_lt (h j hj), h j hj⟩
  have Hcell := Lib.hid hcell
  clear hcell hk
  go_enter Tryz.func74, Tryz.ntmps74
  go_wp2_with fail
  go_loopw [2, 8] (fun r i wr => ∃ j : Nat, j ≤ ks.length ∧ r = .bool false ∧ i = .int .i64 j ∧ Below w.heap.size w wr ∧ wr.cell? ⟨w.heap.size, 1, none⟩ = some (.string t) ∧ w.heap.size < wr.heap.size ∧ ∀ q, q < j → validB (ks.getD q ByteArray.empty) = true) (fun _ i _ => ks.length - (intOf i).toNat)
  case atStart => exact ⟨0, Nat.zero_le _, rfl, rfl, (Below.refl _ _).alloc (Nat.le_refl _) _, by simp, by simp, fun q hq => absurd hq (Nat.not_lt_zero _)⟩
  case round =>
    obtain ⟨j, hj, rfl, rfl, acc, ct, hsz, hall⟩ := hrel
    have Hall := Lib.hid hall
    clear hall
    by_cases hlt : j < ks.length
    · obtain ⟨b, off, rfl, hb, hc⟩ := Hcell.out j hlt
      have hcw := (acc.cell (p := ⟨b, off + j, none⟩) hb).trans hc
      have hx : (ks.getD j ByteArray.empty).size ≤ maxLen := hks _ (by rw [List.getD_eq_getElem?_getD, List.getElem?_eq_getElem hlt]; exact List.getElem_mem hlt)
      generalize hxe : ks.getD j ByteArray.empty = x at *
      have Hxe := Lib.hid hxe
      clear hc hxe
      cases hv : validB x
      · have Hf := Lib.hid (encB_no (t := t) hlt (by rw [Hxe.out]; exact hv))
        go_wp2_with (go_at_call 44; refine (valid_any _ _ hx).mono ?_; rintro e w1 ⟨rfl, hb1⟩)
        go_ret
        exact ⟨ret_bool Hf.out, acc.trans (hb1.mono acc.size)⟩
      · go_wp2_with (go_at_call 44; refine (valid_any _ _ hx).mono ?_; rintro e w1 ⟨rfl, hb1⟩)
        go_roundw
        case rel =>
          refine ⟨j + 1, hlt, rfl, by go_num, acc.trans (hb1.mono acc.size), (hb1.cell (p := ⟨w.heap.size, 1, none⟩) hsz).trans ct, Nat.lt_of_lt_of_le hsz hb1.size, ?_⟩
          intro q hq
          by_cases e : q = j
          · rw [e, Hxe.out]; exact hv
          · exact Hall.out q (by omega)
        case measure => simp [intOf]; omega
    · have Hf := Lib.hid (encB_yes (t := t) (ks := ks) (fun q hq => Hall.out q (by omega)))
      have hfz : True := trivial
      go_wp2_with (go_at_call 44; refine (valid_any _ _ ht).mono ?_; rintro e w1 ⟨rfl, hb1⟩)
      go_ret
      exact ⟨ret_bool Hf.out, acc.trans (hb1.mono acc.size)⟩

theorem letN_go (ks : List ByteArray) : ∀ n, ks.foldl (fun n k => n + k.size) n = n + ks.foldl (fun n k => n + k.size) 0 := by
  induction ks with
  | nil => intro n; rfl
  | cons k t ih =>
    intro n
    simp only [List.foldl_cons]
    rw [ih (n + k.size), ih (0 + k.size)]
    omega
def sumK (ks : List ByteArray) : Nat := ks.foldl (fun n k => n + k.size) 0
theorem sumK_take (ks : List ByteArray) (j : Nat) (h : j < ks.length) : sumK (ks.take (j + 1)) = sumK (ks.take j) + (ks.getD j ByteArray.empty).size := by
  unfold sumK
  rw [List.take_succ_eq_append_getElem h, List.foldl_append, List.getD_eq_getElem?_getD, List.getElem?_eq_getElem h]
  rfl
theorem sumK_le (ks : List ByteArray) (j : Nat) : sumK (ks.take j) ≤ sumK ks := by
  have e : sumK ks = sumK (ks.take j ++ ks.drop j) := by rw [List.take_append_drop]
  rw [e]
  unfold sumK
  rw [List.foldl_append, letN_go _ (List.foldl _ 0 (ks.take j))]
  omega
set_option maxRecDepth 10000000 in
set_option maxHeartbeats 4000000 in
theorem letters_any (k : Int) (t : ByteArray) (ks : List ByteArray) (c2 c3 : Value) (w : World) (hk : IsKeys w 0 ks c2) (hn : ks.length ≤ maxLen) (hsum : t.size + sumK ks ≤ 1000000000000000000) :
    Calls Tryz.prog 77 #[.agg #[.int .u8 k, .string t, c2, c3]] w fun e w' => e = .returned (.int .i64 (t.size + sumK ks : Nat)) ∧ Below w.heap.size w w' := by
  unfold maxLen at hn
  obtain ⟨a, cap, rfl, hk⟩ := hk
  have hcell : ∀ j, j < ks.length → ∃ b off, a = some ⟨b, off, none⟩ ∧ b < w.heap.size ∧ w.cell? ⟨b, off + j, none⟩ = some (.string (ks.getD j ByteArray.empty)) := by
    intro j hj
    rcases hk with rfl | ⟨b, off, rfl, _, h⟩
    · simp at hj
    · exact ⟨b, off, rfl, cell_lt (h j hj), h j hj⟩
  have Hcell := Lib.hid hcell
  clear hcell hk
  go_enter Tryz.func77, Tryz.ntmps77
  go_wp2_with fail
  go_loop [3, 12] (fun r i => ∃ j : Nat, j ≤ ks.length ∧ r = .int .i64 (t.size + sumK (ks.take j) : Nat) ∧ i = .int .i64 j) (fun _ i => ks.length - (intOf i).toNat)
  case atStart => exact ⟨0, Nat.zero_le _, rfl, rfl⟩
  case round =>
    obtain ⟨j, hj, rfl, rfl⟩ := hrel
    by_cases hlt : j < ks.length
    · obtain ⟨b, off, rfl, hb, hc⟩ := Hcell.out j hlt
      have Hs := Lib.hid (sumK_take ks j hlt)
      have Hl := Lib.hid (sumK_le ks (j + 1))
      generalize hxe : ks.getD j ByteArray.empty = x at *
      have hl := Hl.out
      rw [Hs.out] at hl
      generalize sumK (ks.take j) = m at *
      have Hsum := Lib.hid hsum
      clear hxe
      have hb1 : m + x.size + t.size ≤ 1000000000000000000 := by omega
      clear hl hsum
      go_wp2_with fail
      go_round
      case rel => exact ⟨j + 1, hlt, by rw [Hs.out]; go_num, by go_num⟩
      case measure => simp [intOf]; omega
    · have Ht : Hid (sumK (ks.take j) = sumK ks) := by rw [List.take_of_length_le (by omega)]; exact rfl
      go_wp2_with fail
      go_ret
      exact ⟨ret_int (by rw [Ht.out]), (Below.refl _ _).alloc (Nat.le_refl _) _⟩
end Go.Proofs.YtakdhfjlhkejdaaGreatDoor

/-
  CONTRACTS of package json's write and writeList: a value's text is laid into a builder that the call has made. Conditions: the value is well made, and its text small.
-/
set_option linter.unusedVariables false
set_option linter.unusedSimpArgs false
namespace Go.Proofs.YtakdhfjlhkejdaaGreatDoor
open Go.RowKit

mutual
/-- a value's text -/
def textV : JV → List UInt8
  | .mk k t ks l =>
    if k = 1 then [110, 117, 108, 108] else if k = 2 then [102, 97, 108, 115, 101] else if k = 3 then [116, 114, 117, 101]
    else if k = 4 then t.data.toList else if k = 5 then quoL t.data.toList
    else if k = 6 then 91 :: (textI false 0 ks l ++ [93]) else if k = 7 then 123 :: (textI true 0 ks l ++ [125]) else []
/-- what stands within an array or an object, from a place on -/
def textI (obj : Bool) (i : Nat) (ks : List ByteArray) : List JV → List UInt8
  | [] => []
  | v :: t => (if 0 < i then [44] else []) ++ (if obj then quoL (ks.getD i ByteArray.empty).data.toList ++ [58] else []) ++ textV v ++ textI obj (i + 1) ks t
end
mutual
def sizeV : JV → Nat
  | .mk _ _ _ l => sizeL l + 1
def sizeL : List JV → Nat
  | [] => 0
  | v :: t => sizeV v + sizeL t
end
mutual
/-- its texts are valid, and an object has a key for each value -/
def goodV : JV → Prop
  | .mk k t ks l => allB t.data.toList ∧ (∀ x ∈ ks, allB x.data.toList) ∧ (k = 7 → l.length ≤ ks.length) ∧ goodL l
def goodL : List JV → Prop
  | [] => True
  | v :: t => goodV v ∧ goodL t
end
theorem sizeL_at : ∀ (l : List JV) (i : Nat) (v : JV), l[i]? = some v → sizeV v ≤ sizeL l
  | [], _, _, h => by simp at h
  | x :: t, 0, v, h => by
    simp only [List.getElem?_cons_zero, Option.some.injEq] at h
    subst h
    simp only [sizeL]
    omega
  | x :: t, i + 1, v, h => by
    have := sizeL_at t i v (by simpa using h)
    simp only [sizeL]
    omega
theorem sizeV_pos (v : JV) : 1 ≤ sizeV v := by
  obtain ⟨k, t, ks, l⟩ := v
  simp only [sizeV]
  omega
theorem sizeL_len : ∀ l : List JV, l.length ≤ sizeL l
  | [] => by simp [sizeL]
  | x :: t => by
    have := sizeL_len t
    have := sizeV_pos x
    simp only [sizeL, List.length_cons]
    omega
theorem goodL_at : ∀ (l : List JV) (i : Nat) (v : JV), goodL l → l[i]? = some v → goodV v
  | [], _, _, _, h => by simp at h
  | x :: t, 0, v, g, h => by
    simp only [List.getElem?_cons_zero, Option.some.injEq] at h
    subst h
    simp only [goodL] at g
    exact g.1
  | x :: t, i + 1, v, g, h => by
    simp only [goodL] at g
    exact goodL_at t i v g.2 (by simpa using h)
theorem textI_at (obj : Bool) (i : Nat) (ks : List ByteArray) (l : List JV) (v : JV) (h : l[i]? = some v) :
    textI obj i ks (l.drop i) = (if 0 < i then [44] else []) ++ (if obj then quoL (ks.getD i ByteArray.empty).data.toList ++ [58] else []) ++ textV v ++ textI obj (i + 1) ks (l.drop (i + 1)) := by
  obtain ⟨hlt, e⟩ := List.getElem?_eq_some_iff.1 h
  rw [List.drop_eq_getElem_cons hlt, e]
  simp only [textI]

theorem IsRow.at' {w : World} {lo : Nat} (l : List JV) (b off i : Nat) (v : JV) (h : IsRow w lo l b off) (hi : l[i]? = some v) :
    ∃ c0 c1 c2 c3, w.cell? ⟨b, off + i * 4, none⟩ = some c0 ∧ w.cell? ⟨b, off + i * 4 + 1, none⟩ = some c1 ∧ w.cell? ⟨b, off + i * 4 + 2, none⟩ = some c2 ∧ w.cell? ⟨b, off + i * 4 + 3, none⟩ = some c3 ∧ IsV w lo v c0 c1 c2 c3 := by
  have := IsRow.at l b off i v h hi
  rw [Nat.mul_comm 4 i] at this
  exact this
theorem IsV.shape {w : World} {lo : Nat} {v : JV} {c0 c1 c2 c3 : Value} (h : IsV w lo v c0 c1 c2 c3) :
    ∃ (k : Nat) (t : ByteArray) (a2 : Option Addr) (n2 p2 : Nat) (a3 : Option Addr) (n3 p3 : Nat), c0 = .int .u8 (k : Nat) ∧ c1 = .string t ∧ c2 = .slice a2 n2 p2 ∧ c3 = .slice a3 n3 p3 := by
  cases v
  simp only [IsV] at h
  obtain ⟨e0, e1, ⟨a2, p2, e2, _⟩, a3, p3, e3, _⟩ := h
  exact ⟨_, _, _, _, _, _, _, _, e0, e1, e2, e3⟩
theorem quoB_posT (l : List UInt8) : l.length ≤ (quoM l).length := by
  induction l with
  | nil => simp [quoM]
  | cons b t ih =>
    have := quoB_len b
    have e : quoM (b :: t) = quoB b ++ quoM t := by simp [quoM]
    rw [e, List.length_append, List.length_cons]
    omega
/-- the contract of write, at values of at most n values -/
def WriteAt (n : Nat) : Prop := ∀ (w0 : World) (B b : Nat) (v : JV) (c0 c1 c2 c3 : Value) (l0 : List UInt8) (w : World), sizeV v ≤ n → sizeV v ≤ 1000000000 → w0.heap.size ≤ B → IsV w0 0 v c0 c1 c2 c3 → goodV v → l0.length + (textV v).length ≤ 1000000000 →
  Below B w0 w → BldF B b (Lib.byteCells l0) w → B ≤ w.heap.size →
  Calls Tryz.prog 40 #[.pointer (some ⟨b, 0, none⟩), .agg #[c0, c1, c2, c3]] w fun e w' => e = .returned (.tuple #[]) ∧ (BldF B b (Lib.byteCells (l0 ++ textV v)) w' ∧ Below B w w' ∧ OKept b w w')
theorem box_kept {b k T : Nat} {cs : Array Value} {fz : Nat × Nat} {w w' : World} (h : OKept b w w') (hk : w.heap[k]? = some (.cells cs T fz)) (hkb : k ≠ b) (hT : T ≠ 5) : w'.heap[k]? = some (.cells cs T fz) :=
  h k _ hk (fun e => hkb (Option.some.inj e)) (fun c f e => hT (by injection e))
set_option maxRecDepth 10000000 in
set_option maxHeartbeats 8000000 in
theorem writeList_at (n : Nat) (ih : WriteAt n) (w0 : World) (B b : Nat) (k : Nat) (t : ByteArray) (ks : List ByteArray) (l : List JV) (c0 c1 c2 c3 : Value) (l0 : List UInt8) (w : World)
    (hsz : sizeL l ≤ n) (hS : sizeL l ≤ 1000000000) (hB : w0.heap.size ≤ B) (hv : IsV w0 0 (.mk k t ks l) c0 c1 c2 c3) (hg : goodV (.mk k t ks l)) (hlen : l0.length + (textI (k == 7) 0 ks l).length ≤ 1000000000)
    (hw : Below B w0 w) (hb : BldF B b (Lib.byteCells l0) w) (hBw : B ≤ w.heap.size) (hn : l.length ≤ 1000000000) :
    Calls Tryz.prog 80 #[.pointer (some ⟨b, 0, none⟩), .agg #[c0, c1, c2, c3]] w fun e w' => e = .returned (.tuple #[]) ∧ (BldF B b (Lib.byteCells (l0 ++ textI (k == 7) 0 ks l)) w' ∧ Below B w w' ∧ OKept b w w') := by
  simp only [IsV] at hv
  obtain ⟨rfl, rfl, ⟨ka, kcap, rfl, hk⟩, la, lcap, rfl, hl⟩ := hv
  simp only [goodV] at hg
  obtain ⟨_, hgk, hgn, hgl⟩ := hg
  have hblt := bld_lt hb
  have hkey : ∀ j, j < ks.length → ∃ kb koff, ka = some ⟨kb, koff, none⟩ ∧ w.cell? ⟨kb, koff + j, none⟩ = some (.string (ks.getD j ByteArray.empty)) ∧ kb < B := by
    intro j hj
    rcases hk with rfl | ⟨kb, koff, rfl, _, h⟩
    · simp at hj
    · have hlt := Nat.lt_of_lt_of_le (cell_lt (h j hj)) hB
      exact ⟨kb, koff, rfl, (hw.cell (p := ⟨kb, koff + j, none⟩) hlt).trans (h j hj), hlt⟩
  have Hkey := Lib.hid hkey
  clear hkey
  go_enter Tryz.func80, Tryz.ntmps80
  go_wp2_with fail
  go_loopw [9] (fun q wr => ∃ (i : Nat) (acc : List UInt8), i ≤ l.length ∧ q = .int .i64 i ∧ acc ++ textI (k == 7) i ks (l.drop i) = textI (k == 7) 0 ks l ∧ BldF B b (Lib.byteCells (l0 ++ acc)) wr ∧ Below B w wr ∧ OKept b w wr ∧
      wr.heap[w.heap.size]? = some (.cells #[.int .u8 (k : Nat), .string t, .slice ka ks.length kcap, .slice la l.length lcap] 26 (0, 0))) (fun q _ => l.length - (intOf q).toNat)
  case atStart =>
    refine ⟨0, [], Nat.zero_le _, rfl, by rw [List.drop_zero]; rfl, ?_, (Below.refl _ _).alloc hBw _, (Lib.OthersKept.refl _ _ _).alloc _, ?_⟩
    · rw [List.append_nil]
      exact Lib.IsBuilderF.alloc hb _
    · exact heap_alloc_new w _
  case round =>
    obtain ⟨i, acc, hi, rfl, htx, hI, hbw, hkw, hbox⟩ := hrel
    have hblt2 := bld_lt hI
    have hbsz : w.heap.size < wr.heap.size := (Array.getElem?_eq_some_iff.1 hbox).1
    have hx0 : wr.cell? ⟨w.heap.size, 0, none⟩ = some (.int .u8 (k : Nat)) := by rw [Lib.cell_of_heap hbox]; rfl
    have hx2 : wr.cell? ⟨w.heap.size, 2, none⟩ = some (.slice ka ks.length kcap) := by rw [Lib.cell_of_heap hbox]; rfl
    by_cases hlt : i < l.length
    · have hget : l[i]? = some l[i] := List.getElem?_eq_getElem hlt
      obtain ⟨lb, loff, rfl, hrow⟩ : ∃ lb loff, la = some ⟨lb, loff, none⟩ ∧ IsRow w0 0 l lb loff := by
        rcases hl with rfl | ⟨lb, loff, rfl, _, h⟩
        · simp at hlt
        · exact ⟨lb, loff, rfl, h⟩
      obtain ⟨d0, d1, d2, d3, e0, e1, e2, e3, hd⟩ := IsRow.at' l lb loff i _ hrow hget
      have hw0 := hw.trans hbw
      have f0 := (hw0.cell (p := ⟨lb, loff + i * 4, none⟩) (Nat.lt_of_lt_of_le (cell_lt e0) hB)).trans e0
      have f1 := (hw0.cell (p := ⟨lb, loff + i * 4 + 1, none⟩) (Nat.lt_of_lt_of_le (cell_lt e1) hB)).trans e1
      have f2 := (hw0.cell (p := ⟨lb, loff + i * 4 + 2, none⟩) (Nat.lt_of_lt_of_le (cell_lt e2) hB)).trans e2
      have f3 := (hw0.cell (p := ⟨lb, loff + i * 4 + 3, none⟩) (Nat.lt_of_lt_of_le (cell_lt e3) hB)).trans e3
      obtain ⟨k', t', a2', n2', p2', a3', n3', p3', rfl, rfl, rfl, rfl⟩ := hd.shape
      have htx2 := textI_at (k == 7) i ks l _ hget
      rw [htx2] at htx
      have hsv := sizeL_at l i _ hget
      have hgv := goodL_at l i _ hgl hget
      generalize l[i] = v at *
      clear hrow e0 e1 e2 e3 hl htx2 hget
      have Htx := Lib.hid htx
      clear htx
      have hI0 := Lib.IsBuilderF.alloc hI (.cells #[.int .u8 (k' : Nat), .string t', .slice a2' n2' p2', .slice a3' n3' p3'] 26)
      have hbw0 := hbw.alloc (by omega) (.cells #[.int .u8 (k' : Nat), .string t', .slice a2' n2' p2', .slice a3' n3' p3'] 26)
      have hkw0 := Lib.OthersKept.alloc hkw (.cells #[.int .u8 (k' : Nat), .string t', .slice a2' n2' p2', .slice a3' n3' p3'] 26)
      have hin0 : (wr.alloc (.cells #[.int .u8 (k' : Nat), .string t', .slice a2' n2' p2', .slice a3' n3' p3'] 26)).heap[wr.heap.size]? = some (.cells #[.int .u8 (k' : Nat), .string t', .slice a2' n2' p2', .slice a3' n3' p3'] 26 (0, 0)) := heap_alloc_new wr _
      have hbx0 : (wr.alloc (.cells #[.int .u8 (k' : Nat), .string t', .slice a2' n2' p2', .slice a3' n3' p3'] 26)).heap[w.heap.size]? = some (.cells #[.int .u8 (k : Nat), .string t, .slice ka ks.length kcap, .slice (some ⟨lb, loff, none⟩) l.length lcap] 26 (0, 0)) := (Lib.alloc_old wr _ _ hbsz).trans hbox
      have hnb1 : w.heap.size ≠ b := by omega
      have hnb2 : wr.heap.size ≠ b := by omega
      have hsz0 : B ≤ (wr.alloc (.cells #[.int .u8 (k' : Nat), .string t', .slice a2' n2' p2', .slice a3' n3' p3'] 26)).heap.size := by simp; omega
      have Hlen := Lib.hid hlen
      clear hlen hbox hI hk
      by_cases h0 : 0 < i
      · cases hk7 : (k == 7)
        · have hk7' : ((k : Int) == 7) = false := by rw [show ((k : Int) == 7) = (k == 7) from int_beq k 7, hk7]
          have Hl : Hid (l0.length + (acc ++ ([44] ++ [] ++ textV v ++ textI false (i + 1) ks (l.drop (i + 1)))).length ≤ 1000000000 ∧ acc ++ ([44] ++ [] ++ textV v ++ textI false (i + 1) ks (l.drop (i + 1))) = textI false 0 ks l) := by
            have h1 := Htx.out
            have h2 := Hlen.out
            rw [hk7] at h1 h2
            simp only [if_pos h0, if_true, Bool.false_eq_true, if_false] at h1
            rw [h1]
            exact ⟨h2, rfl⟩
          have hL := Hl.out.1
          simp only [List.length_append, List.length_cons, List.length_nil] at hL
          go_wp2_with fail
          refine (bldByte B b _ 44 _ hI0 (by rw [Lib.byteCells_length, List.length_append]; omega) hsz0).mono ?_
          rintro e W1 ⟨rfl, hI1, b1, k1⟩
          have hbx1 := box_kept k1 hbx0 hnb1 (by decide)
          have hin1 := box_kept k1 hin0 hnb2 (by decide)
          have hbw1 := hbw0.trans b1
          have hkw1 := hkw0.trans k1
          have hsz1 := Nat.le_trans hsz0 b1.size
          have hx0 : W1.cell? ⟨w.heap.size, 0, none⟩ = some (.int .u8 (k : Nat)) := by rw [Lib.cell_of_heap hbx1]; rfl
          have hx2 : W1.cell? ⟨w.heap.size, 2, none⟩ = some (.slice ka ks.length kcap) := by rw [Lib.cell_of_heap hbx1]; rfl
          have hy0 : W1.cell? ⟨wr.heap.size, 0, none⟩ = some (.int .u8 (k' : Nat)) := by rw [Lib.cell_of_heap hin1]; rfl
          have hy1 : W1.cell? ⟨wr.heap.size, 1, none⟩ = some (.string t') := by rw [Lib.cell_of_heap hin1]; rfl
          have hy2 : W1.cell? ⟨wr.heap.size, 2, none⟩ = some (.slice a2' n2' p2') := by rw [Lib.cell_of_heap hin1]; rfl
          have hy3 : W1.cell? ⟨wr.heap.size, 3, none⟩ = some (.slice a3' n3' p3') := by rw [Lib.cell_of_heap hin1]; rfl
          rw [show Lib.byteCells (l0 ++ acc) ++ [Value.int .u8 44] = Lib.byteCells (l0 ++ (acc ++ [44])) from by simp [Lib.byteCells]] at hI1
          go_wp2_with fail
          refine (ih w0 B b v _ _ _ _ _ _ (by omega) (by omega) hB hd hgv (by simp only [List.length_append, List.length_cons, List.length_nil]; omega) (hw.trans hbw1) hI1 hsz1).mono ?_
          rintro e W2 ⟨rfl, hI2, b2, k2⟩
          have hbx2 := box_kept k2 hbx1 hnb1 (by decide)
          go_wp2_with fail
          go_roundw
          case rel =>
            refine ⟨i + 1, _, hlt, by go_num, ?_, by rw [List.append_assoc] at hI2; exact hI2, hbw1.trans b2, hkw1.trans k2, hbx2⟩
            (try rw [hk7]); rw [← Hl.out.2]
            simp only [List.append_assoc, List.nil_append]
          case measure => simp [intOf]; omega
        · have hk7' : ((k : Int) == 7) = true := by rw [show ((k : Int) == 7) = (k == 7) from int_beq k 7, hk7]
          have hik : i < ks.length := by
            have : k = 7 := beq_iff_eq.1 hk7
            have := hgn this
            omega
          obtain ⟨kb, koff, rfl, hkc0, hkl⟩ := Hkey.out i hik
          have hkg : allB (ks.getD i ByteArray.empty).data.toList := hgk _ (by rw [List.getD_eq_getElem?_getD, List.getElem?_eq_getElem hik]; exact List.getElem_mem hik)
          generalize ks.getD i ByteArray.empty = key at *
          have Hl : Hid (l0.length + (acc ++ ([44] ++ (quoL key.data.toList ++ [58]) ++ textV v ++ textI true (i + 1) ks (l.drop (i + 1)))).length ≤ 1000000000 ∧ acc ++ ([44] ++ (quoL key.data.toList ++ [58]) ++ textV v ++ textI true (i + 1) ks (l.drop (i + 1))) = textI true 0 ks l) := by
            have h1 := Htx.out
            have h2 := Hlen.out
            rw [hk7] at h1 h2
            simp only [if_pos h0, if_true, Bool.false_eq_true, if_false] at h1
            rw [h1]
            exact ⟨h2, rfl⟩
          have hL := Hl.out.1
          simp only [List.length_append, List.length_cons, List.length_nil] at hL
          have hQ := quoM_len key.data.toList
          have hQ2 : key.size ≤ 1000000000 := by
            have := quoB_posT key.data.toList
            rw [Lib.size_eq]
            unfold quoL at hL
            simp only [List.length_append, List.length_cons, List.length_nil] at hL
            omega
          go_wp2_with fail
          refine (bldByte B b _ 44 _ hI0 (by rw [Lib.byteCells_length, List.length_append]; omega) hsz0).mono ?_
          rintro e W1 ⟨rfl, hI1, b1, k1⟩
          have hbx1 := box_kept k1 hbx0 hnb1 (by decide)
          have hin1 := box_kept k1 hin0 hnb2 (by decide)
          have hbw1 := hbw0.trans b1
          have hkw1 := hkw0.trans k1
          have hsz1 := Nat.le_trans hsz0 b1.size
          have hx0 : W1.cell? ⟨w.heap.size, 0, none⟩ = some (.int .u8 (k : Nat)) := by rw [Lib.cell_of_heap hbx1]; rfl
          have hx2 : W1.cell? ⟨w.heap.size, 2, none⟩ = some (.slice (some ⟨kb, koff, none⟩) ks.length kcap) := by rw [Lib.cell_of_heap hbx1]; rfl
          have hy0 : W1.cell? ⟨wr.heap.size, 0, none⟩ = some (.int .u8 (k' : Nat)) := by rw [Lib.cell_of_heap hin1]; rfl
          have hy1 : W1.cell? ⟨wr.heap.size, 1, none⟩ = some (.string t') := by rw [Lib.cell_of_heap hin1]; rfl
          have hy2 : W1.cell? ⟨wr.heap.size, 2, none⟩ = some (.slice a2' n2' p2') := by rw [Lib.cell_of_heap hin1]; rfl
          have hy3 : W1.cell? ⟨wr.heap.size, 3, none⟩ = some (.slice a3' n3' p3') := by rw [Lib.cell_of_heap hin1]; rfl
          rw [show Lib.byteCells (l0 ++ acc) ++ [Value.int .u8 44] = Lib.byteCells (l0 ++ (acc ++ [44])) from by simp [Lib.byteCells]] at hI1
          have hkc := (hbw1.cell (p := ⟨kb, koff + i, none⟩) hkl).trans hkc0
          go_wp2_with fail
          refine (quote_any B b _ key _ hI1 hkg hQ2 (by rw [List.length_append]; first | omega | (simp only [List.length_append, List.length_cons, List.length_nil]; omega)) hsz1).mono ?_
          rintro e W2 ⟨rfl, hI2, b2, k2⟩
          have hbx2 := box_kept k2 hbx1 hnb1 (by decide)
          have hin2 := box_kept k2 hin1 hnb2 (by decide)
          have hbw2 := hbw1.trans b2
          have hkw2 := hkw1.trans k2
          have hsz2 := Nat.le_trans hsz1 b2.size
          have hx0 : W2.cell? ⟨w.heap.size, 0, none⟩ = some (.int .u8 (k : Nat)) := by rw [Lib.cell_of_heap hbx2]; rfl
          have hx2 : W2.cell? ⟨w.heap.size, 2, none⟩ = some (.slice (some ⟨kb, koff, none⟩) ks.length kcap) := by rw [Lib.cell_of_heap hbx2]; rfl
          have hy0 : W2.cell? ⟨wr.heap.size, 0, none⟩ = some (.int .u8 (k' : Nat)) := by rw [Lib.cell_of_heap hin2]; rfl
          have hy1 : W2.cell? ⟨wr.heap.size, 1, none⟩ = some (.string t') := by rw [Lib.cell_of_heap hin2]; rfl
          have hy2 : W2.cell? ⟨wr.heap.size, 2, none⟩ = some (.slice a2' n2' p2') := by rw [Lib.cell_of_heap hin2]; rfl
          have hy3 : W2.cell? ⟨wr.heap.size, 3, none⟩ = some (.slice a3' n3' p3') := by rw [Lib.cell_of_heap hin2]; rfl
          rw [List.append_assoc] at hI2
          go_wp2_with fail
          refine (bldByte B b _ 58 _ hI2 (by rw [Lib.byteCells_length]; simp only [List.length_append, List.length_cons, List.length_nil]; omega) hsz2).mono ?_
          rintro e W3 ⟨rfl, hI3, b3, k3⟩
          have hbx3 := box_kept k3 hbx2 hnb1 (by decide)
          have hin3 := box_kept k3 hin2 hnb2 (by decide)
          have hbw3 := hbw2.trans b3
          have hkw3 := hkw2.trans k3
          have hsz3 := Nat.le_trans hsz2 b3.size
          have hx0 : W3.cell? ⟨w.heap.size, 0, none⟩ = some (.int .u8 (k : Nat)) := by rw [Lib.cell_of_heap hbx3]; rfl
          have hx2 : W3.cell? ⟨w.heap.size, 2, none⟩ = some (.slice (some ⟨kb, koff, none⟩) ks.length kcap) := by rw [Lib.cell_of_heap hbx3]; rfl
          have hy0 : W3.cell? ⟨wr.heap.size, 0, none⟩ = some (.int .u8 (k' : Nat)) := by rw [Lib.cell_of_heap hin3]; rfl
          have hy1 : W3.cell? ⟨wr.heap.size, 1, none⟩ = some (.string t') := by rw [Lib.cell_of_heap hin3]; rfl
          have hy2 : W3.cell? ⟨wr.heap.size, 2, none⟩ = some (.slice a2' n2' p2') := by rw [Lib.cell_of_heap hin3]; rfl
          have hy3 : W3.cell? ⟨wr.heap.size, 3, none⟩ = some (.slice a3' n3' p3') := by rw [Lib.cell_of_heap hin3]; rfl
          rw [show Lib.byteCells (l0 ++ ((acc ++ [44]) ++ quoL key.data.toList)) ++ [Value.int .u8 58] = Lib.byteCells (l0 ++ ((acc ++ [44]) ++ quoL key.data.toList ++ [58])) from by simp [Lib.byteCells]] at hI3
          go_wp2_with fail
          refine (ih w0 B b v _ _ _ _ _ _ (by omega) (by omega) hB hd hgv (by simp only [List.length_append, List.length_cons, List.length_nil]; omega) (hw.trans hbw3) hI3 hsz3).mono ?_
          rintro e W4 ⟨rfl, hI4, b4, k4⟩
          have hbx4 := box_kept k4 hbx3 hnb1 (by decide)
          go_wp2_with fail
          go_roundw
          case rel =>
            refine ⟨i + 1, _, hlt, by go_num, ?_, by rw [List.append_assoc] at hI4; exact hI4, hbw3.trans b4, hkw3.trans k4, hbx4⟩
            (try rw [hk7]); rw [← Hl.out.2]
            simp only [List.append_assoc, List.nil_append]
          case measure => simp [intOf]; omega
      · cases hk7 : (k == 7)
        · have hk7' : ((k : Int) == 7) = false := by rw [show ((k : Int) == 7) = (k == 7) from int_beq k 7, hk7]
          have Hl : Hid (l0.length + (acc ++ ([] ++ [] ++ textV v ++ textI false (i + 1) ks (l.drop (i + 1)))).length ≤ 1000000000 ∧ acc ++ ([] ++ [] ++ textV v ++ textI false (i + 1) ks (l.drop (i + 1))) = textI false 0 ks l) := by
            have h1 := Htx.out
            have h2 := Hlen.out
            rw [hk7] at h1 h2
            simp only [if_neg h0, if_true, Bool.false_eq_true, if_false] at h1
            rw [h1]
            exact ⟨h2, rfl⟩
          have hL := Hl.out.1
          simp only [List.length_append, List.length_cons, List.length_nil] at hL
          go_wp2_with fail
          refine (ih w0 B b v _ _ _ _ _ _ (by omega) (by omega) hB hd hgv (by simp only [List.length_append, List.length_cons, List.length_nil]; omega) (hw.trans hbw0) hI0 hsz0).mono ?_
          rintro e W1 ⟨rfl, hI1, b1, k1⟩
          have hbx1 := box_kept k1 hbx0 hnb1 (by decide)
          go_wp2_with fail
          go_roundw
          case rel =>
            refine ⟨i + 1, _, hlt, by go_num, ?_, by rw [List.append_assoc] at hI1; exact hI1, hbw0.trans b1, hkw0.trans k1, hbx1⟩
            (try rw [hk7]); rw [← Hl.out.2]
            simp only [List.append_assoc, List.nil_append]
          case measure => simp [intOf]; omega
        · have hk7' : ((k : Int) == 7) = true := by rw [show ((k : Int) == 7) = (k == 7) from int_beq k 7, hk7]
          have hik : i < ks.length := by
            have : k = 7 := beq_iff_eq.1 hk7
            have := hgn this
            omega
          obtain ⟨kb, koff, rfl, hkc0, hkl⟩ := Hkey.out i hik
          have hkg : allB (ks.getD i ByteArray.empty).data.toList := hgk _ (by rw [List.getD_eq_getElem?_getD, List.getElem?_eq_getElem hik]; exact List.getElem_mem hik)
          generalize ks.getD i ByteArray.empty = key at *
          have Hl : Hid (l0.length + (acc ++ ([] ++ (quoL key.data.toList ++ [58]) ++ textV v ++ textI true (i + 1) ks (l.drop (i + 1)))).length ≤ 1000000000 ∧ acc ++ ([] ++ (quoL key.data.toList ++ [58]) ++ textV v ++ textI true (i + 1) ks (l.drop (i + 1))) = textI true 0 ks l) := by
            have h1 := Htx.out
            have h2 := Hlen.out
            rw [hk7] at h1 h2
            simp only [if_neg h0, if_true, Bool.false_eq_true, if_false] at h1
            rw [h1]
            exact ⟨h2, rfl⟩
          have hL := Hl.out.1
          simp only [List.length_append, List.length_cons, List.length_nil] at hL
          have hQ := quoM_len key.data.toList
          have hQ2 : key.size ≤ 1000000000 := by
            have := quoB_posT key.data.toList
            rw [Lib.size_eq]
            unfold quoL at hL
            simp only [List.length_append, List.length_cons, List.length_nil] at hL
            omega
          have hkc := (hbw0.cell (p := ⟨kb, koff + i, none⟩) hkl).trans hkc0
          go_wp2_with fail
          refine (quote_any B b _ key _ hI0 hkg hQ2 (by rw [List.length_append]; first | omega | (simp only [List.length_append, List.length_cons, List.length_nil]; omega)) hsz0).mono ?_
          rintro e W1 ⟨rfl, hI1, b1, k1⟩
          have hbx1 := box_kept k1 hbx0 hnb1 (by decide)
          have hin1 := box_kept k1 hin0 hnb2 (by decide)
          have hbw1 := hbw0.trans b1
          have hkw1 := hkw0.trans k1
          have hsz1 := Nat.le_trans hsz0 b1.size
          have hx0 : W1.cell? ⟨w.heap.size, 0, none⟩ = some (.int .u8 (k : Nat)) := by rw [Lib.cell_of_heap hbx1]; rfl
          have hx2 : W1.cell? ⟨w.heap.size, 2, none⟩ = some (.slice (some ⟨kb, koff, none⟩) ks.length kcap) := by rw [Lib.cell_of_heap hbx1]; rfl
          have hy0 : W1.cell? ⟨wr.heap.size, 0, none⟩ = some (.int .u8 (k' : Nat)) := by rw [Lib.cell_of_heap hin1]; rfl
          have hy1 : W1.cell? ⟨wr.heap.size, 1, none⟩ = some (.string t') := by rw [Lib.cell_of_heap hin1]; rfl
          have hy2 : W1.cell? ⟨wr.heap.size, 2, none⟩ = some (.slice a2' n2' p2') := by rw [Lib.cell_of_heap hin1]; rfl
          have hy3 : W1.cell? ⟨wr.heap.size, 3, none⟩ = some (.slice a3' n3' p3') := by rw [Lib.cell_of_heap hin1]; rfl
          rw [List.append_assoc] at hI1
          go_wp2_with fail
          refine (bldByte B b _ 58 _ hI1 (by rw [Lib.byteCells_length]; simp only [List.length_append, List.length_cons, List.length_nil]; omega) hsz1).mono ?_
          rintro e W2 ⟨rfl, hI2, b2, k2⟩
          have hbx2 := box_kept k2 hbx1 hnb1 (by decide)
          have hin2 := box_kept k2 hin1 hnb2 (by decide)
          have hbw2 := hbw1.trans b2
          have hkw2 := hkw1.trans k2
          have hsz2 := Nat.le_trans hsz1 b2.size
          have hx0 : W2.cell? ⟨w.heap.size, 0, none⟩ = some (.int .u8 (k : Nat)) := by rw [Lib.cell_of_heap hbx2]; rfl
          have hx2 : W2.cell? ⟨w.heap.size, 2, none⟩ = some (.slice (some ⟨kb, koff, none⟩) ks.length kcap) := by rw [Lib.cell_of_heap hbx2]; rfl
          have hy0 : W2.cell? ⟨wr.heap.size, 0, none⟩ = some (.int .u8 (k' : Nat)) := by rw [Lib.cell_of_heap hin2]; rfl
          have hy1 : W2.cell? ⟨wr.heap.size, 1, none⟩ = some (.string t') := by rw [Lib.cell_of_heap hin2]; rfl
          have hy2 : W2.cell? ⟨wr.heap.size, 2, none⟩ = some (.slice a2' n2' p2') := by rw [Lib.cell_of_heap hin2]; rfl
          have hy3 : W2.cell? ⟨wr.heap.size, 3, none⟩ = some (.slice a3' n3' p3') := by rw [Lib.cell_of_heap hin2]; rfl
          rw [show Lib.byteCells (l0 ++ (acc ++ quoL key.data.toList)) ++ [Value.int .u8 58] = Lib.byteCells (l0 ++ (acc ++ quoL key.data.toList ++ [58])) from by simp [Lib.byteCells]] at hI2
          go_wp2_with fail
          refine (ih w0 B b v _ _ _ _ _ _ (by omega) (by omega) hB hd hgv (by simp only [List.length_append, List.length_cons, List.length_nil]; omega) (hw.trans hbw2) hI2 hsz2).mono ?_
          rintro e W3 ⟨rfl, hI3, b3, k3⟩
          have hbx3 := box_kept k3 hbx2 hnb1 (by decide)
          go_wp2_with fail
          go_roundw
          case rel =>
            refine ⟨i + 1, _, hlt, by go_num, ?_, by rw [List.append_assoc] at hI3; exact hI3, hbw2.trans b3, hkw2.trans k3, hbx3⟩
            (try rw [hk7]); rw [← Hl.out.2]
            simp only [List.append_assoc, List.nil_append]
          case measure => simp [intOf]; omega
    · have Htx : Hid (acc = textI (k == 7) 0 ks l) := by
        rw [← htx, List.drop_eq_nil_of_le (by omega)]
        simp [textI, Hid]
      go_wp2_with fail
      go_end0
      rw [Htx.out] at hI
      exact ⟨rfl, hI, hbw, hkw⟩

theorem textV_list (k : Nat) (t : ByteArray) (ks : List ByteArray) (l : List JV) (h : k = 6 ∨ k = 7) : textV (.mk k t ks l) = (if k = 6 then 91 else 123) :: (textI (k == 7) 0 ks l ++ [if k = 6 then 93 else 125]) := by
  rcases h with rfl | rfl
  · simp [textV]
  · simp [textV]
set_option maxRecDepth 10000000 in
set_option maxHeartbeats 8000000 in
theorem write_step (n : Nat) (ih : WriteAt n) : WriteAt (n + 1) := by
  intro w0 B b v c0 c1 c2 c3 l0 w hsz hS hB hv hg hlen hw hb hBw
  have hv' := hv
  obtain ⟨k, t, ks, l⟩ := v
  have hg' := hg
  simp only [IsV] at hv'
  obtain ⟨rfl, rfl, ⟨ka, kcap, rfl, _⟩, la, lcap, rfl, _⟩ := hv'
  simp only [goodV] at hg'
  simp only [sizeV] at hsz hS
  have hll : l.length ≤ 1000000000 := by
    have := sizeL_len l
    omega
  have hga := hg'.1
  have hblt := bld_lt hb
  have hI0 := Lib.IsBuilderF.alloc hb (.cells #[.int .u8 (k : Nat), .string t, .slice ka ks.length kcap, .slice la l.length lcap] 26)
  have hbw0 := (Below.refl B w).alloc hBw (.cells #[.int .u8 (k : Nat), .string t, .slice ka ks.length kcap, .slice la l.length lcap] 26)
  have hkw0 := Lib.OthersKept.alloc (Lib.OthersKept.refl 5 (some b) w) (.cells #[.int .u8 (k : Nat), .string t, .slice ka ks.length kcap, .slice la l.length lcap] 26)
  have hbx0 : (w.alloc (.cells #[.int .u8 (k : Nat), .string t, .slice ka ks.length kcap, .slice la l.length lcap] 26)).heap[w.heap.size]? = some (.cells #[.int .u8 (k : Nat), .string t, .slice ka ks.length kcap, .slice la l.length lcap] 26 (0, 0)) := heap_alloc_new w _
  have hsz0 : B ≤ (w.alloc (.cells #[.int .u8 (k : Nat), .string t, .slice ka ks.length kcap, .slice la l.length lcap] 26)).heap.size := by simp; omega
  have hnb1 : w.heap.size ≠ b := by omega
  clear hg'
  by_cases k1 : k = 1
  · subst k1
    go_enter Tryz.func40, Tryz.ntmps40
    go_wp2_with fail
    refine (bldStr B b _ _ _ hI0 (by rw [Lib.byteCells_length, show (ByteArray.mk #[110, 117, 108, 108]).size = 4 from rfl]; omega) hsz0).mono ?_
    rintro e W1 ⟨rfl, hI1, b1, q1⟩
    go_wp2_with fail
    go_end0
    refine ⟨rfl, ?_, hbw0.trans b1, hkw0.trans q1⟩
    rw [Lib.byteCells_append]
    simp only [textV]
    exact hI1
  by_cases k2 : k = 2
  · subst k2
    go_enter Tryz.func40, Tryz.ntmps40
    go_wp2_with fail
    refine (bldStr B b _ _ _ hI0 (by rw [Lib.byteCells_length, show (ByteArray.mk #[102, 97, 108, 115, 101]).size = 5 from rfl]; omega) hsz0).mono ?_
    rintro e W1 ⟨rfl, hI1, b1, q1⟩
    go_wp2_with fail
    go_end0
    refine ⟨rfl, ?_, hbw0.trans b1, hkw0.trans q1⟩
    rw [Lib.byteCells_append]
    simp only [textV]
    exact hI1
  by_cases k3 : k = 3
  · subst k3
    go_enter Tryz.func40, Tryz.ntmps40
    go_wp2_with fail
    refine (bldStr B b _ _ _ hI0 (by rw [Lib.byteCells_length, show (ByteArray.mk #[116, 114, 117, 101]).size = 4 from rfl]; omega) hsz0).mono ?_
    rintro e W1 ⟨rfl, hI1, b1, q1⟩
    go_wp2_with fail
    go_end0
    refine ⟨rfl, ?_, hbw0.trans b1, hkw0.trans q1⟩
    rw [Lib.byteCells_append]
    simp only [textV]
    exact hI1
  by_cases k4 : k = 4
  · subst k4
    have ht : textV (.mk 4 t ks l) = t.data.toList := by simp [textV]
    rw [ht] at hlen ⊢
    rw [← Lib.size_eq] at hlen
    go_enter Tryz.func40, Tryz.ntmps40
    go_wp2_with fail
    refine (bldStr B b _ _ _ hI0 (by rw [Lib.byteCells_length]; omega) hsz0).mono ?_
    rintro e W1 ⟨rfl, hI1, b1, q1⟩
    go_wp2_with fail
    go_end0
    refine ⟨rfl, ?_, hbw0.trans b1, hkw0.trans q1⟩
    rw [Lib.byteCells_append]
    exact hI1
  by_cases k5 : k = 5
  · subst k5
    have ht : textV (.mk 5 t ks l) = quoL t.data.toList := by simp [textV]
    rw [ht] at hlen ⊢
    have hq := quoB_posT t.data.toList
    rw [← Lib.size_eq] at hq
    unfold quoL at hlen
    simp only [List.length_append, List.length_cons, List.length_nil] at hlen
    go_enter Tryz.func40, Tryz.ntmps40
    go_wp2_with fail
    refine (quote_any B b _ t _ hI0 hga (by omega) (by omega) hsz0).mono ?_
    rintro e W1 ⟨rfl, hI1, b1, q1⟩
    go_wp2_with fail
    go_end0
    exact ⟨rfl, hI1, hbw0.trans b1, hkw0.trans q1⟩
  by_cases k6 : k = 6
  · subst k6
    rw [textV_list 6 t ks l (by decide)] at hlen ⊢
    simp only [List.length_append, List.length_cons, List.length_nil] at hlen
    go_enter Tryz.func40, Tryz.ntmps40
    go_wp2_with fail
    refine (bldByte B b _ 91 _ hI0 (by rw [Lib.byteCells_length]; omega) hsz0).mono ?_
    rintro e W1 ⟨rfl, hI1, b1, q1⟩
    have hbx1 := box_kept q1 hbx0 hnb1 (by decide)
    have hsz1 := Nat.le_trans hsz0 b1.size
    have hx0 : W1.cell? ⟨w.heap.size, 0, none⟩ = some (.int .u8 6) := by rw [Lib.cell_of_heap hbx1]; rfl
    have hx1 : W1.cell? ⟨w.heap.size, 1, none⟩ = some (.string t) := by rw [Lib.cell_of_heap hbx1]; rfl
    have hx2 : W1.cell? ⟨w.heap.size, 2, none⟩ = some (.slice ka ks.length kcap) := by rw [Lib.cell_of_heap hbx1]; rfl
    have hx3 : W1.cell? ⟨w.heap.size, 3, none⟩ = some (.slice la l.length lcap) := by rw [Lib.cell_of_heap hbx1]; rfl
    rw [show Lib.byteCells l0 ++ [Value.int .u8 91] = Lib.byteCells (l0 ++ [91]) from by simp [Lib.byteCells]] at hI1
    go_wp2_with fail
    refine (writeList_at n ih w0 B b 6 t ks l _ _ _ _ (l0 ++ [91]) _ (by omega) (by omega) hB hv hg (by simp only [List.length_append, List.length_cons, List.length_nil]; omega) ((hw.trans hbw0).trans b1) hI1 hsz1 hll).mono ?_
    rintro e W2 ⟨rfl, hI2, b2, q2⟩
    have hsz2 := Nat.le_trans hsz1 b2.size
    go_wp2_with fail
    refine (bldByte B b _ 93 _ hI2 (by rw [Lib.byteCells_length]; simp only [List.length_append, List.length_cons, List.length_nil]; omega) hsz2).mono ?_
    rintro e W3 ⟨rfl, hI3, b3, q3⟩
    go_wp2_with fail
    go_end0
    refine ⟨rfl, ?_, ((hbw0.trans b1).trans b2).trans b3, ((hkw0.trans q1).trans q2).trans q3⟩
    rw [show Lib.byteCells (l0 ++ [91] ++ textI (6 == 7) 0 ks l) ++ [Value.int .u8 93] = Lib.byteCells (l0 ++ (if 6 = 6 then 91 else 123) :: (textI (6 == 7) 0 ks l ++ [if 6 = 6 then 93 else 125])) from by simp [Lib.byteCells]] at hI3
    exact hI3
  by_cases k7 : k = 7
  · subst k7
    rw [textV_list 7 t ks l (by decide)] at hlen ⊢
    simp only [List.length_append, List.length_cons, List.length_nil] at hlen
    go_enter Tryz.func40, Tryz.ntmps40
    go_wp2_with fail
    refine (bldByte B b _ 123 _ hI0 (by rw [Lib.byteCells_length]; omega) hsz0).mono ?_
    rintro e W1 ⟨rfl, hI1, b1, q1⟩
    have hbx1 := box_kept q1 hbx0 hnb1 (by decide)
    have hsz1 := Nat.le_trans hsz0 b1.size
    have hx0 : W1.cell? ⟨w.heap.size, 0, none⟩ = some (.int .u8 7) := by rw [Lib.cell_of_heap hbx1]; rfl
    have hx1 : W1.cell? ⟨w.heap.size, 1, none⟩ = some (.string t) := by rw [Lib.cell_of_heap hbx1]; rfl
    have hx2 : W1.cell? ⟨w.heap.size, 2, none⟩ = some (.slice ka ks.length kcap) := by rw [Lib.cell_of_heap hbx1]; rfl
    have hx3 : W1.cell? ⟨w.heap.size, 3, none⟩ = some (.slice la l.length lcap) := by rw [Lib.cell_of_heap hbx1]; rfl
    rw [show Lib.byteCells l0 ++ [Value.int .u8 123] = Lib.byteCells (l0 ++ [123]) from by simp [Lib.byteCells]] at hI1
    go_wp2_with fail
    refine (writeList_at n ih w0 B b 7 t ks l _ _ _ _ (l0 ++ [123]) _ (by omega) (by omega) hB hv hg (by simp only [List.length_append, List.length_cons, List.length_nil]; omega) ((hw.trans hbw0).trans b1) hI1 hsz1 hll).mono ?_
    rintro e W2 ⟨rfl, hI2, b2, q2⟩
    have hsz2 := Nat.le_trans hsz1 b2.size
    go_wp2_with fail
    refine (bldByte B b _ 125 _ hI2 (by rw [Lib.byteCells_length]; simp only [List.length_append, List.length_cons, List.length_nil]; omega) hsz2).mono ?_
    rintro e W3 ⟨rfl, hI3, b3, q3⟩
    go_wp2_with fail
    go_end0
    refine ⟨rfl, ?_, ((hbw0.trans b1).trans b2).trans b3, ((hkw0.trans q1).trans q2).trans q3⟩
    rw [show Lib.byteCells (l0 ++ [123] ++ textI (7 == 7) 0 ks l) ++ [Value.int .u8 125] = Lib.byteCells (l0 ++ (if 7 = 6 then 91 else 123) :: (textI (7 == 7) 0 ks l ++ [if 7 = 6 then 93 else 125])) from by simp [Lib.byteCells]] at hI3
    exact hI3
  have ht : textV (.mk k t ks l) = [] := by simp [textV, k1, k2, k3, k4, k5, k6, k7]
  rw [ht, List.append_nil]
  have z : ∀ m : Nat, k ≠ m → ((k : Int) == (m : Int)) = false := fun m h => by rw [int_beq]; exact beq_eq_false_iff_ne.2 h
  have z1 : ((k : Int) == 1) = false := z 1 k1
  have z2 : ((k : Int) == 2) = false := z 2 k2
  have z3 : ((k : Int) == 3) = false := z 3 k3
  have z4 : ((k : Int) == 4) = false := z 4 k4
  have z5 : ((k : Int) == 5) = false := z 5 k5
  have z6 : ((k : Int) == 6) = false := z 6 k6
  have z7 : ((k : Int) == 7) = false := z 7 k7
  clear z
  go_enter Tryz.func40, Tryz.ntmps40
  go_wp2_with fail
  go_end0
  exact ⟨rfl, hI0, hbw0, hkw0⟩
theorem write_any : ∀ n, WriteAt n := by
  intro n
  induction n with
  | zero =>
    intro w0 B b v c0 c1 c2 c3 l0 w hsz
    obtain ⟨k, t, ks, l⟩ := v
    simp only [sizeV] at hsz
    omega
  | succ n ih => exact write_step n ih
end Go.Proofs.YtakdhfjlhkejdaaGreatDoor

/-
  CONTRACTS of package json: Print and May, given what check answers.
-/
set_option linter.unusedVariables false
namespace Go.Proofs.YtakdhfjlhkejdaaGreatDoor
open Go.RowKit
/-- what Print answers where check has answered E -/
def printS (E : Int) (v : JV) : ByteArray := if E = 0 then fitS ⟨(textV v).toArray⟩ else ⟨#[]⟩
def printE (E : Int) (v : JV) : Int := if E = 0 then fitE ⟨(textV v).toArray⟩ else E
theorem print_yes (v : JV) : printS 0 v = fitS ⟨(textV v).toArray⟩ ∧ printE 0 v = fitE ⟨(textV v).toArray⟩ := ⟨if_pos rfl, if_pos rfl⟩
theorem print_no {E : Int} (h : E ≠ 0) (v : JV) : printS E v = ⟨#[]⟩ ∧ printE E v = E := ⟨if_neg h, if_neg h⟩
set_option maxRecDepth 10000000 in
set_option maxHeartbeats 4000000 in
theorem print_of (v : JV) (c0 c1 c2 c3 : Value) (E : Int) (w : World) (hv : IsV w 0 v c0 c1 c2 c3) (hsz : sizeV v ≤ 1000000000)
    (hE : ∀ w2, Below w.heap.size w w2 → Calls Tryz.prog 39 #[.agg #[c0, c1, c2, c3]] w2 fun e w' => e = .returned (.int .i64 E) ∧ Below w2.heap.size w2 w') (hgood : E = 0 → goodV v ∧ (textV v).length ≤ 1000000000) :
    Calls Tryz.prog 15 #[.agg #[c0, c1, c2, c3]] w fun e w' => e = .returned (.tuple #[.string (printS E v), .int .i64 (printE E v)]) ∧ Below w.heap.size w w' := by
  have hv2 := hv
  obtain ⟨k0, t0, ka, kl, kc, la, ll, lc, rfl, rfl, rfl, rfl⟩ := hv.shape
  have hbel : ∀ A : Obj, Below w.heap.size w (w.alloc A) := fun A => (Below.refl w.heap.size w).alloc (Nat.le_refl _) A
  have hnew := heap_alloc_new w (.cells #[.int .u8 (k0 : Nat), .string t0, .slice ka kl kc, .slice la ll lc] 26)
  by_cases h0 : E = 0
  · subst h0
    have Hf := Lib.hid (print_yes v)
    obtain ⟨hg1, hg2⟩ := hgood rfl
    go_enter Tryz.func15, Tryz.ntmps15
    go_wp2_with (go_at_call 39; refine (hE _ (hbel _)).mono ?_; rintro e w1 ⟨rfl, hb1⟩; have hbox := (hb1.block w.heap.size (by simp)).trans hnew; have x0 := Lib.cell_of_heap ((Below.heap_alloc w1 (.cells #[.pointer none, .slice none 0 0] 70) w.heap.size (Array.getElem?_eq_some_iff.1 hbox).1).trans hbox))
    have hA1 : Below w.heap.size w w1 := (hbel _).trans (hb1.mono (by simp))
    have hv1 := IsV.stays (Below.stays hA1 0) (Nat.le_refl 0) _ _ _ _ _ hv2
    have hI := Lib.IsBuilderF.of (Lib.fresh_isBuilder 70 5 w1)
    refine (write_any (sizeV v) w1 w1.heap.size w1.heap.size v _ _ _ _ [] _ (Nat.le_refl _) hsz (Nat.le_refl _) hv1 hg1 (by simp; omega) ((Below.refl _ w1).alloc (Nat.le_refl _) _) hI (by simp)).mono ?_
    rintro e w2 ⟨rfl, h2, b2, k2⟩
    go_wp2_with fail
    have hsz2 := b2.size
    refine (Tryz.Builder_String_any_k w1.heap.size w1.heap.size _ _ h2 (by simp at hsz2; omega)).mono ?_
    rintro e w3 ⟨rfl, h3, b3, k3⟩
    have hq : (ByteArray.mk ([] ++ textV v).toArray).size ≤ maxLen := by
      show ([] ++ textV v).length ≤ maxLen
      unfold maxLen
      rw [List.nil_append]
      omega
    go_wp2_with fail
    refine (fitting_any _ _ hq).mono ?_
    rintro e w' ⟨rfl, rfl⟩
    go_wp2_with fail
    go_ret2
    refine ⟨ret_se Hf.out.1.symm Hf.out.2.symm, ?_⟩
    exact hA1.trans ((((Below.refl w1.heap.size w1).alloc (Nat.le_refl _) _).trans (b2.mono (Nat.le_refl _))).trans b3 |>.mono hA1.size)
  · have Hf := Lib.hid (print_no h0 v)
    go_enter Tryz.func15, Tryz.ntmps15
    go_wp2_with (go_at_call 39; refine (hE _ (hbel _)).mono ?_; rintro e w1 ⟨rfl, hb1⟩)
    go_ret2
    exact ⟨ret_se Hf.out.1.symm Hf.out.2.symm, (hbel _).trans (hb1.mono (by simp))⟩
set_option maxRecDepth 10000000 in
set_option maxHeartbeats 4000000 in
theorem may_of (v : JV) (c0 c1 c2 c3 : Value) (E : Int) (w : World) (hv : IsV w 0 v c0 c1 c2 c3) (hsz : sizeV v ≤ 1000000000)
    (hE : ∀ w2, Below w.heap.size w w2 → Calls Tryz.prog 39 #[.agg #[c0, c1, c2, c3]] w2 fun e w' => e = .returned (.int .i64 E) ∧ Below w2.heap.size w2 w') (hgood : E = 0 → goodV v ∧ (textV v).length ≤ 1000000000) :
    Calls Tryz.prog 19 #[.agg #[c0, c1, c2, c3]] w fun e w' => e = .returned (.int .i64 (printE E v)) ∧ Below w.heap.size w w' := by
  have hv2 := hv
  obtain ⟨k0, t0, ka, kl, kc, la, ll, lc, rfl, rfl, rfl, rfl⟩ := hv.shape
  have hbel : ∀ A : Obj, Below w.heap.size w (w.alloc A) := fun A => (Below.refl w.heap.size w).alloc (Nat.le_refl _) A
  have hP := fun (w2 : World) (hb : Below w.heap.size w w2) => print_of v _ _ _ _ E w2 (IsV.stays (Below.stays hb 0) (Nat.le_refl 0) _ _ _ _ _ hv2) hsz (fun w3 h => hE w3 (hb.trans (h.mono hb.size))) hgood
  generalize printE E v = pe at *
  generalize printS E v = ps at *
  clear hE hgood hv hv2
  go_enter Tryz.func19, Tryz.ntmps19
  go_wp2_with (go_at_call 15; refine (hP _ (hbel _)).mono ?_; rintro e w1 ⟨rfl, hb1⟩)
  go_ret
  exact ⟨rfl, (hbel _).trans (hb1.mono (by simp))⟩
end Go.Proofs.YtakdhfjlhkejdaaGreatDoor

/-
  CONTRACTS of package json: alike (two values but for what their lists have).
-/
set_option linter.unusedVariables false
namespace Go.Proofs.YtakdhfjlhkejdaaGreatDoor
open Go.RowKit
theorem keysEq_any (ks ls : List ByteArray) (c d : Value) (lo lo' : Nat) (w : World) (hk : IsKeys w lo ks c) (hl : IsKeys w lo' ls d) (hn : ks.length ≤ maxLen) (hm : ls.length ≤ maxLen) :
    Calls Tryz.prog 90 #[c, d] w fun e w' => e = .returned (.bool (decide (ks = ls))) ∧ ∃ q, w' = w.drewN q := by
  unfold maxLen at hn hm
  obtain ⟨a, cap, rfl, hk⟩ := hk
  obtain ⟨b, dap, rfl, hl⟩ := hl
  by_cases hlen : ks.length = ls.length
  · rcases hk with rfl | ⟨kb, ko, rfl, _, hk⟩
    · refine (Tryz.slices_Equal_string_empty a b cap ls.length dap w (by omega)).mono ?_
      rintro e w' ⟨rfl, rfl⟩
      refine ⟨?_, 0, rfl⟩
      congr 3
      simp at hlen
      have h0 : ls = [] := List.length_eq_zero_iff.1 hlen.symm
      subst h0
      simp
    · rcases hl with rfl | ⟨lb, l1, rfl, _, hl⟩
      · have h0 : ks = [] := List.length_eq_zero_iff.1 (by simpa using hlen)
        subst h0
        refine (Tryz.slices_Equal_string_empty _ b cap _ dap w (by simp)).mono ?_
        rintro e w' ⟨rfl, rfl⟩
        exact ⟨rfl, 0, rfl⟩
      · refine (Tryz.slices_Equal_string kb ko ks.length cap lb l1 ls.length dap ks ls w (by omega) (by omega) (by omega) (by omega) hk hl).mono ?_
        rintro e w' ⟨rfl, hq⟩
        rw [List.take_length, List.take_length]
        exact ⟨rfl, hq⟩
  · refine (Tryz.slices_Equal_string_lens a b ks.length cap ls.length dap w hlen).mono ?_
    rintro e w' ⟨rfl, rfl⟩
    refine ⟨?_, 0, rfl⟩
    rw [decide_eq_false (fun e => hlen (by rw [e]))]
theorem tl_eq (t t' : ByteArray) : (t.toList = t'.toList) = (t = t') := by
  rw [ByteArray.toList_eq, ByteArray.toList_eq]
  exact propext ⟨fun h => ByteArray.ext (Array.toList_inj.mp h), fun h => by rw [h]⟩
theorem nat_int_beq (n m : Nat) : ((n : Int) == (m : Int)) = decide (n = m) := by rw [int_beq]; rfl
/-- alike, in the mathematics -/
def alikeB (k k' : Nat) (t t' : ByteArray) (ks ks' : List ByteArray) (n n' : Nat) : Bool := decide ((k : Int) = (k' : Int)) && decide (t = t') && decide (ks = ks') && decide (n = n')
set_option maxRecDepth 10000000 in
set_option maxHeartbeats 8000000 in
theorem alike_any (k k' : Nat) (t t' : ByteArray) (ks ks' : List ByteArray) (c2 d2 : Value) (a a' : Option Addr) (n n' p p' lo lo' : Nat) (w : World) (hk : IsKeys w lo ks c2) (hk' : IsKeys w lo' ks' d2)
    (hn : ks.length ≤ maxLen) (hn' : ks'.length ≤ maxLen) (hl : n ≤ maxLen) (hl' : n' ≤ maxLen) :
    Calls Tryz.prog 57 #[.agg #[.int .u8 k, .string t, c2, .slice a n p], .agg #[.int .u8 k', .string t', d2, .slice a' n' p']] w fun e w' =>
      e = .returned (.bool (alikeB k k' t t' ks ks' n n')) ∧ Below w.heap.size w w' := by
  unfold maxLen at hl hl'
  have hka := fun w' (h : Stays 0 w w') => keysEq_any ks ks' c2 d2 0 0 w' (hk.stays (w' := w') (lo' := 0) (fun x c _ hx => h x c (Nat.zero_le _) hx) (Nat.zero_le _)) (hk'.stays (w' := w') (lo' := 0) (fun x c _ hx => h x c (Nat.zero_le _) hx) (Nat.zero_le _)) hn hn'
  obtain ⟨ka, kc, rfl, _⟩ := hk
  obtain ⟨la, lc, rfl, _⟩ := hk'
  obtain ⟨X, hX⟩ : ∃ X, X = alikeB k k' t t' ks ks' n n' := ⟨_, rfl⟩
  rw [← hX]
  have HX := Lib.hid hX
  clear hX
  generalize hr : decide (ks = ks') = r at hka
  have Hr := Lib.hid hr
  clear hr
  have hst := fun A B => Below.stays (((Below.refl w.heap.size w).alloc (Nat.le_refl _) A).alloc (by simp) B) 0
  have hbel := fun A B => (((Below.refl w.heap.size w).alloc (Nat.le_refl _) A).alloc (by simp) B)
  go_enter Tryz.func57, Tryz.ntmps57
  go_wp2_with (go_at_call 90; refine (hka _ (hst _ _)).mono ?_; clear hka; rintro e w' ⟨rfl, q, rfl⟩)
  all_goals go_ret
  all_goals refine ⟨ret_bool ?_, by first | exact hbel _ _ | exact below_drewN (hbel _ _) _⟩
  all_goals have h1 := HX.out
  all_goals have h2 := Hr.out
  all_goals rw [h1]
  all_goals unfold alikeB
  all_goals rw [h2]
  all_goals clear h1 h2 HX Hr hst hbel
  all_goals simp only [← tl_eq]
  all_goals simp [*]
  exact nat_int_beq n n'
end Go.Proofs.YtakdhfjlhkejdaaGreatDoor
