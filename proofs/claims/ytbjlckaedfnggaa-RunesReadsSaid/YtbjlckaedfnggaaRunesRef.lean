/-
  CONTRACTS of the document's own answers (codicilref01): the same functions of the same values as package runes' ones. No conditions but the texts' sizes.
-/
import Derived.Test.YtbjlckaedfnggaaRunesBase
import Derived.Deep.RegionWith
import Derived.Lib.SlBytesConst
namespace Go.Proofs.Ytbjlckaedfnggaa
open Go.RowKit

theorem refPoint_any (r : Int) (w : World) :
    Calls Try.prog 30 #[.int .i32 r] w fun e w' => e = .returned (.bool (pointB r)) ∧ w = w' := by
  by_cases h1 : 0 ≤ r
  · by_cases h2 : r ≤ 1114111
    · by_cases h3 : r < 55296
      · go_enter Try.func30, Try.ntmps30
        go_wp2
        all_goals go_ret
        all_goals exact ⟨ret_bool (by unfold pointB validRune; simp; omega), rfl⟩
      · by_cases h4 : 57343 < r
        all_goals go_enter Try.func30, Try.ntmps30
        all_goals go_wp2
        all_goals go_ret
        all_goals exact ⟨ret_bool (by unfold pointB validRune; simp; omega), rfl⟩
    · go_enter Try.func30, Try.ntmps30
      go_wp2
      all_goals go_ret
      all_goals exact ⟨ret_bool (by unfold pointB validRune; simp; omega), rfl⟩
  · go_enter Try.func30, Try.ntmps30
    go_wp2
    all_goals go_ret
    all_goals exact ⟨ret_bool (by unfold pointB validRune; simp; omega), rfl⟩

theorem conv_row (w : World) (xs : List Int) (n : Nat) (hn : xs.length = n) :
    (convert 41 9 (.slice (some ⟨w.heap.size, 0, none⟩) n n)).run Try.prog (w.alloc (.cells (xs.map (Value.int .u8)).toArray 5)) = .ok (.string (strOfNums xs)) (w.alloc (.cells (xs.map (Value.int .u8)).toArray 5)) := by
  refine run_convert_bytes_arg _ 41 5 Try.underlying41 Try.underlying5 _ 0 n n xs hn ?_ 9 Try.underlying9
  intro i hi
  rw [Nat.zero_add]
  have := World.cell?_alloc_mark w (xs.map (Value.int .u8)).toArray 5 (0, 0) i
  rw [this]
  simp [List.getD, List.getElem?_eq_getElem (show i < xs.length by omega)]

theorem enc_int {r : Int} (h : pointB r = true) : ∃ c : Nat, r = c ∧ validRune c = true ∧ (bytesS r).data.toList = encL c := by
  have hv : validRune r = true := by unfold pointB at h; exact h
  have h0 : 0 ≤ r := by
    unfold validRune at hv
    have := of_decide_eq_true hv
    omega
  obtain ⟨c, rfl⟩ := Int.eq_ofNat_of_zero_le h0
  refine ⟨c, rfl, hv, ?_⟩
  have e := bytesS_yes h
  have e2 : (Utf8.encode (c : Int)).data.toList = encL c := by rw [encL]
  rw [← e2, e]
theorem same_bytes {a b : ByteArray} (h : a.data.toList = b.data.toList) : a = b := by
  apply ByteArray.ext
  exact Array.toList_inj.1 h
theorem byte_eq {x : Int} {n : Nat} (h : x = n) : UInt8.ofNat x.toNat = UInt8.ofNat n := by rw [h, Int.toNat_natCast]
theorem u8_cast {x : Int} {n : Nat} (h : x = ((n % 256 : Nat) : Int)) : UInt8.ofNat x.toNat = UInt8.ofNat n := by
  rw [h, Int.toNat_natCast]
  apply UInt8.toNat_inj.mp
  simp
theorem str1 {r : Int} (h : pointB r = true) (h1 : r < 128) : strOfNums [r] = bytesS r := by
  obtain ⟨c, rfl, hv, e⟩ := enc_int h
  apply same_bytes
  have hb := vr_lt hv
  rw [e, enc1 c (by omega), strOfNums_data]
  exact cons_eq (u8_cast (by omega)) rfl
theorem str2 {r : Int} (h : pointB r = true) (h0 : 128 ≤ r) (h1 : r < 2048) : strOfNums [192 + r / 64, 128 + r % 64] = bytesS r := by
  obtain ⟨c, rfl, hv, e⟩ := enc_int h
  apply same_bytes
  have hb := vr_lt hv
  rw [e, enc2 c (by omega) (by omega), strOfNums_data]
  exact cons_eq (u8_cast (by omega)) (cons_eq (u8_cast (by omega)) rfl)
theorem str3 {r : Int} (h : pointB r = true) (h0 : 2048 ≤ r) (h1 : r < 65536) : strOfNums [224 + r / 4096, 128 + r / 64 % 64, 128 + r % 64] = bytesS r := by
  obtain ⟨c, rfl, hv, e⟩ := enc_int h
  apply same_bytes
  have hb := vr_lt hv
  rw [e, enc3 c (by omega) (by omega) hv, strOfNums_data]
  exact cons_eq (u8_cast (by omega)) (cons_eq (u8_cast (by omega)) (cons_eq (u8_cast (by omega)) rfl))
theorem str4 {r : Int} (h : pointB r = true) (h0 : 65536 ≤ r) : strOfNums [240 + r / 262144, 128 + r / 4096 % 64, 128 + r / 64 % 64, 128 + r % 64] = bytesS r := by
  obtain ⟨c, rfl, hv, e⟩ := enc_int h
  apply same_bytes
  have hb := vr_lt hv
  rw [e, enc4 c (by omega) hv, strOfNums_data]
  exact cons_eq (u8_cast (by omega)) (cons_eq (u8_cast (by omega)) (cons_eq (u8_cast (by omega)) (cons_eq (u8_cast (by omega)) rfl)))

theorem refBytes_any (r : Int) (w : World) :
    Calls Try.prog 23 #[.int .i32 r] w fun e w' => e = .returned (.string (bytesS r)) ∧ Below w.heap.size w w' := by
  cases hp : pointB r with
  | false =>
    go_enter Try.func23, Try.ntmps23
    go_wp2_with (go_at_call 30; refine (refPoint_any _ _).mono ?_; rintro e w' ⟨rfl, rfl⟩)
    go_ret
    exact ⟨ret_str (bytesS_no hp), Below.refl _ _⟩
  | true =>
    have h0 : 0 ≤ r := by
      unfold pointB validRune at hp
      have := of_decide_eq_true hp
      omega
    have h9 : r ≤ 1114111 := by
      unfold pointB validRune at hp
      have := of_decide_eq_true hp
      omega
    have cv1 := fun (w : World) (a : Int) => conv_row w [a] 1 rfl
    have cv2 := fun (w : World) (a b : Int) => conv_row w [a, b] 2 rfl
    have cv3 := fun (w : World) (a b c : Int) => conv_row w [a, b, c] 3 rfl
    have cv4 := fun (w : World) (a b c d : Int) => conv_row w [a, b, c, d] 4 rfl
    simp only [List.map_cons, List.map_nil] at cv1 cv2 cv3 cv4
    by_cases h1 : r < 128
    · have es := Lib.hid (str1 hp h1)
      go_enter Try.func23, Try.ntmps23
      go_wp2_with (go_at_call 30; refine (refPoint_any _ _).mono ?_; rintro e w' ⟨rfl, rfl⟩)
      go_ret
      exact ⟨ret_str es.out, (Below.refl _ _).alloc (Nat.le_refl _) _⟩
    · by_cases h2 : r < 2048
      · have es := Lib.hid (str2 hp (by omega) h2)
        go_enter Try.func23, Try.ntmps23
        go_wp2_with (go_at_call 30; refine (refPoint_any _ _).mono ?_; rintro e w' ⟨rfl, rfl⟩)
        go_ret
        exact ⟨ret_str es.out, (Below.refl _ _).alloc (Nat.le_refl _) _⟩
      · by_cases h3 : r < 65536
        · have es := Lib.hid (str3 hp (by omega) h3)
          go_enter Try.func23, Try.ntmps23
          go_wp2_with (go_at_call 30; refine (refPoint_any _ _).mono ?_; rintro e w' ⟨rfl, rfl⟩)
          go_ret
          exact ⟨ret_str es.out, (Below.refl _ _).alloc (Nat.le_refl _) _⟩
        · have es := Lib.hid (str4 hp (by omega))
          go_enter Try.func23, Try.ntmps23
          go_wp2_with (go_at_call 30; refine (refPoint_any _ _).mono ?_; rintro e w' ⟨rfl, rfl⟩)
          go_ret
          exact ⟨ret_str es.out, (Below.refl _ _).alloc (Nat.le_refl _) _⟩

/-- the byte of place i; 0 behind the end -/
def byI (s : ByteArray) (i : Nat) : Int := (s.data.toList.getD i 0).toNat
theorem byI_bd (s : ByteArray) (i : Nat) : 0 ≤ byI s i ∧ byI s i < 256 := by
  have := (s.data.toList.getD i 0).toNat_lt
  unfold byI
  omega
theorem by_get {s : ByteArray} {i : Nat} (h : i < s.size) : ((s[i]'h).toNat : Int) = byI s i := by
  unfold byI
  have : s.data.toList.getD i 0 = s[i]'h := by
    rw [List.getD_eq_getElem?_getD, List.getElem?_eq_getElem (by rw [← Lib.size_eq]; exact h)]
    rfl
  rw [this]

end Go.Proofs.Ytbjlckaedfnggaa
