/-
  CONTRACTS of the document's own answers for code points (codicilref01), as far as codicilref02 calls them. No conditions but the texts' sizes. (Put together of XRunesMore, XRunesRef, XRunesFirst, XRunesReads.)
-/
import Derived.Test.YtakdhfjlhkejdaaGreatDoorN1
import Derived.Deep.RegionWith
import Derived.Lib.SlBytesConst
set_option linter.unusedSimpArgs false
set_option linter.unusedVariables false
set_option linter.unusedVariables false
namespace Go.Proofs.YtakdhfjlhkejdaaGreatDoor
open Go.RowKit
/-! ### First -/
theorem first_some {s : ByteArray} {c : Nat} (h : ptL s.data.toList = some c) : firstR s = c ∧ firstN s = (encL (c : Nat)).length ∧ firstB s = true := by
  unfold firstR firstN firstB
  rw [h]
  exact ⟨rfl, rfl, rfl⟩
theorem first_none {s : ByteArray} (h : ptL s.data.toList = none) : firstR s = 0 ∧ firstN s = 0 ∧ firstB s = false := by
  unfold firstR firstN firstB
  rw [h]
  exact ⟨rfl, rfl, rfl⟩
theorem ret_first {s : ByteArray} {a b : Int} {c : Bool} (h : firstR s = a ∧ firstN s = b ∧ firstB s = c) :
    Ending.returned (.tuple #[.int .i32 a, .int .i64 b, .bool c]) = .returned (.tuple #[.int .i32 (firstR s), .int .i64 (firstN s), .bool (firstB s)]) := by
  rw [h.1, h.2.1, h.2.2]
/-- the front of a text: a fault, or a code point -/
theorem front_at (s : ByteArray) (hp : 0 < s.size) :
    (brkS s ((Utf8.decode s 0).1 : Nat) = true → ptL s.data.toList = none) ∧
    (brkS s ((Utf8.decode s 0).1 : Nat) = false → ptL s.data.toList = some (Utf8.decode s 0).1 ∧ (Utf8.decode s 0).2 = (encL ((Utf8.decode s 0).1 : Nat)).length) := by
  have h := round_at s 0 hp
  have e : s.extract 0 s.size = s := by
    rw [Lib.extract_eq, List.drop_zero, List.take_of_length_le (by rw [Lib.size_eq]; omega), Lib.mk_data]
  rw [e, List.drop_zero] at h
  exact h
theorem pt_width {s : ByteArray} {c : Nat} (h : ptL s.data.toList = some c) : 1 ≤ (encL (c : Nat)).length ∧ (encL (c : Nat)).length ≤ s.size := by
  have := pt_drop h
  rw [Lib.size_eq]
  omega
theorem pt_empty {s : ByteArray} (h : ¬ 0 < s.size) : ptL s.data.toList = none := by
  have : s.data.toList = [] := List.eq_nil_of_length_eq_zero (by rw [← Lib.size_eq]; omega)
  rw [this]
  rfl


theorem refPoint_any (r : Int) (w : World) :
    Calls Tryz.prog 127 #[.int .i32 r] w fun e w' => e = .returned (.bool (pointB r)) ∧ w = w' := by
  by_cases h1 : 0 ≤ r
  · by_cases h2 : r ≤ 1114111
    · by_cases h3 : r < 55296
      · go_enter Tryz.func127, Tryz.ntmps127
        go_wp2
        all_goals go_ret
        all_goals exact ⟨ret_bool (by unfold pointB validRune; simp; omega), rfl⟩
      · by_cases h4 : 57343 < r
        all_goals go_enter Tryz.func127, Tryz.ntmps127
        all_goals go_wp2
        all_goals go_ret
        all_goals exact ⟨ret_bool (by unfold pointB validRune; simp; omega), rfl⟩
    · go_enter Tryz.func127, Tryz.ntmps127
      go_wp2
      all_goals go_ret
      all_goals exact ⟨ret_bool (by unfold pointB validRune; simp; omega), rfl⟩
  · go_enter Tryz.func127, Tryz.ntmps127
    go_wp2
    all_goals go_ret
    all_goals exact ⟨ret_bool (by unfold pointB validRune; simp; omega), rfl⟩

theorem conv_row (w : World) (xs : List Int) (n : Nat) (hn : xs.length = n) :
    (convert 52 9 (.slice (some ⟨w.heap.size, 0, none⟩) n n)).run Tryz.prog (w.alloc (.cells (xs.map (Value.int .u8)).toArray 5)) = .ok (.string (strOfNums xs)) (w.alloc (.cells (xs.map (Value.int .u8)).toArray 5)) := by
  refine run_convert_bytes_arg _ 52 5 Tryz.underlying52 Tryz.underlying5 _ 0 n n xs hn ?_ 9 Tryz.underlying9
  intro i hi
  rw [Nat.zero_add]
  have := World.cell?_alloc_mark w (xs.map (Value.int .u8)).toArray 5 (0, 0) i
  rw [this]
  simp [List.getD, List.getElem?_eq_getElem (show i < xs.length by omega)]

theorem enc_int {r : Int} (h : pointB r = true) : ∃ c : Nat, r = c ∧ validRune c = true ∧ (bytesS r).data.toList = encL c := by
  have hv : validRune r = true := by unfold pointB at h; exact h
  have h0 : 0 ≤ r := by
    unfold validRune at hv
    have := of_decide_eq_true hv
    omega
  obtain ⟨c, rfl⟩ := Int.eq_ofNat_of_zero_le h0
  refine ⟨c, rfl, hv, ?_⟩
  have e := bytesS_yes h
  have e2 : (Utf8.encode (c : Int)).data.toList = encL c := by rw [encL]
  rw [← e2, e]
theorem same_bytes {a b : ByteArray} (h : a.data.toList = b.data.toList) : a = b := by
  apply ByteArray.ext
  exact Array.toList_inj.1 h
theorem byte_eq {x : Int} {n : Nat} (h : x = n) : UInt8.ofNat x.toNat = UInt8.ofNat n := by rw [h, Int.toNat_natCast]
theorem u8_cast {x : Int} {n : Nat} (h : x = ((n % 256 : Nat) : Int)) : UInt8.ofNat x.toNat = UInt8.ofNat n := by
  rw [h, Int.toNat_natCast]
  apply UInt8.toNat_inj.mp
  simp
theorem str1 {r : Int} (h : pointB r = true) (h1 : r < 128) : strOfNums [r] = bytesS r := by
  obtain ⟨c, rfl, hv, e⟩ := enc_int h
  apply same_bytes
  have hb := vr_lt hv
  rw [e, enc1 c (by omega), strOfNums_data]
  exact cons_eq (u8_cast (by omega)) rfl
theorem str2 {r : Int} (h : pointB r = true) (h0 : 128 ≤ r) (h1 : r < 2048) : strOfNums [192 + r / 64, 128 + r % 64] = bytesS r := by
  obtain ⟨c, rfl, hv, e⟩ := enc_int h
  apply same_bytes
  have hb := vr_lt hv
  rw [e, enc2 c (by omega) (by omega), strOfNums_data]
  exact cons_eq (u8_cast (by omega)) (cons_eq (u8_cast (by omega)) rfl)
theorem str3 {r : Int} (h : pointB r = true) (h0 : 2048 ≤ r) (h1 : r < 65536) : strOfNums [224 + r / 4096, 128 + r / 64 % 64, 128 + r % 64] = bytesS r := by
  obtain ⟨c, rfl, hv, e⟩ := enc_int h
  apply same_bytes
  have hb := vr_lt hv
  rw [e, enc3 c (by omega) (by omega) hv, strOfNums_data]
  exact cons_eq (u8_cast (by omega)) (cons_eq (u8_cast (by omega)) (cons_eq (u8_cast (by omega)) rfl))
theorem str4 {r : Int} (h : pointB r = true) (h0 : 65536 ≤ r) : strOfNums [240 + r / 262144, 128 + r / 4096 % 64, 128 + r / 64 % 64, 128 + r % 64] = bytesS r := by
  obtain ⟨c, rfl, hv, e⟩ := enc_int h
  apply same_bytes
  have hb := vr_lt hv
  rw [e, enc4 c (by omega) hv, strOfNums_data]
  exact cons_eq (u8_cast (by omega)) (cons_eq (u8_cast (by omega)) (cons_eq (u8_cast (by omega)) (cons_eq (u8_cast (by omega)) rfl)))

theorem refBytes_any (r : Int) (w : World) :
    Calls Tryz.prog 99 #[.int .i32 r] w fun e w' => e = .returned (.string (bytesS r)) ∧ Below w.heap.size w w' := by
  cases hp : pointB r with
  | false =>
    go_enter Tryz.func99, Tryz.ntmps99
    go_wp2_with (go_at_call 127; refine (refPoint_any _ _).mono ?_; rintro e w' ⟨rfl, rfl⟩)
    go_ret
    exact ⟨ret_str (bytesS_no hp), Below.refl _ _⟩
  | true =>
    have h0 : 0 ≤ r := by
      unfold pointB validRune at hp
      have := of_decide_eq_true hp
      omega
    have h9 : r ≤ 1114111 := by
      unfold pointB validRune at hp
      have := of_decide_eq_true hp
      omega
    have cv1 := fun (w : World) (a : Int) => conv_row w [a] 1 rfl
    have cv2 := fun (w : World) (a b : Int) => conv_row w [a, b] 2 rfl
    have cv3 := fun (w : World) (a b c : Int) => conv_row w [a, b, c] 3 rfl
    have cv4 := fun (w : World) (a b c d : Int) => conv_row w [a, b, c, d] 4 rfl
    simp only [List.map_cons, List.map_nil] at cv1 cv2 cv3 cv4
    by_cases h1 : r < 128
    · have es := Lib.hid (str1 hp h1)
      go_enter Tryz.func99, Tryz.ntmps99
      go_wp2_with (go_at_call 127; refine (refPoint_any _ _).mono ?_; rintro e w' ⟨rfl, rfl⟩)
      go_ret
      exact ⟨ret_str es.out, (Below.refl _ _).alloc (Nat.le_refl _) _⟩
    · by_cases h2 : r < 2048
      · have es := Lib.hid (str2 hp (by omega) h2)
        go_enter Tryz.func99, Tryz.ntmps99
        go_wp2_with (go_at_call 127; refine (refPoint_any _ _).mono ?_; rintro e w' ⟨rfl, rfl⟩)
        go_ret
        exact ⟨ret_str es.out, (Below.refl _ _).alloc (Nat.le_refl _) _⟩
      · by_cases h3 : r < 65536
        · have es := Lib.hid (str3 hp (by omega) h3)
          go_enter Tryz.func99, Tryz.ntmps99
          go_wp2_with (go_at_call 127; refine (refPoint_any _ _).mono ?_; rintro e w' ⟨rfl, rfl⟩)
          go_ret
          exact ⟨ret_str es.out, (Below.refl _ _).alloc (Nat.le_refl _) _⟩
        · have es := Lib.hid (str4 hp (by omega))
          go_enter Tryz.func99, Tryz.ntmps99
          go_wp2_with (go_at_call 127; refine (refPoint_any _ _).mono ?_; rintro e w' ⟨rfl, rfl⟩)
          go_ret
          exact ⟨ret_str es.out, (Below.refl _ _).alloc (Nat.le_refl _) _⟩

/-- the byte of place i; 0 behind the end -/
def byI (s : ByteArray) (i : Nat) : Int := (s.data.toList.getD i 0).toNat
theorem byI_bd (s : ByteArray) (i : Nat) : 0 ≤ byI s i ∧ byI s i < 256 := by
  have := (s.data.toList.getD i 0).toNat_lt
  unfold byI
  omega
theorem by_get {s : ByteArray} {i : Nat} (h : i < s.size) : ((s[i]'h).toNat : Int) = byI s i := by
  unfold byI
  have : s.data.toList.getD i 0 = s[i]'h := by
    rw [List.getD_eq_getElem?_getD, List.getElem?_eq_getElem (by rw [← Lib.size_eq]; exact h)]
    rfl
  rw [this]


def leadI (s : ByteArray) (n : Nat) : Int := if n = 1 then byI s 0 else if n = 2 then byI s 0 - 192 else if n = 3 then byI s 0 - 224 else byI s 0 - 240
/-- the number of the first j bytes, as of an encoding of n -/
def accI (s : ByteArray) (n : Nat) : Nat → Int
  | 0 => 0
  | 1 => leadI s n
  | j + 2 => 64 * accI s n (j + 1) + byI s (j + 1) - 128
theorem acc_bd (s : ByteArray) (n j : Nat) (h1 : 1 ≤ j) (h3 : j ≤ 3) : -1000000 ≤ accI s n j ∧ accI s n j ≤ 1100000 := by
  have b0 := byI_bd s 0
  have b1 := byI_bd s 1
  have b2 := byI_bd s 2
  have l0 : -240 ≤ leadI s n ∧ leadI s n ≤ 255 := by
    unfold leadI
    split
    · omega
    · split
      · omega
      · split <;> omega
  obtain rfl | rfl | rfl : j = 1 ∨ j = 2 ∨ j = 3 := by omega
  · simp only [accI]
    omega
  · simp only [accI, Nat.zero_add]
    omega
  · simp only [accI, Nat.zero_add, Nat.reduceAdd]
    omega
theorem acc_on (s : ByteArray) (n j : Nat) (h1 : 1 ≤ j) : accI s n (j + 1) = 64 * accI s n j + byI s j - 128 := by
  obtain ⟨j, rfl⟩ : ∃ i, j = i + 1 := ⟨j - 1, by omega⟩
  rfl
def tryB (s : ByteArray) (n : Nat) : Bool := (bytesS (accI s n n)).toList == (s.extract 0 n).toList

theorem try_eq {s : ByteArray} {n : Nat} : tryB s n = true ↔ (bytesS (accI s n n)).data.toList = s.data.toList.take n := by
  unfold tryB
  rw [beq_iff_eq, Lib.toList_data, Lib.toList_data, Lib.extract_from_zero]
theorem try_first {s : ByteArray} {n : Nat} (h : tryB s n = true) (h1 : 1 ≤ n) (hn : n ≤ s.size) : firstR s = accI s n n ∧ firstN s = n ∧ firstB s = true := by
  rw [try_eq] at h
  have hl : (s.data.toList.take n).length = n := by rw [List.length_take, ← Lib.size_eq]; omega
  have hp : pointB (accI s n n) = true := by
    cases hp : pointB (accI s n n) with
    | true => rfl
    | false =>
      rw [← bytesS_no hp] at h
      have := congrArg List.length h
      rw [hl] at this
      simp only [List.length_nil] at this
      omega
  obtain ⟨c, hc, hv, e⟩ := enc_int hp
  rw [e] at h
  have ht : s.data.toList = encL c ++ s.data.toList.drop n := by rw [h, List.take_append_drop]
  have hpt : ptL s.data.toList = some c := by rw [ht]; exact pt_enc c hv _
  have := first_some hpt
  rw [hc, this.1, this.2.1, h, hl]
  exact ⟨rfl, rfl, this.2.2⟩
theorem by_of {s : ByteArray} {l : List UInt8} (e : s.data.toList = l) (i : Nat) {b : UInt8} (h : l[i]? = some b) : byI s i = b.toNat := by
  unfold byI
  rw [e, List.getD_eq_getElem?_getD, h]
  rfl
theorem acc_enc {s : ByteArray} {c : Nat} {t : List UInt8} (hv : validRune c = true) (e : s.data.toList = encL c ++ t) : accI s (encL c).length (encL c).length = c := by
  have hb := vr_lt hv
  by_cases h1 : c < 128
  · rw [enc1 c h1] at e ⊢
    have b0 := by_of e 0 rfl
    rw [ofNat_toNat' c (by omega)] at b0
    show leadI s 1 = c
    unfold leadI
    rw [if_pos rfl, b0]
  · by_cases h2 : c < 2048
    · rw [enc2 c (by omega) h2] at e ⊢
      have b0 := by_of e 0 rfl
      have b1 := by_of e 1 rfl
      rw [ofNat_toNat' _ (by omega)] at b0 b1
      show 64 * leadI s 2 + byI s 1 - 128 = c
      unfold leadI
      rw [if_neg (by omega), if_pos rfl, b0, b1]
      omega
    · by_cases h3 : c < 65536
      · rw [enc3 c (by omega) h3 hv] at e ⊢
        have b0 := by_of e 0 rfl
        have b1 := by_of e 1 rfl
        have b2 := by_of e 2 rfl
        rw [ofNat_toNat' _ (by omega)] at b0 b1 b2
        show 64 * (64 * leadI s 3 + byI s 1 - 128) + byI s 2 - 128 = c
        unfold leadI
        rw [if_neg (by omega), if_neg (by omega), if_pos rfl, b0, b1, b2]
        omega
      · rw [enc4 c (by omega) hv] at e ⊢
        have b0 := by_of e 0 rfl
        have b1 := by_of e 1 rfl
        have b2 := by_of e 2 rfl
        have b3 := by_of e 3 rfl
        rw [ofNat_toNat' _ (by omega)] at b0 b1 b2 b3
        show 64 * (64 * (64 * leadI s 4 + byI s 1 - 128) + byI s 2 - 128) + byI s 3 - 128 = c
        unfold leadI
        rw [if_neg (by omega), if_neg (by omega), if_neg (by omega), b0, b1, b2, b3]
        omega
theorem point_of {c : Nat} (hv : validRune c = true) : (bytesS c).data.toList = encL c := by
  have hp : pointB (c : Int) = true := by unfold pointB; exact hv
  have e := bytesS_yes hp
  have e2 : (Utf8.encode (c : Int)).data.toList = encL c := by rw [encL]
  rw [← e2, e]
theorem try_none {s : ByteArray} (h : ∀ m, 1 ≤ m → m < 5 → m ≤ s.size → tryB s m = false) : ptL s.data.toList = none := by
  cases hp : ptL s.data.toList with
  | none => rfl
  | some c =>
    exfalso
    obtain ⟨hv, t, e⟩ := pt_some hp
    have hl := enc_pos c hv
    have hw := pt_width hp
    have ht : tryB s (encL c).length = true := by
      rw [try_eq, acc_enc hv e, point_of hv, e, List.take_left]
    rw [h _ (by omega) (by omega) hw.2] at ht
    cases ht
theorem try_on {s : ByteArray} {n : Nat} (h : ∀ m, 1 ≤ m → m < n → m ≤ s.size → tryB s m = false) (hn : tryB s n = false) : ∀ m, 1 ≤ m → m < n + 1 → m ≤ s.size → tryB s m = false := by
  intro m h1 h2 h3
  by_cases e : m = n
  · rw [e]; exact hn
  · exact h m h1 (by omega) h3

set_option maxHeartbeats 4000000 in
theorem refFirst_any (s : ByteArray) (w : World) (hs : s.size ≤ maxLen) :
    Calls Tryz.prog 65 #[.string s] w fun e w' => e = .returned (.tuple #[.int .i32 (firstR s), .int .i64 (firstN s), .bool (firstB s)]) ∧ Below w.heap.size w w' := by
  unfold maxLen at hs
  go_enter Tryz.func65, Tryz.ntmps65
  go_wp2
  go_loopw [5] (fun n wr => ∃ k : Nat, n = .int .i64 k ∧ 1 ≤ k ∧ k ≤ 5 ∧ (∀ m, 1 ≤ m → m < k → m ≤ s.size → tryB s m = false) ∧ Below w.heap.size w wr) (fun n _ => 5 - (intOf n).toNat)
  case atStart => exact ⟨1, rfl, by omega, by omega, by intro m h1 h2; omega, Below.refl _ _⟩
  case round =>
    obtain ⟨k, rfl, k1, k2, htry, acc⟩ := hrel
    have Htry := Lib.hid htry
    clear htry
    by_cases h4 : k ≤ 4
    · by_cases hz : k ≤ s.size
      · have h0 : 0 < s.size := by omega
        have b0 := by_get h0
        have B0 := byI_bd s 0
        obtain ⟨wo, rfl⟩ : ∃ wo : World, wo = wr := ⟨_, rfl⟩
        obtain rfl | rfl | rfl | rfl : k = 1 ∨ k = 2 ∨ k = 3 ∨ k = 4 := by omega
        · have la : leadI s 1 = byI s 0 := by unfold leadI; simp
          have La := Lib.hid la
          clear la
          go_wp2
          go_loop [6, 7] (fun r i => ∃ j : Nat, i = .int .i64 j ∧ r = .int .i32 (accI s 1 j) ∧ 1 ≤ j ∧ j ≤ 1) (fun _ i => 1 - (intOf i).toNat)
          case atStart => exact ⟨1, rfl, by rw [← La.out]; rfl, by omega, by omega⟩
          case round =>
            obtain ⟨j, rfl, rfl, j1, j2⟩ := hrel
            by_cases hj : j < 1
            · exact absurd hj (by omega)
            · obtain rfl : j = 1 := by omega
              cases hB : tryB s 1 with
              | true =>
                have hB' : ((bytesS (accI s 1 1)).toList == (s.extract 0 1).toList) = true := hB
                go_wp2
                go_region_with (go_at_call 99; refine (refBytes_any _ _).mono ?_; rintro e w' ⟨rfl, hb⟩)
                have acc := acc.drew.trans (hb.mono acc.size)
                go_wp2
                go_ret3
                exact ⟨ret_first (try_first hB (by omega) (by omega)), acc⟩
              | false =>
                have hB' : ((bytesS (accI s 1 1)).toList == (s.extract 0 1).toList) = false := hB
                go_wp2
                go_region_with (go_at_call 99; refine (refBytes_any _ _).mono ?_; rintro e w' ⟨rfl, hb⟩)
                have acc := acc.drew.trans (hb.mono acc.size)
                go_wp2
                go_roundw
                case rel => exact ⟨2, rfl, by omega, by omega, try_on Htry.out hB, acc⟩
                case measure => simp [intOf]
        · have la : leadI s 2 = byI s 0 - 192 := by unfold leadI; simp
          have La := Lib.hid la
          clear la
          go_wp2
          go_loop [6, 7] (fun r i => ∃ j : Nat, i = .int .i64 j ∧ r = .int .i32 (accI s 2 j) ∧ 1 ≤ j ∧ j ≤ 2) (fun _ i => 2 - (intOf i).toNat)
          case atStart => exact ⟨1, rfl, by rw [← La.out]; rfl, by omega, by omega⟩
          case round =>
            obtain ⟨j, rfl, rfl, j1, j2⟩ := hrel
            by_cases hj : j < 2
            · have hjs : j < s.size := by omega
              have bj := by_get hjs
              have Bj := byI_bd s j
              have hacc := acc_bd s 2 j j1 (by omega)
              have Hon := Lib.hid (acc_on s 2 j j1)
              go_wp2
              go_round
              case rel => exact ⟨j + 1, by go_num, by rw [Hon.out], by omega, by omega⟩
              case measure => simp [intOf]; omega
            · obtain rfl : j = 2 := by omega
              cases hB : tryB s 2 with
              | true =>
                have hB' : ((bytesS (accI s 2 2)).toList == (s.extract 0 2).toList) = true := hB
                go_wp2
                go_region_with (go_at_call 99; refine (refBytes_any _ _).mono ?_; rintro e w' ⟨rfl, hb⟩)
                have acc := acc.drew.trans (hb.mono acc.size)
                go_wp2
                go_ret3
                exact ⟨ret_first (try_first hB (by omega) (by omega)), acc⟩
              | false =>
                have hB' : ((bytesS (accI s 2 2)).toList == (s.extract 0 2).toList) = false := hB
                go_wp2
                go_region_with (go_at_call 99; refine (refBytes_any _ _).mono ?_; rintro e w' ⟨rfl, hb⟩)
                have acc := acc.drew.trans (hb.mono acc.size)
                go_wp2
                go_roundw
                case rel => exact ⟨3, rfl, by omega, by omega, try_on Htry.out hB, acc⟩
                case measure => simp [intOf]
        · have la : leadI s 3 = byI s 0 - 224 := by unfold leadI; simp
          have La := Lib.hid la
          clear la
          go_wp2
          go_loop [6, 7] (fun r i => ∃ j : Nat, i = .int .i64 j ∧ r = .int .i32 (accI s 3 j) ∧ 1 ≤ j ∧ j ≤ 3) (fun _ i => 3 - (intOf i).toNat)
          case atStart => exact ⟨1, rfl, by rw [← La.out]; rfl, by omega, by omega⟩
          case round =>
            obtain ⟨j, rfl, rfl, j1, j2⟩ := hrel
            by_cases hj : j < 3
            · have hjs : j < s.size := by omega
              have bj := by_get hjs
              have Bj := byI_bd s j
              have hacc := acc_bd s 3 j j1 (by omega)
              have Hon := Lib.hid (acc_on s 3 j j1)
              go_wp2
              go_round
              case rel => exact ⟨j + 1, by go_num, by rw [Hon.out], by omega, by omega⟩
              case measure => simp [intOf]; omega
            · obtain rfl : j = 3 := by omega
              cases hB : tryB s 3 with
              | true =>
                have hB' : ((bytesS (accI s 3 3)).toList == (s.extract 0 3).toList) = true := hB
                go_wp2
                go_region_with (go_at_call 99; refine (refBytes_any _ _).mono ?_; rintro e w' ⟨rfl, hb⟩)
                have acc := acc.drew.trans (hb.mono acc.size)
                go_wp2
                go_ret3
                exact ⟨ret_first (try_first hB (by omega) (by omega)), acc⟩
              | false =>
                have hB' : ((bytesS (accI s 3 3)).toList == (s.extract 0 3).toList) = false := hB
                go_wp2
                go_region_with (go_at_call 99; refine (refBytes_any _ _).mono ?_; rintro e w' ⟨rfl, hb⟩)
                have acc := acc.drew.trans (hb.mono acc.size)
                go_wp2
                go_roundw
                case rel => exact ⟨4, rfl, by omega, by omega, try_on Htry.out hB, acc⟩
                case measure => simp [intOf]
        · have la : leadI s 4 = byI s 0 - 240 := by unfold leadI; simp
          have La := Lib.hid la
          clear la
          go_wp2
          go_loop [6, 7] (fun r i => ∃ j : Nat, i = .int .i64 j ∧ r = .int .i32 (accI s 4 j) ∧ 1 ≤ j ∧ j ≤ 4) (fun _ i => 4 - (intOf i).toNat)
          case atStart => exact ⟨1, rfl, by rw [← La.out]; rfl, by omega, by omega⟩
          case round =>
            obtain ⟨j, rfl, rfl, j1, j2⟩ := hrel
            by_cases hj : j < 4
            · have hjs : j < s.size := by omega
              have bj := by_get hjs
              have Bj := byI_bd s j
              have hacc := acc_bd s 4 j j1 (by omega)
              have Hon := Lib.hid (acc_on s 4 j j1)
              go_wp2
              go_round
              case rel => exact ⟨j + 1, by go_num, by rw [Hon.out], by omega, by omega⟩
              case measure => simp [intOf]; omega
            · obtain rfl : j = 4 := by omega
              cases hB : tryB s 4 with
              | true =>
                have hB' : ((bytesS (accI s 4 4)).toList == (s.extract 0 4).toList) = true := hB
                go_wp2
                go_region_with (go_at_call 99; refine (refBytes_any _ _).mono ?_; rintro e w' ⟨rfl, hb⟩)
                have acc := acc.drew.trans (hb.mono acc.size)
                go_wp2
                go_ret3
                exact ⟨ret_first (try_first hB (by omega) (by omega)), acc⟩
              | false =>
                have hB' : ((bytesS (accI s 4 4)).toList == (s.extract 0 4).toList) = false := hB
                go_wp2
                go_region_with (go_at_call 99; refine (refBytes_any _ _).mono ?_; rintro e w' ⟨rfl, hb⟩)
                have acc := acc.drew.trans (hb.mono acc.size)
                go_wp2
                go_roundw
                case rel => exact ⟨5, rfl, by omega, by omega, try_on Htry.out hB, acc⟩
                case measure => simp [intOf]
      · go_wp2
        go_ret3
        exact ⟨ret_first (first_none (try_none (fun m h1 h2 h3 => Htry.out m h1 (by omega) h3))), acc⟩
    · go_wp2
      go_ret3
      exact ⟨ret_first (first_none (try_none (fun m h1 h2 h3 => Htry.out m h1 (by omega) h3))), acc⟩
/-- one step of the document's loops -/
theorem step_no {s : ByteArray} {pos b : Nat} (hc : pos + lenL b (s.data.toList.drop pos) = lenF s.data.toList) (h : firstB (s.extract pos s.size) = false) :
    pos = lenF s.data.toList ∧ ptL (s.data.toList.drop pos) = none := by
  have hn : ptL (s.data.toList.drop pos) = none := by
    cases hp : ptL (s.data.toList.drop pos) with
    | none => rfl
    | some c =>
      rw [(first_some (s := s.extract pos s.size) (by rw [from_data]; exact hp)).2.2] at h
      cases h
  rw [lenL_none hn] at hc
  exact ⟨hc, hn⟩
theorem step_yes {s : ByteArray} {pos b : Nat} (hb : s.size ≤ pos + b) (hp : pos < s.size) (hc : pos + lenL b (s.data.toList.drop pos) = lenF s.data.toList) (h : firstB (s.extract pos s.size) = true) :
    ∃ n b' : Nat, firstN (s.extract pos s.size) = n ∧ 1 ≤ n ∧ pos + n ≤ s.size ∧ pos + n + lenL b' (s.data.toList.drop (pos + n)) = lenF s.data.toList ∧ s.size ≤ pos + n + b' ∧
      (∀ acc : Nat, acc + cntL b (s.data.toList.drop pos) = cntF s.data.toList → acc + 1 + cntL b' (s.data.toList.drop (pos + n)) = cntF s.data.toList) := by
  cases hpt : ptL (s.data.toList.drop pos) with
  | none =>
    rw [(first_none (s := s.extract pos s.size) (by rw [from_data]; exact hpt)).2.2] at h
    cases h
  | some c =>
    have hf := (first_some (s := s.extract pos s.size) (by rw [from_data]; exact hpt)).2.1
    have hd := pt_drop hpt
    rw [List.length_drop, ← Lib.size_eq] at hd
    obtain ⟨b, rfl⟩ : ∃ b', b = b' + 1 := ⟨b - 1, by omega⟩
    refine ⟨_, b, hf, by omega, by omega, ?_, by omega, ?_⟩
    · simp only [lenL, hpt] at hc
      rw [List.drop_drop] at hc
      omega
    · intro acc hn
      simp only [cntL, hpt] at hn
      rw [List.drop_drop] at hn
      omega
theorem bad_not {s : ByteArray} {pos : Nat} (hp : pos < s.size) (h : pos = lenF s.data.toList) : (pos : Int) = badI s := by
  unfold badI
  rw [if_neg (by omega)]
  omega
set_option maxHeartbeats 1000000 in
theorem refBad_any (s : ByteArray) (w : World) (hs : s.size ≤ maxLen) :
    Calls Tryz.prog 33 #[.string s] w fun e w' => e = .returned (.int .i64 (badI s)) ∧ Below w.heap.size w w' := by
  have hs' := hs
  unfold maxLen at hs'
  go_enter Tryz.func33, Tryz.ntmps33
  go_wp2
  go_loopw [3] (fun at_ wr => ∃ pos b : Nat, at_ = .int .i64 pos ∧ pos ≤ s.size ∧ pos + lenL b (s.data.toList.drop pos) = lenF s.data.toList ∧ s.size ≤ pos + b ∧ Below w.heap.size w wr) (fun at_ _ => s.size - (intOf at_).toNat)
  case atStart => exact ⟨0, s.size, rfl, by omega, by rw [Nat.zero_add, List.drop_zero, Lib.size_eq]; rfl, by omega, Below.refl _ _⟩
  case round =>
    obtain ⟨pos, b, rfl, hp0, hc, hb, acc⟩ := hrel
    by_cases hp : pos < s.size
    · cases hB : firstB (s.extract pos s.size) with
      | false =>
        have Hc := Lib.hid (step_no hc hB).1
        clear hc
        go_wp2_with (go_at_call 65; refine (refFirst_any _ _ (from_size hs)).mono ?_; rintro e w' ⟨rfl, hb1⟩; have acc := acc.trans (hb1.mono acc.size); clear hb1)
        go_ret
        exact ⟨ret_int (bad_not hp Hc.out), acc⟩
      | true =>
        obtain ⟨n, b', hn, n1, n2, h1, h2, _⟩ := step_yes hb hp hc hB
        have Hc := Lib.hid h1
        clear hc h1
        go_wp2_with (go_at_call 65; refine (refFirst_any _ _ (from_size hs)).mono ?_; rintro e w' ⟨rfl, hb1⟩; have acc := acc.trans (hb1.mono acc.size); clear hb1)
        go_roundw
        case rel => exact ⟨pos + n, b', by go_num, n2, Hc.out, h2, acc⟩
        case measure => simp [intOf]; omega
    · have Hc := Lib.hid hc
      clear hc
      go_wp2
      go_ret
      exact ⟨ret_int (bad_end hp Hc.out), acc⟩

theorem refValid_any (s : ByteArray) (w : World) (hs : s.size ≤ maxLen) :
    Calls Tryz.prog 32 #[.string s] w fun e w' => e = .returned (.bool (validB s)) ∧ Below w.heap.size w w' := by
  go_enter Tryz.func32, Tryz.ntmps32
  go_wp2_with (go_at_call 33; refine (refBad_any _ _ hs).mono ?_; rintro e w' ⟨rfl, hb⟩)
  go_ret
  exact ⟨ret_bool (bad_valid s), hb⟩

end Go.Proofs.YtakdhfjlhkejdaaGreatDoor
