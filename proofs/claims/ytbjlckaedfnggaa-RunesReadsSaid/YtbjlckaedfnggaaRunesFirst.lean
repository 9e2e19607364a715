/-
  CONTRACT of the document's own First (codicilref01): it is package runes' First. No conditions but the text's size.
-/
import Derived.Test.YtbjlckaedfnggaaRunesRef
import Derived.Deep.RegionWith
namespace Go.Proofs.Ytbjlckaedfnggaa
open Go.RowKit

def leadI (s : ByteArray) (n : Nat) : Int := if n = 1 then byI s 0 else if n = 2 then byI s 0 - 192 else if n = 3 then byI s 0 - 224 else byI s 0 - 240
/-- the number of the first j bytes, as of an encoding of n -/
def accI (s : ByteArray) (n : Nat) : Nat → Int
  | 0 => 0
  | 1 => leadI s n
  | j + 2 => 64 * accI s n (j + 1) + byI s (j + 1) - 128
theorem acc_bd (s : ByteArray) (n j : Nat) (h1 : 1 ≤ j) (h3 : j ≤ 3) : -1000000 ≤ accI s n j ∧ accI s n j ≤ 1100000 := by
  have b0 := byI_bd s 0
  have b1 := byI_bd s 1
  have b2 := byI_bd s 2
  have l0 : -240 ≤ leadI s n ∧ leadI s n ≤ 255 := by
    unfold leadI
    split
    · omega
    · split
      · omega
      · split <;> omega
  obtain rfl | rfl | rfl : j = 1 ∨ j = 2 ∨ j = 3 := by omega
  · simp only [accI]
    omega
  · simp only [accI, Nat.zero_add]
    omega
  · simp only [accI, Nat.zero_add, Nat.reduceAdd]
    omega
theorem acc_on (s : ByteArray) (n j : Nat) (h1 : 1 ≤ j) : accI s n (j + 1) = 64 * accI s n j + byI s j - 128 := by
  obtain ⟨j, rfl⟩ : ∃ i, j = i + 1 := ⟨j - 1, by omega⟩
  rfl
def tryB (s : ByteArray) (n : Nat) : Bool := (bytesS (accI s n n)).toList == (s.extract 0 n).toList

theorem try_eq {s : ByteArray} {n : Nat} : tryB s n = true ↔ (bytesS (accI s n n)).data.toList = s.data.toList.take n := by
  unfold tryB
  rw [beq_iff_eq, Lib.toList_data, Lib.toList_data, Lib.extract_from_zero]
theorem try_first {s : ByteArray} {n : Nat} (h : tryB s n = true) (h1 : 1 ≤ n) (hn : n ≤ s.size) : firstR s = accI s n n ∧ firstN s = n ∧ firstB s = true := by
  rw [try_eq] at h
  have hl : (s.data.toList.take n).length = n := by rw [List.length_take, ← Lib.size_eq]; omega
  have hp : pointB (accI s n n) = true := by
    cases hp : pointB (accI s n n) with
    | true => rfl
    | false =>
      rw [← bytesS_no hp] at h
      have := congrArg List.length h
      rw [hl] at this
      simp only [List.length_nil] at this
      omega
  obtain ⟨c, hc, hv, e⟩ := enc_int hp
  rw [e] at h
  have ht : s.data.toList = encL c ++ s.data.toList.drop n := by rw [h, List.take_append_drop]
  have hpt : ptL s.data.toList = some c := by rw [ht]; exact pt_enc c hv _
  have := first_some hpt
  rw [hc, this.1, this.2.1, h, hl]
  exact ⟨rfl, rfl, this.2.2⟩
theorem by_of {s : ByteArray} {l : List UInt8} (e : s.data.toList = l) (i : Nat) {b : UInt8} (h : l[i]? = some b) : byI s i = b.toNat := by
  unfold byI
  rw [e, List.getD_eq_getElem?_getD, h]
  rfl
theorem acc_enc {s : ByteArray} {c : Nat} {t : List UInt8} (hv : validRune c = true) (e : s.data.toList = encL c ++ t) : accI s (encL c).length (encL c).length = c := by
  have hb := vr_lt hv
  by_cases h1 : c < 128
  · rw [enc1 c h1] at e ⊢
    have b0 := by_of e 0 rfl
    rw [ofNat_toNat' c (by omega)] at b0
    show leadI s 1 = c
    unfold leadI
    rw [if_pos rfl, b0]
  · by_cases h2 : c < 2048
    · rw [enc2 c (by omega) h2] at e ⊢
      have b0 := by_of e 0 rfl
      have b1 := by_of e 1 rfl
      rw [ofNat_toNat' _ (by omega)] at b0 b1
      show 64 * leadI s 2 + byI s 1 - 128 = c
      unfold leadI
      rw [if_neg (by omega), if_pos rfl, b0, b1]
      omega
    · by_cases h3 : c < 65536
      · rw [enc3 c (by omega) h3 hv] at e ⊢
        have b0 := by_of e 0 rfl
        have b1 := by_of e 1 rfl
        have b2 := by_of e 2 rfl
        rw [ofNat_toNat' _ (by omega)] at b0 b1 b2
        show 64 * (64 * leadI s 3 + byI s 1 - 128) + byI s 2 - 128 = c
        unfold leadI
        rw [if_neg (by omega), if_neg (by omega), if_pos rfl, b0, b1, b2]
        omega
      · rw [enc4 c (by omega) hv] at e ⊢
        have b0 := by_of e 0 rfl
        have b1 := by_of e 1 rfl
        have b2 := by_of e 2 rfl
        have b3 := by_of e 3 rfl
        rw [ofNat_toNat' _ (by omega)] at b0 b1 b2 b3
        show 64 * (64 * (64 * leadI s 4 + byI s 1 - 128) + byI s 2 - 128) + byI s 3 - 128 = c
        unfold leadI
        rw [if_neg (by omega), if_neg (by omega), if_neg (by omega), b0, b1, b2, b3]
        omega
theorem point_of {c : Nat} (hv : validRune c = true) : (bytesS c).data.toList = encL c := by
  have hp : pointB (c : Int) = true := by unfold pointB; exact hv
  have e := bytesS_yes hp
  have e2 : (Utf8.encode (c : Int)).data.toList = encL c := by rw [encL]
  rw [← e2, e]
theorem try_none {s : ByteArray} (h : ∀ m, 1 ≤ m → m < 5 → m ≤ s.size → tryB s m = false) : ptL s.data.toList = none := by
  cases hp : ptL s.data.toList with
  | none => rfl
  | some c =>
    exfalso
    obtain ⟨hv, t, e⟩ := pt_some hp
    have hl := enc_pos c hv
    have hw := pt_width hp
    have ht : tryB s (encL c).length = true := by
      rw [try_eq, acc_enc hv e, point_of hv, e, List.take_left]
    rw [h _ (by omega) (by omega) hw.2] at ht
    cases ht
theorem try_on {s : ByteArray} {n : Nat} (h : ∀ m, 1 ≤ m → m < n → m ≤ s.size → tryB s m = false) (hn : tryB s n = false) : ∀ m, 1 ≤ m → m < n + 1 → m ≤ s.size → tryB s m = false := by
  intro m h1 h2 h3
  by_cases e : m = n
  · rw [e]; exact hn
  · exact h m h1 (by omega) h3

set_option maxHeartbeats 4000000 in
theorem refFirst_any (s : ByteArray) (w : World) (hs : s.size ≤ maxLen) :
    Calls Try.prog 9 #[.string s] w fun e w' => e = .returned (.tuple #[.int .i32 (firstR s), .int .i64 (firstN s), .bool (firstB s)]) ∧ Below w.heap.size w w' := by
  unfold maxLen at hs
  go_enter Try.func9, Try.ntmps9
  go_wp2
  go_loopw [5] (fun n wr => ∃ k : Nat, n = .int .i64 k ∧ 1 ≤ k ∧ k ≤ 5 ∧ (∀ m, 1 ≤ m → m < k → m ≤ s.size → tryB s m = false) ∧ Below w.heap.size w wr) (fun n _ => 5 - (intOf n).toNat)
  case atStart => exact ⟨1, rfl, by omega, by omega, by intro m h1 h2; omega, Below.refl _ _⟩
  case round =>
    obtain ⟨k, rfl, k1, k2, htry, acc⟩ := hrel
    have Htry := Lib.hid htry
    clear htry
    by_cases h4 : k ≤ 4
    · by_cases hz : k ≤ s.size
      · have h0 : 0 < s.size := by omega
        have b0 := by_get h0
        have B0 := byI_bd s 0
        obtain ⟨wo, rfl⟩ : ∃ wo : World, wo = wr := ⟨_, rfl⟩
        obtain rfl | rfl | rfl | rfl : k = 1 ∨ k = 2 ∨ k = 3 ∨ k = 4 := by omega
        · have la : leadI s 1 = byI s 0 := by unfold leadI; simp
          have La := Lib.hid la
          clear la
          go_wp2
          go_loop [6, 7] (fun r i => ∃ j : Nat, i = .int .i64 j ∧ r = .int .i32 (accI s 1 j) ∧ 1 ≤ j ∧ j ≤ 1) (fun _ i => 1 - (intOf i).toNat)
          case atStart => exact ⟨1, rfl, by rw [← La.out]; rfl, by omega, by omega⟩
          case round =>
            obtain ⟨j, rfl, rfl, j1, j2⟩ := hrel
            by_cases hj : j < 1
            · exact absurd hj (by omega)
            · obtain rfl : j = 1 := by omega
              cases hB : tryB s 1 with
              | true =>
                have hB' : ((bytesS (accI s 1 1)).toList == (s.extract 0 1).toList) = true := hB
                go_wp2
                go_region_with (go_at_call 23; refine (refBytes_any _ _).mono ?_; rintro e w' ⟨rfl, hb⟩)
                have acc := acc.drew.trans (hb.mono acc.size)
                go_wp2
                go_ret3
                exact ⟨ret_first (try_first hB (by omega) (by omega)), acc⟩
              | false =>
                have hB' : ((bytesS (accI s 1 1)).toList == (s.extract 0 1).toList) = false := hB
                go_wp2
                go_region_with (go_at_call 23; refine (refBytes_any _ _).mono ?_; rintro e w' ⟨rfl, hb⟩)
                have acc := acc.drew.trans (hb.mono acc.size)
                go_wp2
                go_roundw
                case rel => exact ⟨2, rfl, by omega, by omega, try_on Htry.out hB, acc⟩
                case measure => simp [intOf]
        · have la : leadI s 2 = byI s 0 - 192 := by unfold leadI; simp
          have La := Lib.hid la
          clear la
          go_wp2
          go_loop [6, 7] (fun r i => ∃ j : Nat, i = .int .i64 j ∧ r = .int .i32 (accI s 2 j) ∧ 1 ≤ j ∧ j ≤ 2) (fun _ i => 2 - (intOf i).toNat)
          case atStart => exact ⟨1, rfl, by rw [← La.out]; rfl, by omega, by omega⟩
          case round =>
            obtain ⟨j, rfl, rfl, j1, j2⟩ := hrel
            by_cases hj : j < 2
            · have hjs : j < s.size := by omega
              have bj := by_get hjs
              have Bj := byI_bd s j
              have hacc := acc_bd s 2 j j1 (by omega)
              have Hon := Lib.hid (acc_on s 2 j j1)
              go_wp2
              go_round
              case rel => exact ⟨j + 1, by go_num, by rw [Hon.out], by omega, by omega⟩
              case measure => simp [intOf]; omega
            · obtain rfl : j = 2 := by omega
              cases hB : tryB s 2 with
              | true =>
                have hB' : ((bytesS (accI s 2 2)).toList == (s.extract 0 2).toList) = true := hB
                go_wp2
                go_region_with (go_at_call 23; refine (refBytes_any _ _).mono ?_; rintro e w' ⟨rfl, hb⟩)
                have acc := acc.drew.trans (hb.mono acc.size)
                go_wp2
                go_ret3
                exact ⟨ret_first (try_first hB (by omega) (by omega)), acc⟩
              | false =>
                have hB' : ((bytesS (accI s 2 2)).toList == (s.extract 0 2).toList) = false := hB
                go_wp2
                go_region_with (go_at_call 23; refine (refBytes_any _ _).mono ?_; rintro e w' ⟨rfl, hb⟩)
                have acc := acc.drew.trans (hb.mono acc.size)
                go_wp2
                go_roundw
                case rel => exact ⟨3, rfl, by omega, by omega, try_on Htry.out hB, acc⟩
                case measure => simp [intOf]
        · have la : leadI s 3 = byI s 0 - 224 := by unfold leadI; simp
          have La := Lib.hid la
          clear la
          go_wp2
          go_loop [6, 7] (fun r i => ∃ j : Nat, i = .int .i64 j ∧ r = .int .i32 (accI s 3 j) ∧ 1 ≤ j ∧ j ≤ 3) (fun _ i => 3 - (intOf i).toNat)
          case atStart => exact ⟨1, rfl, by rw [← La.out]; rfl, by omega, by omega⟩
          case round =>
            obtain ⟨j, rfl, rfl, j1, j2⟩ := hrel
            by_cases hj : j < 3
            · have hjs : j < s.size := by omega
              have bj := by_get hjs
              have Bj := byI_bd s j
              have hacc := acc_bd s 3 j j1 (by omega)
              have Hon := Lib.hid (acc_on s 3 j j1)
              go_wp2
              go_round
              case rel => exact ⟨j + 1, by go_num, by rw [Hon.out], by omega, by omega⟩
              case measure => simp [intOf]; omega
            · obtain rfl : j = 3 := by omega
              cases hB : tryB s 3 with
              | true =>
                have hB' : ((bytesS (accI s 3 3)).toList == (s.extract 0 3).toList) = true := hB
                go_wp2
                go_region_with (go_at_call 23; refine (refBytes_any _ _).mono ?_; rintro e w' ⟨rfl, hb⟩)
                have acc := acc.drew.trans (hb.mono acc.size)
                go_wp2
                go_ret3
                exact ⟨ret_first (try_first hB (by omega) (by omega)), acc⟩
              | false =>
                have hB' : ((bytesS (accI s 3 3)).toList == (s.extract 0 3).toList) = false := hB
                go_wp2
                go_region_with (go_at_call 23; refine (refBytes_any _ _).mono ?_; rintro e w' ⟨rfl, hb⟩)
                have acc := acc.drew.trans (hb.mono acc.size)
                go_wp2
                go_roundw
                case rel => exact ⟨4, rfl, by omega, by omega, try_on Htry.out hB, acc⟩
                case measure => simp [intOf]
        · have la : leadI s 4 = byI s 0 - 240 := by unfold leadI; simp
          have La := Lib.hid la
          clear la
          go_wp2
          go_loop [6, 7] (fun r i => ∃ j : Nat, i = .int .i64 j ∧ r = .int .i32 (accI s 4 j) ∧ 1 ≤ j ∧ j ≤ 4) (fun _ i => 4 - (intOf i).toNat)
          case atStart => exact ⟨1, rfl, by rw [← La.out]; rfl, by omega, by omega⟩
          case round =>
            obtain ⟨j, rfl, rfl, j1, j2⟩ := hrel
            by_cases hj : j < 4
            · have hjs : j < s.size := by omega
              have bj := by_get hjs
              have Bj := byI_bd s j
              have hacc := acc_bd s 4 j j1 (by omega)
              have Hon := Lib.hid (acc_on s 4 j j1)
              go_wp2
              go_round
              case rel => exact ⟨j + 1, by go_num, by rw [Hon.out], by omega, by omega⟩
              case measure => simp [intOf]; omega
            · obtain rfl : j = 4 := by omega
              cases hB : tryB s 4 with
              | true =>
                have hB' : ((bytesS (accI s 4 4)).toList == (s.extract 0 4).toList) = true := hB
                go_wp2
                go_region_with (go_at_call 23; refine (refBytes_any _ _).mono ?_; rintro e w' ⟨rfl, hb⟩)
                have acc := acc.drew.trans (hb.mono acc.size)
                go_wp2
                go_ret3
                exact ⟨ret_first (try_first hB (by omega) (by omega)), acc⟩
              | false =>
                have hB' : ((bytesS (accI s 4 4)).toList == (s.extract 0 4).toList) = false := hB
                go_wp2
                go_region_with (go_at_call 23; refine (refBytes_any _ _).mono ?_; rintro e w' ⟨rfl, hb⟩)
                have acc := acc.drew.trans (hb.mono acc.size)
                go_wp2
                go_roundw
                case rel => exact ⟨5, rfl, by omega, by omega, try_on Htry.out hB, acc⟩
                case measure => simp [intOf]
      · go_wp2
        go_ret3
        exact ⟨ret_first (first_none (try_none (fun m h1 h2 h3 => Htry.out m h1 (by omega) h3))), acc⟩
    · go_wp2
      go_ret3
      exact ⟨ret_first (first_none (try_none (fun m h1 h2 h3 => Htry.out m h1 (by omega) h3))), acc⟩
end Go.Proofs.Ytbjlckaedfnggaa
