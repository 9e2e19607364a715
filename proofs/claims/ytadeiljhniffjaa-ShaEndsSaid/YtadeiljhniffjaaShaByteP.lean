/-
  CONTRACTS of strings.IndexByte over the digits, of sha.Bytes and of the document's Bytes.
-/
import Derived.Test.YtadeiljhniffjaaShaHexP
import Derived.Laws.Externs
namespace Go.Proofs.Ytadeiljhniffjaa
open Go.RowKit
set_option linter.unusedVariables false

theorem ixLite_any (s : ByteArray) (c : Int) (w : World) :
    Calls Try.prog 26 #[.string s, .int .u8 c] w fun e w' => e = .returned (.int .i64 (Lib.indexByte s.data.toList c.toNat.toUInt8)) ∧ w = w' := by
  go_enter Try.func26, Try.ntmps26
  go_wp2
  rw [run_callFunc_extern Try.func31 (by kernel_rfl) (by kernel_rfl) (by kernel_rfl) (e := Extern.BytealgIndexByte.indexByte) (by kernel_rfl), Lib.run_indexByteString]
  simp only [Result.andThen]
  rw [Oper.upon_value]
  go_wp2
  go_ret
  exact ⟨rfl, rfl⟩
theorem ix_any (c : Int) (w : World) (h0 : 0 ≤ c) (h1 : c < 256) :
    Calls Try.prog 20 #[.string ⟨#[48, 49, 50, 51, 52, 53, 54, 55, 56, 57, 97, 98, 99, 100, 101, 102]⟩, .int .u8 c] w fun e w' => e = .returned (.int .i64 (hxV c)) ∧ w = w' := by
  have e : Lib.indexByte (⟨#[48, 49, 50, 51, 52, 53, 54, 55, 56, 57, 97, 98, 99, 100, 101, 102]⟩ : ByteArray).data.toList c.toNat.toUInt8 = hxV c := by
    have := index_dig c.toNat.toUInt8
    have e2 : ((c.toNat.toUInt8).toNat : Int) = c := by
      simp
      omega
    rw [e2] at this
    exact this
  have hc := ixLite_any ⟨#[48, 49, 50, 51, 52, 53, 54, 55, 56, 57, 97, 98, 99, 100, 101, 102]⟩ c w
  rw [e] at hc
  go_enter Try.func20, Try.ntmps20
  go_wp2_with (go_at_call 26; refine hc.mono ?_; rintro r w' ⟨rfl, rfl⟩)
  go_ret
  exact ⟨rfl, rfl⟩

def unS (h : ByteArray) : Option (List Int) := unN (nI h.data.toList)
def unR (h : ByteArray) : ByteArray := match unS h with | some r => strOfNums r | none => ⟨#[]⟩
def unB (h : ByteArray) : Bool := (unS h).isSome
theorem ret_un_no {h : ByteArray} (e : unS h = none) : Ending.returned (.tuple #[.string ⟨#[]⟩, .bool false]) = .returned (.tuple #[.string (unR h), .bool (unB h)]) := by
  unfold unR unB
  rw [e]
  rfl
theorem ret_un_yes {h : ByteArray} {r : List Int} (e : unS h = some r) : Ending.returned (.tuple #[.string (strOfNums r), .bool true]) = .returned (.tuple #[.string (unR h), .bool (unB h)]) := by
  unfold unR unB
  rw [e]
  rfl
theorem nI_len (h : ByteArray) : (nI h.data.toList).length = h.size := by unfold nI; rw [List.length_map, ← Lib.size_eq]
theorem nI_get {h : ByteArray} {i : Nat} (hi : i < h.size) : (nI h.data.toList).drop i = byI h i :: (nI h.data.toList).drop (i + 1) := by
  rw [List.drop_eq_getElem_cons (by rw [nI_len]; exact hi)]
  congr 1
  unfold byI nI
  rw [List.getElem_map, List.getD_eq_getElem?_getD, List.getElem?_eq_getElem (by rw [← Lib.size_eq]; exact hi)]
  rfl
theorem or16 {a b : Int} (h0 : 0 ≤ a) (h1 : a < 16) (h2 : 0 ≤ b) (h3 : b < 16) : bits .or .i64 (a * 16) b = a * 16 + b :=
  bits_join .i64 63 (by decide) (fun n h0 h1 => by rw [IntKind.wrap_i64]; omega) 4 (a * 16) b (by omega) (by omega) (by omega) (by omega) (by omega) (by omega)
theorem or16u {a b : Int} (h0 : 0 ≤ a) (h1 : a < 16) (h2 : 0 ≤ b) (h3 : b < 16) : bits .or .u8 (a * 16) b = a * 16 + b :=
  bits_join .u8 8 (by decide) wraps_u8 4 (a * 16) b (by omega) (by omega) (by omega) (by omega) (by omega) (by omega)

set_option maxHeartbeats 1000000 in
set_option maxRecDepth 10000000 in
theorem unhex_any (h : ByteArray) (w : World) (hs : h.size ≤ 70368744177663) :
    Calls Try.prog 9 #[.string h] w fun r w' => r = .returned (.tuple #[.string (unR h), .bool (unB h)]) ∧ Below w.heap.size w w' := by
  obtain ⟨i0, hi, hz0, hz1, hz2⟩ := info_parts el8.hi
  by_cases hodd : h.size % 2 = 1
  · have hN : unS h = none := unN_odd _ (by rw [nI_len]; exact hodd)
    have ho : (h.size : Int) % 2 = 1 := by omega
    have HN := Lib.hid hN
    clear hN hodd
    go_enter Try.func9, Try.ntmps9
    go_wp2
    go_ret2
    exact ⟨ret_un_no HN.out, Below.refl _ _⟩
  · obtain ⟨n, hn⟩ : ∃ n, n = h.size / 2 := ⟨_, rfl⟩
    have h2 : h.size = 2 * n := by omega
    have ho : (h.size : Int) % 2 = 0 := by omega
    have hq : (h.size : Int) / 2 = (n : Int) := by omega
    have H2 := Lib.hid h2
    clear hodd hn h2
    go_enter Try.func9, Try.ntmps9
    go_wp2_with (first | (refine wpList_make_own _ rfl (.const (.int .i64 0)) (.tmp 14) 25 rfl w.heap.size 5 i0 (.int .u8 0) 1 el8.ht hi hz0 hz1 .i64 .i64 _ n rfl rfl rfl (by rw [hz2]; have := H2.out; omega) (by unfold maxLen; have := H2.out; omega) (Nat.le_refl _) ?_; intro w1 hO hg; have hb := ((Below.refl w.heap.size w).grown hg (Nat.le_refl _) (fun k hk => by cases hk)); clear hg))
    go_loopw [4, 5] (fun v i wr => ∃ (j : Nat) (pre : List Int), i = .int .i64 (2 * (j : Int)) ∧ j ≤ n ∧ pre.length = j ∧ unAt pre ((nI h.data.toList).drop (2 * j)) = unS h ∧ OW 5 .u8 wr w.heap.size v pre ∧ Below w.heap.size w wr) (fun _ i _ => h.size - (intOf i).toNat)
    case atStart => exact ⟨0, [], rfl, by omega, rfl, by unfold unAt unS; simp, hO, hb⟩
    case round =>
      clear hO hb
      obtain ⟨j, pre, rfl, hj, hpl, hU, hO, hB⟩ := hrel
      by_cases hlt : j < n
      · have hsz := H2.out
        have l0 : 2 * j < h.size := by omega
        have l1 : 2 * j + 1 < h.size := by omega
        have hx0 := fun w => run_index_str h (2 * j) .i64 l0 w
        have hx1 := fun w => run_index_str h (2 * j + 1) .i64 l1 w
        have i0 : ((2 * j : Nat) : Int) = 2 * (j : Int) := by omega
        have i1 : ((2 * j + 1 : Nat) : Int) = 2 * (j : Int) + 1 := by omega
        rw [i0] at hx0
        rw [i1] at hx1
        have r0 := byI_rng h (2 * j)
        have r1 := byI_rng h (2 * j + 1)
        have hD := nI_get l0
        rw [nI_get l1, show 2 * j + 1 + 1 = 2 * (j + 1) by omega] at hD
        rw [hD] at hU
        clear hD i0 i1 l0 l1 hsz
        generalize byI h (2 * j) = a at hx0 r0 hU
        generalize byI h (2 * j + 1) = b at hx1 r1 hU
        obtain ⟨a0, a1⟩ := r0
        obtain ⟨b0, b1⟩ := r1
        have q0 := hxV_rng a
        have q1 := hxV_rng b
        have ha := fun w => ix_any a w a0 a1
        have hb := fun w => ix_any b w b0 b1
        obtain ⟨da, hda⟩ : ∃ x, x = hxV a := ⟨_, rfl⟩
        obtain ⟨db, hdb⟩ : ∃ x, x = hxV b := ⟨_, rfl⟩
        rw [← hda] at ha q0
        rw [← hdb] at hb q1
        obtain ⟨q00, q01⟩ := q0
        obtain ⟨q10, q11⟩ := q1
        have HA := Lib.hid hda
        have HB := Lib.hid hdb
        have HU := Lib.hid hU
        have HP := Lib.hid hpl
        clear hda hdb hU hpl
        by_cases c0 : da < 0
        · go_wp2_with (first | (go_at_call_of 20 (Value.int .u8 a); refine (ha _).mono ?_; rintro r w' ⟨rfl, rfl⟩) | (go_at_call_of 20 (Value.int .u8 b); refine (hb _).mono ?_; rintro r w' ⟨rfl, rfl⟩))
          go_ret2
          exact ⟨ret_un_no (HU.out.symm.trans (unAt_no (.inl (by rw [← HA.out]; exact c0)))), hB⟩
        · by_cases c1 : db < 0
          · go_wp2_with (first | (go_at_call_of 20 (Value.int .u8 a); refine (ha _).mono ?_; rintro r w' ⟨rfl, rfl⟩) | (go_at_call_of 20 (Value.int .u8 b); refine (hb _).mono ?_; rintro r w' ⟨rfl, rfl⟩))
            go_ret2
            exact ⟨ret_un_no (HU.out.symm.trans (unAt_no (.inr (by rw [← HB.out]; exact c1)))), hB⟩
          · have hor := or16 (a := da) (b := db) (by omega) (by omega) (by omega) (by omega)
            have hu8 : (da * 16 + db) % 256 = da * 16 + db := by omega
            go_wp2_with (first | (go_at_call_of 20 (Value.int .u8 a); refine (ha _).mono ?_; rintro r w' ⟨rfl, rfl⟩) | (go_at_call_of 20 (Value.int .u8 b); refine (hb _).mono ?_; rintro r w' ⟨rfl, rfl⟩) | (at_builtin; refine wp_app el8 rfl (.tmp 37) (.tmp 43) rfl rfl hO [da * 16 + db] 1 rfl rfl (by have := HP.out; have := H2.out; omega) (by decide) hB.size ?_; intro v' w1 hO1 hb1))
            go_roundw
            case rel => exact ⟨j + 1, pre ++ [da * 16 + db], by go_num, by omega, by rw [List.length_append, HP.out]; rfl, by rw [← HU.out, HA.out, HB.out]; exact (unAt_on (by rw [← HA.out]; omega) (by rw [← HB.out]; omega)).symm, hO1, hB.trans hb1⟩
            case measure => simp [intOf]; omega
      · have hjn : j = n := by omega
        have hcv := conv_own hO
        have hE : unS h = some pre := by
          rw [← hU, List.drop_eq_nil_of_le (by rw [nI_len, H2.out]; omega), unAt_end]
        have HE := Lib.hid hE
        have hsz := H2.out
        clear hjn hU hE hpl
        go_wp2
        go_ret2
        exact ⟨ret_un_yes HE.out, hB⟩
end Go.Proofs.Ytadeiljhniffjaa
