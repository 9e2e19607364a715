/-
  CONTRACT of the document's Bytes.
-/
import Derived.Test.YtadeiljhniffjaaShaByteP
import Derived.Test.YtadeiljhniffjaaShaPad
namespace Go.Proofs.Ytadeiljhniffjaa
open Go.RowKit
set_option linter.unusedVariables false

theorem run_dig64 (k : Nat) (h1 : k < 16) (w : World) :
    (Instr.index 9 (.string ⟨#[48, 49, 50, 51, 52, 53, 54, 55, 56, 57, 97, 98, 99, 100, 101, 102]⟩) (.int .i64 k)).run Try.prog w = .ok (.int .u8 (dgI k)) w := by
  rw [run_index_str ⟨#[48, 49, 50, 51, 52, 53, 54, 55, 56, 57, 97, 98, 99, 100, 101, 102]⟩ k .i64 (by show k < 16; omega)]
  have e : ∀ m : Fin 16, byI ⟨#[48, 49, 50, 51, 52, 53, 54, 55, 56, 57, 97, 98, 99, 100, 101, 102]⟩ m.val = dgI (m.val : Nat) := by decide +kernel
  have := e ⟨k, h1⟩
  simp only at this
  rw [this]
/-- the value found among the first k digits -/
def findD (c : Int) (k : Nat) : Int := if hxV c < k then hxV c else -1
theorem findD_zero (c : Int) : findD c 0 = -1 := by
  have := hxV_rng c
  unfold findD
  split <;> omega
theorem findD_all (c : Int) : findD c 16 = hxV c := by
  have := hxV_rng c
  unfold findD
  rw [if_pos (by omega)]
theorem findD_hit {c : Int} {k : Nat} (h : dgI k = c) (hk : k < 16) : (k : Int) = findD c (k + 1) := by
  have e : hxV c = k := by rw [← h, hxV_dg (by omega) (by omega)]
  unfold findD
  rw [e, if_pos (by omega)]
theorem findD_miss {c : Int} {k : Nat} (h : ¬ dgI k = c) (hk : k < 16) : findD c k = findD c (k + 1) := by
  have e : hxV c ≠ k := by
    intro e
    apply h
    rw [← e, dg_hxV (by omega)]
  unfold findD
  by_cases h1 : hxV c < k
  · rw [if_pos h1, if_pos (by omega)]
  · rw [if_neg h1, if_neg (by omega)]
structure UnEven (h : ByteArray) (n i : Nat) (L : List Int) (j : Nat) (pre : List Int) : Prop where
  i : i = 2 * j
  l : L = pre ++ List.replicate (n - j) 0
  p : pre.length = j
  u : unAt pre ((nI h.data.toList).drop (2 * j)) = unS h
structure UnOdd (h : ByteArray) (n i : Nat) (L : List Int) (j : Nat) (pre : List Int) : Prop where
  i : i = 2 * j + 1
  l : L = pre ++ hxV (byI h (2 * j)) :: List.replicate (n - (j + 1)) 0
  p : pre.length = j
  d : 0 ≤ hxV (byI h (2 * j))
  u : unAt pre ((nI h.data.toList).drop (2 * j)) = unS h
def UnSt (h : ByteArray) (n i : Nat) (L : List Int) : Prop := ∃ j pre, UnEven h n i L j pre ∨ UnOdd h n i L j pre
theorem UnSt.len {h : ByteArray} {n i : Nat} {L : List Int} (k : UnSt h n i L) (hi : i ≤ 2 * n) : L.length = n := by
  obtain ⟨j, pre, e | e⟩ := k
  · have := e.i; have := e.p; rw [e.l, List.length_append, List.length_replicate]; omega
  · have := e.i; have := e.p; rw [e.l, List.length_append, List.length_cons, List.length_replicate]; omega
theorem UnSt.start (h : ByteArray) (n : Nat) : UnSt h n 0 (List.replicate n 0) := ⟨0, [], .inl ⟨rfl, by simp, rfl, by unfold unAt unS; simp⟩⟩
theorem UnSt.fail {h : ByteArray} {n i : Nat} {L : List Int} (k : UnSt h n i L) (hh : h.size = 2 * n) (hi : i < 2 * n) (hd : hxV (byI h i) < 0) : unS h = none := by
  obtain ⟨j, pre, e | e⟩ := k
  · have e1 := e.i
    subst e1
    rw [← e.u, nI_get (by omega), nI_get (by omega)]
    exact unAt_no (.inl hd)
  · have e1 := e.i
    subst e1
    rw [← e.u, nI_get (by omega), nI_get (by omega)]
    exact unAt_no (.inr hd)
theorem UnSt.on {h : ByteArray} {n i : Nat} {L : List Int} (k : UnSt h n i L) (hh : h.size = 2 * n) (hi : i < 2 * n) (hd : 0 ≤ hxV (byI h i)) :
    0 ≤ L.getD (i / 2) 0 ∧ L.getD (i / 2) 0 < 16 ∧ UnSt h n (i + 1) (L.set (i / 2) (L.getD (i / 2) 0 * 16 + hxV (byI h i))) := by
  obtain ⟨j, pre, e | e⟩ := k
  · have e1 := e.i
    subst e1
    have ej : 2 * j / 2 = j := by omega
    have hr : List.replicate (n - j) (0 : Int) = 0 :: List.replicate (n - (j + 1)) 0 := by
      rw [show n - j = (n - (j + 1)) + 1 by omega]
      rfl
    have hg : L.getD j 0 = 0 := by
      rw [e.l, hr, List.getD_eq_getElem?_getD, List.getElem?_append_right (by rw [e.p]; omega), e.p, Nat.sub_self]
      rfl
    rw [ej, hg]
    refine ⟨by omega, by omega, j, pre, .inr ⟨rfl, ?_, e.p, hd, e.u⟩⟩
    rw [e.l, hr, List.set_append_right _ _ (by rw [e.p]; omega), e.p, Nat.sub_self, List.set_cons_zero]
    congr 2
    omega
  · have e1 := e.i
    subst e1
    have ej : (2 * j + 1) / 2 = j := by omega
    have hg : L.getD j 0 = hxV (byI h (2 * j)) := by
      rw [e.l, List.getD_eq_getElem?_getD, List.getElem?_append_right (by rw [e.p]; omega), e.p, Nat.sub_self]
      rfl
    have hr := hxV_rng (byI h (2 * j))
    rw [ej, hg]
    refine ⟨e.d, hr.2, j + 1, pre ++ [hxV (byI h (2 * j)) * 16 + hxV (byI h (2 * j + 1))], .inl ⟨by omega, ?_, by rw [List.length_append, e.p]; rfl, ?_⟩⟩
    · rw [e.l, List.set_append_right _ _ (by rw [e.p]; omega), e.p, Nat.sub_self, List.set_cons_zero, List.append_assoc]
      rfl
    · rw [← e.u, nI_get (i := 2 * j) (by omega), nI_get (i := 2 * j + 1) (by omega), unAt_on e.d hd]
      rfl
theorem UnSt.done {h : ByteArray} {n : Nat} {L : List Int} (k : UnSt h n (2 * n) L) (hh : h.size = 2 * n) : unS h = some L := by
  obtain ⟨j, pre, e | e⟩ := k
  · have : j = n := by have := e.i; omega
    subst this
    rw [← e.u, List.drop_eq_nil_of_le (by rw [nI_len]; omega), unAt_end, e.l, Nat.sub_self]
    simp
  · have := e.i; omega

set_option maxHeartbeats 1000000 in
set_option maxRecDepth 10000000 in
theorem refUnhex_any (h : ByteArray) (w : World) (hs : h.size ≤ 70368744177663) :
    Calls Try.prog 10 #[.string h] w fun r w' => r = .returned (.tuple #[.string (unR h), .bool (unB h)]) ∧ Below w.heap.size w w' := by
  obtain ⟨i0, hi, hz0, hz1, hz2⟩ := info_parts el8.hi
  by_cases hodd : h.size % 2 = 1
  · have hN : unS h = none := unN_odd _ (by rw [nI_len]; exact hodd)
    have ho : (h.size : Int) % 2 = 1 := by omega
    have HN := Lib.hid hN
    clear hN hodd
    go_enter Try.func10, Try.ntmps10
    go_wp2
    go_ret2
    exact ⟨ret_un_no HN.out, Below.refl _ _⟩
  · obtain ⟨n, hn⟩ : ∃ n, n = h.size / 2 := ⟨_, rfl⟩
    have h2 : h.size = 2 * n := by omega
    have ho : (h.size : Int) % 2 = 0 := by omega
    have hq : (h.size : Int) / 2 = (n : Int) := by omega
    have H2 := Lib.hid h2
    clear hodd hn h2
    go_enter Try.func10, Try.ntmps10
    go_wp2_with (first | (refine wpList_make_full _ rfl (.tmp 14) (.tmp 14) 25 rfl w.heap.size 5 i0 (.int .u8 0) 1 el8.ht hi hz0 hz1 .i64 .i64 _ _ n rfl rfl rfl rfl (by rw [hz2]; have := H2.out; omega) (by unfold maxLen; have := H2.out; omega) (Nat.le_refl _) ?_; intro w1 hO hg; have hO := made_own hO; have hb := ((Below.refl w.heap.size w).grown hg (Nat.le_refl _) (fun k hk => by cases hk)); clear hg))
    go_loopw [5] (fun v wr => ∃ (i : Nat) (L : List Int), v = .int .i64 i ∧ i ≤ 2 * n ∧ UnSt h n i L ∧ OW 5 .u8 wr w.heap.size (.slice (some ⟨w.heap.size, 0, none⟩) L.length n) L ∧ Below w.heap.size w wr) (fun v _ => h.size - (intOf v).toNat)
    case atStart => exact ⟨0, _, rfl, by omega, UnSt.start h n, hO, hb⟩
    case round =>
      clear hO hb
      obtain ⟨i, L, rfl, hin, hU, hO, hB⟩ := hrel
      have hsz := H2.out
      by_cases hlt : i < h.size
      · have hx := fun w => run_index_str h i .i64 hlt w
        have hr := byI_rng h i
        obtain ⟨c, hc⟩ : ∃ c, c = byI h i := ⟨_, rfl⟩
        rw [← hc] at hx hr
        have CC := Lib.hid hc
        have hlt' : (i : Int) < (h.size : Int) := by omega
        have hll := hU.len hin
        have LL := Lib.hid hll
        have HU := Lib.hid hU
        clear hc hU hsz hll
        go_wp2
        go_loopw [6, 7] (fun vd vk wx => ∃ (k : Nat), vk = .int .i64 k ∧ k ≤ 16 ∧ vd = .int .i64 (findD c k) ∧ OW 5 .u8 wx w.heap.size (.slice (some ⟨w.heap.size, 0, none⟩) L.length n) L ∧ Below w.heap.size w wx) (fun _ vk _ => 16 - (intOf vk).toNat)
        case atStart => exact ⟨0, rfl, by omega, by rw [findD_zero], hO, hB⟩
        case round =>
          clear hO hB
          obtain ⟨k, rfl, hk, rfl, hO, hB⟩ := hrel
          by_cases hk16 : k < 16
          · have hd := fun w => run_dig64 k hk16 w
            by_cases heq : dgI k = c
            · have hb : (dgI (k : Int) == c) = true := by simpa using heq
              have E := Lib.hid (findD_hit heq hk16)
              clear heq
              go_wp2
              go_region
              all_goals go_wp2
              all_goals go_roundw
              case rel => exact ⟨k + 1, by go_num, by omega, by rw [← E.out], hO, hB.drew⟩
              case measure => simp [intOf]; omega
            · have hb : (dgI (k : Int) == c) = false := by simpa using heq
              have E := Lib.hid (findD_miss heq hk16)
              clear heq
              go_wp2
              go_region
              all_goals go_wp2
              all_goals go_roundw
              case rel => exact ⟨k + 1, by go_num, by omega, by rw [← E.out], hO, hB.drew⟩
              case measure => simp [intOf]; omega
          · have hfd : findD c k = hxV c := by rw [show k = 16 by omega]; exact findD_all c
            rw [hfd]
            clear hfd
            obtain ⟨d, hd⟩ : ∃ d, d = hxV c := ⟨_, rfl⟩
            rw [← hd]
            have hrg := hxV_rng c
            rw [← hd] at hrg
            obtain ⟨g0, g1⟩ := hrg
            have DD := Lib.hid (hd.trans (congrArg hxV CC.out))
            clear hd
            have hsz := H2.out
            by_cases c0 : d < 0
            · have E := Lib.hid (HU.out.fail hsz (by omega) (by rw [← DD.out]; exact c0))
              clear hsz
              go_wp2
              go_ret2
              exact ⟨ret_un_no E.out, hB⟩
            · have hon := HU.out.on hsz (by omega) (by rw [← DD.out]; omega)
              have hc0 := hO.cell (j := i / 2) (by rw [LL.out]; omega)
              have hf0 := hO.free (i / 2)
              have hq2 : (i : Int) / 2 < (n : Int) := by omega
              rw [← DD.out] at hon
              have hset := hO.set (i / 2)
              generalize L.getD (i / 2) 0 = x at hc0 hon
              obtain ⟨x0, x1, hst⟩ := hon
              have hor := or16u (a := x) (b := d) x0 x1 (by omega) g1
              have hu8 : d % 256 = d := by omega
              have hux : x * 16 % 256 = x * 16 := by omega
              have SS := Lib.hid hst
              clear hst hsz
              go_wp2
              go_roundw
              case rel => exact ⟨i + 1, L.set (i / 2) (x * 16 + d), by go_num, by have := H2.out; omega, SS.out, hset _, hB.setCell (p := ⟨w.heap.size, i / 2, none⟩) (Nat.le_refl _) _⟩
              case measure => simp [intOf]; omega
      · have hi2 : i = 2 * n := by omega
        rw [hi2] at hU
        have HE := Lib.hid (hU.done hsz)
        have hcv := conv_own hO
        have hll := Lib.hid (hU.len (Nat.le_refl _))
        rw [hll.out] at hcv
        clear hi2 hU
        go_wp2
        go_ret2
        exact ⟨ret_un_yes HE.out, hB⟩
end Go.Proofs.Ytadeiljhniffjaa
