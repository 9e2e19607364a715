/-
  CONTRACT of sha.words.
-/
import Derived.Test.YtadeiljhniffjaaShaRow
namespace Go.Proofs.Ytadeiljhniffjaa
open Go.RowKit

theorem box1 (w : World) (x y : Value) (t : TypeId) : ((w.alloc (.cells #[x] t)).alloc (.cells #[y] t)).cell? ⟨w.heap.size, 0, none⟩ = some x := by
  rw [cell_of_row _ _ 0 _ t (0, 0) (heap_alloc2_old w _ _)]
  rfl
theorem box2 (w : World) (x y : Value) (t : TypeId) : ((w.alloc (.cells #[x] t)).alloc (.cells #[y] t)).cell? ⟨w.heap.size + 1, 0, none⟩ = some y := by
  rw [cell_of_row _ _ 0 _ t (0, 0) (heap_alloc2_new w _ _)]
  rfl
set_option maxHeartbeats 1000000 in
theorem words_any (s : ByteArray) (w : World) (hs : 64 ≤ s.size) (hm : s.size ≤ maxLen) :
    Calls Try.prog 21 #[.string s] w fun e w' => e = .returned (.agg ((wordsN 48 (w16 s 16)).map (Value.int .u32)).toArray) ∧ Below w.heap.size w w' := by
  unfold maxLen at hm
  go_enter Try.func21, Try.ntmps21
  go_wp2
  go_loopw [13] (fun v wr => ∃ (t : Nat) (L : List Int), v = .int .i64 t ∧ t ≤ 16 ∧ L.length = 64 ∧ L.take t = w16 s t ∧ AR .u32 31 wr (w.heap.size + 1) L ∧ Below (w.heap.size + 1) (w.alloc (.cells ((List.replicate 64 0).map (Value.int .u32)).toArray 31)) wr) (fun v _ => 16 - (intOf v).toNat)
  case atStart =>
    refine ⟨0, List.replicate 64 0, rfl, by omega, by simp, rfl, ?_, ?_⟩
    · exact heap_alloc2_new _ _ _
    · exact (Below.refl _ _).alloc (by simp) _
  case round =>
    obtain ⟨t, L, rfl, ht, hL, hT, hA, hB⟩ := hrel
    by_cases h : t < 16
    · have hc := hA.cell (j := t) (by omega)
      have hf := hA.free t
      go_wp2
      obtain ⟨b, hb⟩ : ∃ b, b = s.extract (4 * t) (4 * (t + 1)) := ⟨_, rfl⟩
      rw [← hb]
      have hz : b.size = 4 := by
        rw [hb, Lib.size_eq, Lib.extract_data, List.length_take, List.length_drop, ← Lib.size_eq]
        omega
      have h0 : 0 < b.size := by omega
      have h1 : 1 < b.size := by omega
      have h2 : 2 < b.size := by omega
      have h3 : 3 < b.size := by omega
      have i0 : (0 : Int) < (b.size : Int) := by omega
      have i1 : (1 : Int) < (b.size : Int) := by omega
      have i2 : (2 : Int) < (b.size : Int) := by omega
      have i3 : (3 : Int) < (b.size : Int) := by omega
      have E := Lib.hid (be_ext hb h0 h1 h2 h3)
      have T' := Lib.hid hT
      clear hb hs hm hT hz
      go_region
      go_wp2
      go_roundw
      case rel =>
        refine ⟨t + 1, L.set t (beI s t), by go_num, by omega, by simpa using hL, ?_, ?_, ?_⟩
        · rw [take_set_on (by omega), T'.out, w16_on]
        · rw [← E.out]; exact hA.set t _
        · exact (hB.setCell (p := ⟨w.heap.size + 1, t, none⟩) (Nat.le_refl _) _).drew
      case measure => simp [intOf]; omega
    · have h16 : t = 16 := by omega
      rw [h16] at hT
      clear h16
      go_wp2
      go_loopw [6] (fun v wr => ∃ (m : Nat) (L : List Int), v = .int .i64 ((m : Int) + 16) ∧ m ≤ 48 ∧ L.length = 64 ∧ L.take (m + 16) = wordsN m (w16 s 16) ∧ AR .u32 31 wr (w.heap.size + 1) L ∧ Below (w.heap.size + 1) (w.alloc (.cells ((List.replicate 64 0).map (Value.int .u32)).toArray 31)) wr) (fun v _ => 64 - (intOf v).toNat)
      case atStart => exact ⟨0, L, rfl, by omega, hL, hT, hA, hB⟩
      case round =>
        clear hL hT hA hB L
        obtain ⟨m, L, rfl, hm', hL, hT, hA, hB⟩ := hrel
        by_cases h : m < 48
        · obtain ⟨x, hx⟩ : ∃ x, x = L.getD (m + 1) 0 := ⟨_, rfl⟩
          obtain ⟨y, hy⟩ : ∃ y, y = L.getD (m + 14) 0 := ⟨_, rfl⟩
          have c15 := hA.cell (j := m + 1) (by omega)
          have c2 := hA.cell (j := m + 14) (by omega)
          rw [← hx] at c15
          rw [← hy] at c2
          have X := Lib.hid hx
          have Y := Lib.hid hy
          have T' := Lib.hid hT
          clear hx hy hT
          have hf := hA.free (m + 16)
          go_wp2
          go_region
          have hb1 := box1 wr (.int .u32 x) (.int .u32 y) 30
          have hb2 := box2 wr (.int .u32 x) (.int .u32 y) 30
          go_wp2_with (first | (go_at_call 27; refine (turned_any _ _).mono ?_; rintro e w' ⟨rfl, rfl⟩) | (go_at_call_of 32 (Value.pointer (some ⟨wr.heap.size, 0, none⟩)); refine (spin_at x _ _ _ _ hb1 ?_ (by decide) (by decide)).mono ?_; rfl; rintro e w' ⟨rfl, rfl⟩))
          go_wp2_with (go_at_call 32; refine (spin_at y _ _ _ _ hb2 ?_ (by decide) (by decide)).mono ?_; rfl; rintro e w' ⟨rfl, rfl⟩)
          clear hb1 hb2
          have A2 := (hA.alloc (.cells #[.int .u32 x] 30)).alloc (.cells #[.int .u32 y] 30)
          have B2 := (hB.alloc (by have := hA.lt; omega) (.cells #[.int .u32 x] 30)).alloc (by have := (hA.alloc (.cells #[.int .u32 x] 30)).lt; omega) (.cells #[.int .u32 y] 30)
          obtain ⟨p, hp⟩ : ∃ p, p = L.getD (m + 9) 0 := ⟨_, rfl⟩
          obtain ⟨q, hq⟩ : ∃ q, q = L.getD m 0 := ⟨_, rfl⟩
          have c7 := A2.cell (j := m + 9) (by omega)
          have c16 := A2.cell (j := m) (by omega)
          have c0 := A2.cell (j := m + 16) (by omega)
          have f0 := A2.free (m + 16)
          rw [← hp] at c7
          rw [← hq] at c16
          have P' := Lib.hid hp
          have Q' := Lib.hid hq
          clear hp hq c15 c2 hf
          go_region
          go_wp2
          have E := Lib.hid (oneW_at T'.out (by omega))
          go_roundw
          case rel =>
            refine ⟨m + 1, L.set (m + 16) (nextW (wordsN m (w16 s 16))), by go_num, by omega, by simpa using hL, ?_, ?_, ?_⟩
            · rw [show m + 1 + 16 = m + 16 + 1 by omega, take_set_on (by omega), T'.out]
              rfl
            · have e := E.out
              rw [← P'.out, ← Q'.out, ← X.out, ← Y.out] at e
              rw [← e]
              exact A2.set (m + 16) _
            · exact (B2.setCell (p := ⟨w.heap.size + 1, m + 16, none⟩) (Nat.le_refl _) _).drew.drew.drew.drew.drew.drew
          case measure => simp [intOf]; omega
        · obtain rfl : m = 48 := by omega
          have hT' := Lib.hid ((List.take_of_length_le (by omega)).symm.trans hT)
          have hres : AR .u32 31 wr w.heap.size (List.replicate 64 0) := (hB.block _ (by omega)).trans (heap_alloc_new w _)
          clear hT
          have A9 := hres.row L
          have B9 : Below w.heap.size w (wr.setRow w.heap.size (L.map (Value.int .u32)).toArray) := below_row (((Below.refl _ _).alloc (Nat.le_refl _) _).trans (hB.mono (Nat.le_succ _))) (Nat.le_refl _) _
          go_wp2_with (first | (refine wpList_load_row rfl 31 _ rfl (w.heap.size + 1) rfl 31 _ (0, 0) _ hA Try.underlying31 rfl (Try.size64.trans (congrArg some (AR.size _ _ hL).symm)) ?_) | (refine wpList_store_row rfl 31 _ _ rfl w.heap.size _ rfl rfl 31 _ hres (Try.size64.trans (congrArg some (AR.size _ _ hL).symm)) (by simp [hL]) (AR.all _ _) ?_))
          refine bodyPost_ret (v := .agg (L.map (Value.int .u32)).toArray) ?_ rfl ⟨by rw [hT'.out], B9⟩
          exact results_cell_row rfl _ _ w.heap.size 31 _ (0, 0) _ rfl A9 Try.underlying31 rfl (Try.size64.trans (congrArg some (AR.size _ _ hL).symm))
end Go.Proofs.Ytadeiljhniffjaa
