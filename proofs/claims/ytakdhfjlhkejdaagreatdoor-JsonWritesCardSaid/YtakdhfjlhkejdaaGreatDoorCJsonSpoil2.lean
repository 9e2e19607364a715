/-
  CONTRACT of codicillaw02.spoil: its walk.
-/
import Derived.Test.YtakdhfjlhkejdaaGreatDoorCJsonSpoil
set_option linter.unusedSimpArgs false
set_option linter.unusedVariables false
set_option linter.unusedVariables false
namespace Go.Proofs.YtakdhfjlhkejdaaGreatDoor
open Go.RowKit
set_option maxRecDepth 10000000 in
set_option maxHeartbeats 8000000 in
theorem spoil_any (N : Nat) : ∀ (v : JV), sizeV v ≤ N → ∀ (c0 c1 c2 c3 : Value) (w : World) (lo hi : Nat), SV w lo hi v c0 c1 c2 c3 → hi ≤ w.heap.size → sizeV v ≤ 1000000000000 → keysV v ≤ 1000000000000 →
    Calls Tryz.prog 28 #[.agg #[c0, c1, c2, c3]] w fun e w' => e = .returned (.tuple #[]) ∧ TT lo hi w w' := by
  induction N with
  | zero => intro v hv; obtain ⟨k, t, ks, l⟩ := v; simp only [sizeV] at hv; omega
  | succ N ih =>
    rintro ⟨k, t, ks, l⟩ hv c0 c1 c2 c3 w lo hi hV hhi hs hk
    have hkl : ks.length ≤ 1000000000000 := by simp only [keysV] at hk; omega
    have hll : l.length ≤ 1000000000000 := by simp only [sizeV] at hs; have := len_sizeL l; omega
    simp only [SV] at hV
    obtain ⟨⟨n0, rfl⟩, ⟨s0, rfl⟩, ⟨ka, kp, rfl, hK⟩, la, lp, rfl, hL⟩ := hV
    go_enter Tryz.func28, Tryz.ntmps28
    go_wp2
    have hbx := heap_alloc_new w (.cells #[.int .u8 n0, .string s0, .slice ka ks.length kp, .slice la l.length lp] 26)
    have hT0 : TT lo hi w (w.alloc (.cells #[.int .u8 n0, .string s0, .slice ka ks.length kp, .slice la l.length lp] 26)) := TT.below ((Below.refl _ _).alloc (Nat.le_refl _) _)
    generalize w.alloc (.cells #[.int .u8 n0, .string s0, .slice ka ks.length kp, .slice la l.length lp] 26) = wA at *
    have HK : Hid (ks.length = 0 ∨ ∃ b off, ka = some ⟨b, off, none⟩ ∧ lo ≤ b ∧ b < hi ∧ ∀ j, j < ks.length → (∃ s, w.cell? ⟨b, off + j, none⟩ = some (.string s)) ∧ w.frozen? ⟨b, off + j, none⟩ = false) := Lib.hid hK
    have HL : Hid (l = [] ∨ ∃ b off, la = some ⟨b, off, none⟩ ∧ lo ≤ b ∧ b < hi ∧ SRow w lo hi l b off) := Lib.hid hL
    clear hK hL
    go_loopw [2] (fun vi wr => ∃ i : Nat, vi = .int .i64 i ∧ i ≤ l.length ∧ TT lo hi w wr ∧ wr.heap[w.heap.size]? = some (.cells #[.int .u8 n0, .string s0, .slice ka ks.length kp, .slice la l.length lp] 26 (0, 0))) (fun vi _ => l.length - (intOf vi).toNat)
    case atStart => exact ⟨0, rfl, Nat.zero_le _, hT0, hbx⟩
    case round =>
      clear hT0 hbx
      obtain ⟨i, rfl, hi2, hT, hx⟩ := hrel
      have y3 := Lib.cell_of_heap hx 3
      have hbl := (Array.getElem?_eq_some_iff.1 hx).1
      by_cases hgo : i < l.length
      · obtain ⟨x, hxi⟩ : ∃ x, l[i]? = some x := ⟨_, List.getElem?_eq_getElem hgo⟩
        obtain ⟨lb, lof, rfl, h1, h2, hR⟩ := HL.out.resolve_left (by rintro rfl; simp at hgo)
        obtain ⟨q0, q1, q2, q3, g0, g1, g2, g3, gf, hVx⟩ := SRow.at' l lb lof i x (SRow.kept hT l lb lof h1 h2 hR) hxi
        have hsx : sizeV x ≤ N := by have := sizeV_in hxi; simp only [sizeV] at hv; omega
        have hsx2 : sizeV x ≤ 1000000000000 := by have := sizeV_in hxi; simp only [sizeV] at hs; omega
        have hkx2 : keysV x ≤ 1000000000000 := by have := keysV_in hxi; simp only [keysV] at hk; omega
        have hcall := ih x hsx _ _ _ _ wr lo hi hVx (by omega) hsx2 hkx2
        have hq0 : ∃ m, q0 = .int .u8 m := by
          obtain ⟨_, _, _, _⟩ := x
          simp only [SV] at hVx
          exact hVx.1
        obtain ⟨m0, rfl⟩ := hq0
        have hgo2 : (i : Int) < (l.length : Int) := by omega
        clear hVx hxi hR hsx hsx2 hkx2
        go_wp2_with (go_at_call 28; refine hcall.mono ?_; rintro e w2 ⟨rfl, hT2⟩; obtain ⟨x0, u0, k0⟩ := hT2.inn _ _ h1 h2 g0; obtain ⟨m1, rfl⟩ := k0.int; have uf := hT2.frz _ h1 h2 (cell_lt g0) gf; have hx2 := (hT2.out _ hbl (.inr hhi)).trans hx; have y4 := Lib.cell_of_heap hx2 3)
        have hT3 := (hT.trans hT2).trans (TT.set (x := .int .u8 99) h1 h2 u0 (.inl ⟨_, _, rfl, rfl⟩))
        go_roundw
        case rel => exact ⟨i + 1, by go_num, hgo, hT3, (Below.heap_setCell _ _ _ _ (by simp only; omega)).trans hx2⟩
        case measure => simp [intOf]; omega
      · have hge : ¬ ((i : Int) < (l.length : Int)) := by omega
        go_wp2
        go_loopw [3] (fun vi wr => ∃ i : Nat, vi = .int .i64 i ∧ i ≤ ks.length ∧ TT lo hi w wr ∧ wr.heap[w.heap.size]? = some (.cells #[.int .u8 n0, .string s0, .slice ka ks.length kp, .slice la l.length lp] 26 (0, 0))) (fun vi _ => ks.length - (intOf vi).toNat)
        case atStart => exact ⟨0, rfl, Nat.zero_le _, hT, hx⟩
        case round =>
          clear hT hx y3 hbl
          obtain ⟨j, rfl, hj, hT, hx⟩ := hrel
          have y2 := Lib.cell_of_heap hx 2
          by_cases hgo3 : j < ks.length
          · obtain ⟨kb, ko, rfl, h1, h2, hR⟩ := HK.out.resolve_left (by omega)
            obtain ⟨⟨s1, u0⟩, uf⟩ := hR j hgo3
            obtain ⟨x1, u1, k1⟩ := hT.inn _ _ h1 h2 u0
            obtain ⟨s2, rfl⟩ := k1.str
            have uf1 := hT.frz _ h1 h2 (cell_lt u0) uf
            have hgo4 : (j : Int) < (ks.length : Int) := by omega
            clear hR u0 uf
            go_wp2
            have hT3 := hT.trans (TT.set (x := .string ⟨#[115, 112, 111, 105, 108, 116]⟩) h1 h2 u1 (.inr (.inl ⟨_, _, rfl, rfl⟩)))
            go_roundw
            case rel => exact ⟨j + 1, by go_num, hgo3, hT3, (Below.heap_setCell _ _ _ _ (by simp only; omega)).trans hx⟩
            case measure => simp [intOf]; omega
          · have hge2 : ¬ ((j : Int) < (ks.length : Int)) := by omega
            go_wp2
            exact bodyPost_end (results_none rfl _ _ _) rfl ⟨rfl, hT⟩
end Go.Proofs.YtakdhfjlhkejdaaGreatDoor
