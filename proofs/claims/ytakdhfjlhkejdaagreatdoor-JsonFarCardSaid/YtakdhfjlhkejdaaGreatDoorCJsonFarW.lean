/-
  codicillaw02.JsonFar: its walk.
-/
import Derived.Test.YtakdhfjlhkejdaaGreatDoorCJsonFarM
import Derived.Test.YtakdhfjlhkejdaaGreatDoorCJsonRWr4
import Derived.Test.YtakdhfjlhkejdaaGreatDoorN7
import Derived.Deep.DeepCutAuto
import Derived.Deep.AppendLies
set_option linter.unusedSimpArgs false
set_option linter.unusedVariables false
set_option linter.unusedVariables false
set_option linter.unusedSimpArgs false
namespace Go.Proofs.YtakdhfjlhkejdaaGreatDoor
open Go.RowKit
set_option maxRecDepth 10000000 in
set_option maxHeartbeats 8000000 in
theorem far_any (o : Int) (ho : -128 ≤ o) (ho2 : o ≤ 127) (w : World) (hvars : Vars w) :
    Calls Tryz.prog 7 #[.int .i8 o] w fun e w' => e = .returned (.bool true) ∧ Below w.heap.size w w' := by
  have hw0 : IntKind.i64.wrap o = o := IntWalk.i64_in _ (by omega)
  have hw1 : IntKind.i64.wrap (48 + o) = 48 + o := IntWalk.i64_in _ (by omega)
  have hw2 : IntKind.i64.wrap (4096 + o) = 4096 + o := IntWalk.i64_in _ (by omega)
  have hw3 : IntKind.i64.wrap (65536 + o) = 65536 + o := IntWalk.i64_in _ (by omega)
  have hx0 := RB.new w (.int .u8 (6 : Nat)) (.string ⟨#[]⟩) (.slice none 0 0) (.slice none 0 0)
  have hb0 : Below w.heap.size w (w.alloc (.cells #[.int .u8 (6 : Nat), .string ⟨#[]⟩, .slice none 0 0, .slice none 0 0] 26)) := (Below.refl _ w).alloc (Nat.le_refl _) _
  go_enter Tryz.func7, Tryz.ntmps7
  go_wp2_with fail
  generalize w.alloc (.cells #[.int .u8 6, .string ⟨#[]⟩, .slice none 0 0, .slice none 0 0] 26) = W at *
  go_loopw [5, 6] (fun v5 v6 wr => ∃ (S : ByteArray) (i : Nat) (la : Option Addr) (ll lc : Nat), v5 = .string S ∧ v6 = .int .i64 (i : Nat) ∧ S.size = i ∧ (i = 0 ∨ (i : Int) ≤ 48 + o) ∧ RB wr w.heap.size (.int .u8 (6 : Nat)) (.string ⟨#[]⟩) (.slice none 0 0) (.slice la ll lc) ∧ IsV wr (w.heap.size + 1) (deepN (i - 1)) (.int .u8 (6 : Nat)) (.string ⟨#[]⟩) (.slice none 0 0) (.slice la ll lc) ∧ Below w.heap.size w wr) (fun _ v6 _ => (48 + o).toNat - (intOf v6).toNat)
  case atStart => exact ⟨⟨#[]⟩, 0, none, 0, 0, rfl, rfl, rfl, .inl rfl, hx0, deepN_zero _ _, hb0⟩
  case round =>
    obtain ⟨S, i, la, ll, lc, rfl, rfl, hSi, hi, hR, hV, hB⟩ := hrel
    have hi175 : i ≤ 175 := by omega
    have hSz : S.size ≤ 175 := by omega
    obtain ⟨x0, x1, x2, x3⟩ := hR.cells
    obtain ⟨z0, z1, z2, z3⟩ := hR.frozen
    have HSi := Lib.hid hSi
    clear hSi hx0 hb0
    by_cases hlt : (i : Int) < 48 + o
    · by_cases h0 : i = 0
      · subst h0
        go_wp2_with fail
        go_roundw
        case rel => exact ⟨S ++ ⟨#[91]⟩, 1, la, ll, lc, rfl, rfl, by rw [ByteArray.size_append, HSi.out]; rfl, .inr (by omega), hR, hV, hB⟩
        case measure => simp [intOf]; omega
      · have hip : (0 : Int) < (i : Int) := by omega
        have hRA : ∀ O : Obj, RB (wr.alloc O) w.heap.size (.int .u8 (6 : Nat)) (.string ⟨#[]⟩) (.slice none 0 0) (.slice la ll lc) := fun O => hR.alloc O
        have q0 := fun O => (hRA O).cells.1; have q1 := fun O => (hRA O).cells.2.1; have q2 := fun O => (hRA O).cells.2.2.1; have q3 := fun O => (hRA O).cells.2.2.2
        have p0 := fun O => (hRA O).frozen.1; have p1 := fun O => (hRA O).frozen.2.1; have p2 := fun O => (hRA O).frozen.2.2.1; have p3 := fun O => (hRA O).frozen.2.2.2
        have hlw := hR.lt
        have hz4 : ((((wr.setCell ⟨w.heap.size, 0, none⟩ (.int .u8 6)).setCell ⟨w.heap.size, 1, none⟩ (.string ⟨#[]⟩)).setCell ⟨w.heap.size, 2, none⟩ (.slice none 0 0)).setCell ⟨w.heap.size, 3, none⟩ (.slice (some ⟨wr.heap.size, 0, none⟩) 1 1)).heap.size = wr.heap.size := by rw [set_size, set_size, set_size, set_size]
        have hN : (((((wr.setCell ⟨w.heap.size, 0, none⟩ (.int .u8 6)).setCell ⟨w.heap.size, 1, none⟩ (.string ⟨#[]⟩)).setCell ⟨w.heap.size, 2, none⟩ (.slice none 0 0)).setCell ⟨w.heap.size, 3, none⟩ (.slice (some ⟨wr.heap.size, 0, none⟩) 1 1)).alloc (.cells #[.int .u8 6, .string ⟨#[]⟩, .slice none 0 0, .slice la ll lc] 26)).heap[wr.heap.size]? = some (.cells #[.int .u8 6, .string ⟨#[]⟩, .slice none 0 0, .slice la ll lc] 26 (0, 0)) := by
          have := heap_alloc_new ((((wr.setCell ⟨w.heap.size, 0, none⟩ (.int .u8 6)).setCell ⟨w.heap.size, 1, none⟩ (.string ⟨#[]⟩)).setCell ⟨w.heap.size, 2, none⟩ (.slice none 0 0)).setCell ⟨w.heap.size, 3, none⟩ (.slice (some ⟨wr.heap.size, 0, none⟩) 1 1)) (.cells #[.int .u8 6, .string ⟨#[]⟩, .slice none 0 0, .slice la ll lc] 26)
          rw [hz4] at this
          exact this
        have hRQ : RB (((((wr.setCell ⟨w.heap.size, 0, none⟩ (.int .u8 6)).setCell ⟨w.heap.size, 1, none⟩ (.string ⟨#[]⟩)).setCell ⟨w.heap.size, 2, none⟩ (.slice none 0 0)).setCell ⟨w.heap.size, 3, none⟩ (.slice (some ⟨wr.heap.size, 0, none⟩) 1 1)).alloc (.cells #[.int .u8 6, .string ⟨#[]⟩, .slice none 0 0, .slice la ll lc] 26)) w.heap.size (.int .u8 (6 : Nat)) (.string ⟨#[]⟩) (.slice none 0 0) (.slice (some ⟨wr.heap.size, 0, none⟩) 1 1) := (hR.set4 (.int .u8 6) (.string ⟨#[]⟩) (.slice none 0 0) (.slice (some ⟨wr.heap.size, 0, none⟩) 1 1)).alloc _
        have hEq : ∀ j, j ≠ w.heap.size → j < wr.heap.size → (((((wr.setCell ⟨w.heap.size, 0, none⟩ (.int .u8 6)).setCell ⟨w.heap.size, 1, none⟩ (.string ⟨#[]⟩)).setCell ⟨w.heap.size, 2, none⟩ (.slice none 0 0)).setCell ⟨w.heap.size, 3, none⟩ (.slice (some ⟨wr.heap.size, 0, none⟩) 1 1)).alloc (.cells #[.int .u8 6, .string ⟨#[]⟩, .slice none 0 0, .slice la ll lc] 26)).heap[j]? = wr.heap[j]? := fun j hj hl => (Lib.alloc_old _ _ _ (by rw [hz4]; exact hl)).trans (set4_heap wr w.heap.size 0 1 2 3 (.int .u8 6) (.string ⟨#[]⟩) (.slice none 0 0) (.slice (some ⟨wr.heap.size, 0, none⟩) 1 1) j hj)
        have hBQ : Below w.heap.size w (((((wr.setCell ⟨w.heap.size, 0, none⟩ (.int .u8 6)).setCell ⟨w.heap.size, 1, none⟩ (.string ⟨#[]⟩)).setCell ⟨w.heap.size, 2, none⟩ (.slice none 0 0)).setCell ⟨w.heap.size, 3, none⟩ (.slice (some ⟨wr.heap.size, 0, none⟩) 1 1)).alloc (.cells #[.int .u8 6, .string ⟨#[]⟩, .slice none 0 0, .slice la ll lc] 26)) := ((((hB.setCell (p := ⟨w.heap.size, 0, none⟩) (Nat.le_refl _) (.int .u8 6)).setCell (p := ⟨w.heap.size, 1, none⟩) (Nat.le_refl _) (.string ⟨#[]⟩)).setCell (p := ⟨w.heap.size, 2, none⟩) (Nat.le_refl _) (.slice none 0 0)).setCell (p := ⟨w.heap.size, 3, none⟩) (Nat.le_refl _) (.slice (some ⟨wr.heap.size, 0, none⟩) 1 1)).alloc (by rw [hz4]; exact hB.size) _
        have HQ1 := Lib.hid hN
        have HQ2 := Lib.hid hRQ
        have HQ3 := Lib.hid hEq
        have HQ4 := Lib.hid hBQ
        clear hN hRQ hEq hBQ hz4
        go_wp2_with fail
        go_roundw
        case rel =>
          refine ⟨S ++ ⟨#[91]⟩, i + 1, some ⟨wr.heap.size, 0, none⟩, 1, 1, rfl, by go_num, by rw [ByteArray.size_append, HSi.out]; rfl, .inr (by omega), HQ2.out, ?_, HQ4.out⟩
          rw [show i + 1 - 1 = (i - 1) + 1 by omega]
          refine deepN_in (hV.stays (fun y c hl hy => ?_) (Nat.le_refl _)) (by omega) HQ1.out
          rw [World.cell?_of_block (HQ3.out y.block (by omega) (cell_lt hy))]
          exact hy
        case measure => simp [intOf]; omega
    · have hiE : (i = 0 ∧ ¬ (0 : Int) < 48 + o) ∨ (1 ≤ i ∧ (0 : Int) < 48 + o) := by omega
      have cP := fun w => parse_any S w (by unfold maxLen; omega)
      have cR := fun w => refParse_any S w (by omega)
      obtain ⟨d1, d2, d3⟩ := deepN_size (i - 1)
      have hDB := deepN_bnd (n := i - 1) (by omega)
      have cM := fun (w2 : World) h => may_any (deepN (i - 1)) (.int .u8 (6 : Nat)) (.string ⟨#[]⟩) (.slice none 0 0) (.slice la ll lc) w2 h (by omega) (by omega) (by omega)
      have cM' := fun (w2 : World) h => refMay_any (deepN (i - 1)) (.int .u8 (6 : Nat)) (.string ⟨#[]⟩) (.slice none 0 0) (.slice la ll lc) w2 h hDB (by omega) (by omega) (by omega)
      simp only [ref_pr] at cM'
      generalize readP S.data.toList = R at *
      generalize deepN (i - 1) = D at *
      generalize prE D = pe at *
      have hns : ¬ ((i : Nat) : Int) < 48 + o := hlt
      clear hDB d1 d2 d3 HSi hi hlt
      go_upto_region 11 with (go_at_call 11; refine (cP _).mono ?_; rintro e w1 hE; obtain ⟨hb1, k1, t1, ka1, kl1, kc1, la1, ll1, lc1, rfl, hV1⟩ := parse_shape hE; clear hE hV1)
      have hs1 := hb1.size
      have hc1 : Below wr.heap.size wr ((w1.alloc (.cells #[.int .u8 (k1 : Nat), .string t1, .slice ka1 kl1 kc1, .slice la1 ll1 lc1] 26)).alloc (.cells #[.int .i64 (faR R), .int .i64 (feR R)] 29)) := (hb1.alloc hs1 _).alloc (by rw [World.size_alloc]; omega) _
      have hBA : Below w.heap.size w ((w1.alloc (.cells #[.int .u8 (k1 : Nat), .string t1, .slice ka1 kl1 kc1, .slice la1 ll1 lc1] 26)).alloc (.cells #[.int .i64 (faR R), .int .i64 (feR R)] 29)) := hB.trans (hc1.mono hB.size)
      have hy1 : FB ((w1.alloc (.cells #[.int .u8 (k1 : Nat), .string t1, .slice ka1 kl1 kc1, .slice la1 ll1 lc1] 26)).alloc (.cells #[.int .i64 (faR R), .int .i64 (feR R)] 29)) (w1.heap.size + 1) (faR R) (feR R) := heap_alloc2_new _ _ _
      have hR1 := hR.below hc1
      have hV1 : IsV ((w1.alloc (.cells #[.int .u8 (k1 : Nat), .string t1, .slice ka1 kl1 kc1, .slice la1 ll1 lc1] 26)).alloc (.cells #[.int .i64 (faR R), .int .i64 (feR R)] 29)) 0 D (.int .u8 (6 : Nat)) (.string ⟨#[]⟩) (.slice none 0 0) (.slice la ll lc) := hV.stays (Below.stays hc1 _) (Nat.zero_le _)
      obtain ⟨b1, hb1E⟩ : ∃ b, b = w1.heap.size := ⟨_, rfl⟩
      rw [← hb1E] at hy1 ⊢
      clear hb1E hs1 hb1 hc1 hR hV x0 x1 x2 x3 z0 z1 z2 z3
      generalize ((w1.alloc (.cells #[.int .u8 (k1 : Nat), .string t1, .slice ka1 kl1 kc1, .slice la1 ll1 lc1] 26)).alloc (.cells #[.int .i64 (faR R), .int .i64 (feR R)] 29)) = W1 at *
      go_upto_region 12 with (go_at_call 12; refine (cR _).mono ?_; rintro e w2 hE; obtain ⟨hb2, k2, t2, ka2, kl2, kc2, la2, ll2, lc2, rfl, hV2⟩ := parse_shape hE; clear hE hV2)
      have hs2 := hb2.size
      have hc2 : Below W1.heap.size W1 ((w2.alloc (.cells #[.int .u8 (k2 : Nat), .string t2, .slice ka2 kl2 kc2, .slice la2 ll2 lc2] 26)).alloc (.cells #[.int .i64 (faR R), .int .i64 (feR R)] 29)) := (hb2.alloc hs2 _).alloc (by rw [World.size_alloc]; omega) _
      have hBB : Below w.heap.size w ((w2.alloc (.cells #[.int .u8 (k2 : Nat), .string t2, .slice ka2 kl2 kc2, .slice la2 ll2 lc2] 26)).alloc (.cells #[.int .i64 (faR R), .int .i64 (feR R)] 29)) := hBA.trans (hc2.mono hBA.size)
      have hy2 : FB ((w2.alloc (.cells #[.int .u8 (k2 : Nat), .string t2, .slice ka2 kl2 kc2, .slice la2 ll2 lc2] 26)).alloc (.cells #[.int .i64 (faR R), .int .i64 (feR R)] 29)) (w2.heap.size + 1) (faR R) (feR R) := heap_alloc2_new _ _ _
      have hy1' : FB ((w2.alloc (.cells #[.int .u8 (k2 : Nat), .string t2, .slice ka2 kl2 kc2, .slice la2 ll2 lc2] 26)).alloc (.cells #[.int .i64 (faR R), .int .i64 (feR R)] 29)) (b1 + 1) (faR R) (feR R) := (hc2.block _ (Array.getElem?_eq_some_iff.1 hy1).1).trans hy1
      have hR2 := hR1.below hc2
      have hV2 : IsV ((w2.alloc (.cells #[.int .u8 (k2 : Nat), .string t2, .slice ka2 kl2 kc2, .slice la2 ll2 lc2] 26)).alloc (.cells #[.int .i64 (faR R), .int .i64 (feR R)] 29)) 0 D (.int .u8 (6 : Nat)) (.string ⟨#[]⟩) (.slice none 0 0) (.slice la ll lc) := hV1.stays (Below.stays hc2 _) (Nat.zero_le _)
      obtain ⟨b2, hb2E⟩ : ∃ b, b = w2.heap.size := ⟨_, rfl⟩
      rw [← hb2E] at hy2 ⊢
      clear hb2E hs2 hb2 hc2 hR1 hV1 hy1 hBA
      generalize ((w2.alloc (.cells #[.int .u8 (k2 : Nat), .string t2, .slice ka2 kl2 kc2, .slice la2 ll2 lc2] 26)).alloc (.cells #[.int .i64 (faR R), .int .i64 (feR R)] 29)) = W2 at *
      generalize faR R = fa at *
      generalize feR R = fe at *
      have hbeq : (fa == fa) = true := beq_self_eq_true _
      have hbeq2 : (fe == fe) = true := beq_self_eq_true _
      have hbeq3 : (pe == pe) = true := beq_self_eq_true _
      clear cP cR
      go_cut [65] (fun s65 wx => s65 = .bool false ∧ Below w.heap.size w wx)
      case first =>
        obtain ⟨x0, x1, x2, x3⟩ := hR2.cells
        obtain ⟨f0, f1, y0, y1⟩ := hy1'.cells
        obtain ⟨g0, g1, q0, q1⟩ := hy2.cells
        rcases hiE with ⟨he, hn⟩ | ⟨he, hn⟩
        · have hd : decide ((0 : Int) < 48 + o) = false := decide_eq_false (by omega)
          go_quiet (fail)
          go_wp2_with fail
          go_meet
          exact ⟨rfl, hBB.os, hBB.tape, hBB.output, hBB.size, hBB.block⟩
        · have hd : decide ((0 : Int) < 48 + o) = true := decide_eq_true (by omega)
          have cA := fun (w2 : World) (hb : Below W2.heap.size W2 w2) => cM w2 (hV2.stays (Below.stays hb 0) (Nat.le_refl _))
          have cB := fun (w2 : World) (hb : Below W2.heap.size W2 w2) => cM' w2 (hV2.stays (Below.stays hb 0) (Nat.le_refl _))
          clear cM cM'
          go_region_with (first
            | (go_at_call 19; refine (cA _ (Below.refl _ _).drew).mono ?_; rintro e w5 ⟨rfl, hb5'⟩; have hb5 : Below W2.heap.size W2 w5 := (Below.refl _ W2).drew.trans hb5'; have hR5 := hR2.below hb5; obtain ⟨x0, x1, x2, x3⟩ := hR5.cells)
            | (go_at_call 20; refine (cB _ hb5).mono ?_; rintro e w6 ⟨rfl, hb6⟩))
          all_goals go_wp2_with fail
          all_goals go_meet
          all_goals
            have hB6 := hBB.trans ((hb5.trans (hb6.mono hb5.size)).mono hBB.size)
            exact ⟨rfl, hB6.os, hB6.tape, hB6.output, hB6.size, hB6.block⟩
      case rest =>
        clear hBB hy1' hR2 hV2 hy2 hbeq hbeq2 hbeq3 hiE hns cM cM' hB
        obtain ⟨rfl, hB⟩ := hcut
        have hx0 := RB.new wc (.int .u8 (6 : Nat)) (.string ⟨#[]⟩) (.slice none 0 0) (.slice none 0 0)
        obtain ⟨k, hk⟩ : ∃ k : Nat, 4096 + o = (k : Int) := ⟨(4096 + o).toNat, by omega⟩
        have hkr : k ≤ 4300 := by omega
        have hkl : 3900 ≤ k := by omega
        have hw4 : IntKind.i64.wrap (2 * (k : Int)) = 2 * (k : Int) := IntWalk.i64_in _ (by omega)
        have HK := Lib.hid hk
        go_upto_region 16 with fail
        clear hk
        have hbA : Below w.heap.size w (wc.alloc (.cells #[.int .u8 6, .string ⟨#[]⟩, .slice none 0 0, .slice none 0 0] 26)) := hB.alloc hB.size _
        have hzA : (wc.alloc (.cells #[.int .u8 6, .string ⟨#[]⟩, .slice none 0 0, .slice none 0 0] 26)).heap.size = wc.heap.size + 1 := World.size_alloc _ _
        obtain ⟨mb, hmb⟩ : ∃ mb, mb = wc.heap.size := ⟨_, rfl⟩
        have hlm : w.heap.size ≤ mb := by rw [hmb]; exact hB.size
        rw [← hmb] at hx0 hzA ⊢
        clear hmb hB
        have hx0 : RB (wc.alloc (.cells #[.int .u8 6, .string ⟨#[]⟩, .slice none 0 0, .slice none 0 0] 26)) mb (.int .u8 6) (.string ⟨#[]⟩) (.slice none 0 0) (.slice none 0 0) := hx0
        generalize wc.alloc (.cells #[.int .u8 6, .string ⟨#[]⟩, .slice none 0 0, .slice none 0 0] 26) = W at *
        obtain ⟨i8, hi8, hy0, hy1, hy2⟩ := info_parts elQ8.hi
        obtain ⟨i0, hi0, hz0, hz1, hz2⟩ := info_parts infoValue
        go_wp2_with (first | (refine wpList_make_own _ rfl (.const (.int .i64 0)) (.tmp 71) 52 rfl (mb + 1) 5 i8 (.int .u8 0) 1 elQ8.ht hi8 hy0 hy1 .i64 .i64 _ (2 * k) rfl rfl (by omega) (by rw [hy2]; omega) (by unfold maxLen; omega) (by omega) ?_; intro w1 hO hg; rw [hzA] at hO; have hb1 : Below W.heap.size W w1 := ((Below.refl W.heap.size W).grown hg (Nat.le_refl _) (fun k hk => by cases hk)); clear hg))
        have hS0 : FarS w mb w1 0 (.slice none 0 0) [] (.slice (some ⟨mb + 1, 0, none⟩) 0 (2 * k)) := ⟨hx0.below hb1, World.ownsRow_nil _ _ _ _, hO, (fun g hg => by simp [Value.ownBlock] at hg), hbA.trans (hb1.mono hbA.size), hlm⟩
        clear hO hb1 hbA hzA hx0
        go_loopw [13, 14] (fun vb vi wr => ∃ (i : Nat) (lv : Value) (xs : List Int), vi = .int .i64 (i : Nat) ∧ i ≤ k ∧ xs.length = 2 * i ∧ FarS w mb wr i lv xs vb) (fun _ vi _ => k - (intOf vi).toNat)
        case atStart => exact ⟨0, _, [], rfl, Nat.zero_le _, rfl, hS0⟩
        case round =>
          obtain ⟨i, lv, xs, rfl, hi, hxs, hF⟩ := hrel
          have HXS := Lib.hid hxs
          clear hxs hS0
          have hwl := hF.bel.size
          have hlt0 := hF.res.lt
          by_cases hlt : i < k
          · have hltI : (i : Int) < (k : Int) := by omega
            obtain ⟨x0, x1, x2, x3⟩ := hF.res.cells
            have hN := heap_alloc_new wr (.cells #[.int .u8 1, .string ⟨#[]⟩, .slice none 0 0, .slice none 0 0] 26)
            have hrow : Below wr.heap.size wr (wr.alloc (.cells #[.int .u8 1, .string ⟨#[]⟩, .slice none 0 0, .slice none 0 0] 26)) := (Below.refl _ _).alloc (Nat.le_refl _) _
            have hown3 := (hF.go hrow).own
            have hrs : (wr.alloc (.cells #[.int .u8 1, .string ⟨#[]⟩, .slice none 0 0, .slice none 0 0] 26)).heap.size = wr.heap.size + 1 := World.size_alloc _ _
            have hone : ∀ u ∈ [Value.int .u8 (1 : Nat), .string ⟨#[]⟩, .slice none 0 0, .slice none 0 0], u.oneCell' = true := by intro u hu; simp only [List.mem_cons, List.not_mem_nil, or_false] at hu; rcases hu with rfl | rfl | rfl | rfl <;> rfl
            have hlo := hF.own.lt
            go_upto_region 21 with (at_builtin; refine wpList_append_lies _ rfl _ _ _ rfl (mb + 1) 26 i0 _ 4 72 Tryz.underlying24 hi0 hz0 hz1 hz2 rfl (by omega) lv i (nullC i) (by rfl) hown3 ⟨wr.heap.size, 0, none⟩ 1 1 [.int .u8 (1 : Nat), .string ⟨#[]⟩, .slice none 0 0, .slice none 0 0] (by rfl) (by rfl) (World.news_of_block hN) hone (by omega) (by unfold maxLen; omega) (by omega) (by omega) _ rfl ?_; intro g cap2 w4 hown4 hgrow hat hglt; have hR4 : RB w4 mb (.int .u8 6) (.string ⟨#[]⟩) (.slice none 0 0) lv := ((hgrow.block _ (by omega) (fun e => by have := (hlo _ e.symm).1; omega)).trans (hrow.block _ (by omega))).trans hF.res; obtain ⟨_, _, _, v3⟩ := hR4.cells; obtain ⟨_, _, _, f3⟩ := hR4.frozen)
            have hF2 := hF.item hrow hgrow hat hown4
            have hxl : xs.length ≤ 9000 := by have := HXS.out; omega
            clear hF hrow hgrow hat hown4 hown3 hrs hlo hN hwl hlt0 hone x0 x1 x2 x3 hR4 v3 f3 hglt
            generalize w4.setCell ⟨mb, 3, none⟩ (.slice (some ⟨g, 0, none⟩) (i + 1) cap2) = W4 at *
            generalize Value.slice (some ⟨g, 0, none⟩) (i + 1) cap2 = lv2 at *
            have hN := heap_alloc_new W4 (.cells #[.int .u8 48, .int .u8 44] 5)
            have hrow : Below W4.heap.size W4 (W4.alloc (.cells #[.int .u8 48, .int .u8 44] 5)) := (Below.refl _ _).alloc (Nat.le_refl _) _
            have hown3 : (W4.alloc (.cells #[.int .u8 48, .int .u8 44] 5)).ownsRow (mb + 1) 5 1 _ xs.length (xs.map (Value.int .u8)) := (hF2.go hrow).byt
            have hrs : (W4.alloc (.cells #[.int .u8 48, .int .u8 44] 5)).heap.size = W4.heap.size + 1 := World.size_alloc _ _
            have hone : ∀ u ∈ [Value.int .u8 48, .int .u8 44], u.oneCell' = true := by intro u hu; simp only [List.mem_cons, List.not_mem_nil, or_false] at hu; rcases hu with rfl | rfl <;> rfl
            have hlt4 := hF2.res.lt
            go_wp2_with (at_builtin; refine wpList_append_lies _ rfl _ _ _ rfl (mb + 1) 5 i8 _ 1 1 Tryz.underlying52 hi8 hy0 hy1 hy2 rfl (by omega) _ xs.length (xs.map (Value.int .u8)) (by rfl) hown3 ⟨W4.heap.size, 0, none⟩ 2 2 [.int .u8 48, .int .u8 44] (by rfl) (by rfl) (World.news_of_block hN) hone (by omega) (by unfold maxLen; omega) (by omega) (by omega) _ rfl ?_; intro g2 cap3 w5 hown5 hgrow2 hat2 hglt2)
            have hO5 : OQ 5 .u8 w5 (mb + 1) (.slice (some ⟨g2, 0, none⟩) (xs.length + 2) cap3) (xs ++ [48, 44]) := by
              unfold OQ
              rw [List.length_append, List.map_append]
              exact hown5
            have hF3 := hF2.byte (ys := [48, 44]) hrow hgrow2 hat2 hO5
            go_roundw
            case rel => exact ⟨i + 1, lv2, xs ++ [48, 44], by go_num, hlt, by rw [List.length_append, HXS.out]; rfl, hF3⟩
            case measure => simp [intOf]; omega
          · have hik : i = k := by omega
            subst hik
            have hxl : xs.length ≤ 9000 := by have := HXS.out; omega
            have hTz : (strOfNums xs).size = xs.length := by
              unfold strOfNums
              rw [Lib.size_eq]
              simp
            have hcv := conv_ownQ hF.byt
            have hcv2 := fun (w2 : World) (hb : Below wr.heap.size wr w2) => conv_ownQ (hF.go hb).byt
            generalize strOfNums xs = T at *
            have hTs : (⟨#[91]⟩ ++ T : ByteArray).size ≤ 9001 := by
              rw [ByteArray.size_append]
              have : (⟨#[91]⟩ : ByteArray).size = 1 := rfl
              omega
            have cP := fun w => parse_any (⟨#[91]⟩ ++ T) w (by unfold maxLen; omega)
            have cR := fun w => refParse_any (⟨#[91]⟩ ++ T) w (by omega)
            have hVm : IsV wr 0 (manyN i) (.int .u8 6) (.string ⟨#[]⟩) (.slice none 0 0) lv := (manyN_is hF.own).stays (Stays.refl _ _) (Nat.zero_le _)
            obtain ⟨d1, d2, d3⟩ := manyN_size i
            have hDB := manyN_bnd (n := i) (by omega)
            obtain ⟨la, ll, lc, rfl⟩ : ∃ la ll lc, lv = .slice la ll lc := by
              obtain ⟨_, _, _, _, _, la, ll, lc, _, _, _, e⟩ := hVm.shape
              exact ⟨la, ll, lc, e⟩
            have cM := fun (w2 : World) h => may_any (manyN i) (.int .u8 6) (.string ⟨#[]⟩) (.slice none 0 0) (.slice la ll lc) w2 h (by omega) (by omega) (by omega)
            have cM' := fun (w2 : World) h => refMay_any (manyN i) (.int .u8 6) (.string ⟨#[]⟩) (.slice none 0 0) (.slice la ll lc) w2 h hDB (by omega) (by omega) (by omega)
            simp only [ref_pr] at cM'
            generalize readP (⟨#[91]⟩ ++ T : ByteArray).data.toList = R at *
            generalize manyN i = D at *
            generalize prE D = pe at *
            have hB := hF.bel
            have hR := hF.res
            have hns : ¬ ((i : Nat) : Int) < (i : Nat) := by omega
            have hT1 : T.size ≤ 9000 := by omega
            clear hDB d1 d2 d3 HXS hxl hTz hF hi hlt hlt0 hwl
            go_upto_region 23 with (go_at_call 11; refine (cP _).mono ?_; rintro e w1 hE; obtain ⟨hb1, k1, t1, ka1, kl1, kc1, la1, ll1, lc1, rfl, hV1⟩ := parse_shape hE; clear hE hV1)
            have hs1 := hb1.size
            have hc1 : Below wr.heap.size wr ((w1.alloc (.cells #[.int .u8 (k1 : Nat), .string t1, .slice ka1 kl1 kc1, .slice la1 ll1 lc1] 26)).alloc (.cells #[.int .i64 (faR R), .int .i64 (feR R)] 29)) := (hb1.alloc hs1 _).alloc (by rw [World.size_alloc]; omega) _
            have hBA : Below w.heap.size w ((w1.alloc (.cells #[.int .u8 (k1 : Nat), .string t1, .slice ka1 kl1 kc1, .slice la1 ll1 lc1] 26)).alloc (.cells #[.int .i64 (faR R), .int .i64 (feR R)] 29)) := hB.trans (hc1.mono hB.size)
            have hy1 : FB ((w1.alloc (.cells #[.int .u8 (k1 : Nat), .string t1, .slice ka1 kl1 kc1, .slice la1 ll1 lc1] 26)).alloc (.cells #[.int .i64 (faR R), .int .i64 (feR R)] 29)) (w1.heap.size + 1) (faR R) (feR R) := heap_alloc2_new _ _ _
            have hR1 := hR.below hc1
            have hV1 : IsV ((w1.alloc (.cells #[.int .u8 (k1 : Nat), .string t1, .slice ka1 kl1 kc1, .slice la1 ll1 lc1] 26)).alloc (.cells #[.int .i64 (faR R), .int .i64 (feR R)] 29)) 0 D (.int .u8 6) (.string ⟨#[]⟩) (.slice none 0 0) (.slice la ll lc) := hVm.stays (Below.stays hc1 _) (Nat.zero_le _)
            have hcv1 := hcv2 _ hc1
            obtain ⟨b3, hb3E⟩ : ∃ b, b = w1.heap.size := ⟨_, rfl⟩
            rw [← hb3E] at hy1 ⊢
            clear hb3E hs1 hb1 hc1 hR hVm hcv hcv2
            generalize ((w1.alloc (.cells #[.int .u8 (k1 : Nat), .string t1, .slice ka1 kl1 kc1, .slice la1 ll1 lc1] 26)).alloc (.cells #[.int .i64 (faR R), .int .i64 (feR R)] 29)) = W1 at *
            go_upto_region 24 with (go_at_call 12; refine (cR _).mono ?_; rintro e w2 hE; obtain ⟨hb2, k2, t2, ka2, kl2, kc2, la2, ll2, lc2, rfl, hV2⟩ := parse_shape hE; clear hE hV2)
            have hs2 := hb2.size
            have hc2 : Below W1.heap.size W1 ((w2.alloc (.cells #[.int .u8 (k2 : Nat), .string t2, .slice ka2 kl2 kc2, .slice la2 ll2 lc2] 26)).alloc (.cells #[.int .i64 (faR R), .int .i64 (feR R)] 29)) := (hb2.alloc hs2 _).alloc (by rw [World.size_alloc]; omega) _
            have hBB : Below w.heap.size w ((w2.alloc (.cells #[.int .u8 (k2 : Nat), .string t2, .slice ka2 kl2 kc2, .slice la2 ll2 lc2] 26)).alloc (.cells #[.int .i64 (faR R), .int .i64 (feR R)] 29)) := hBA.trans (hc2.mono hBA.size)
            have hy2 : FB ((w2.alloc (.cells #[.int .u8 (k2 : Nat), .string t2, .slice ka2 kl2 kc2, .slice la2 ll2 lc2] 26)).alloc (.cells #[.int .i64 (faR R), .int .i64 (feR R)] 29)) (w2.heap.size + 1) (faR R) (feR R) := heap_alloc2_new _ _ _
            have hy1' : FB ((w2.alloc (.cells #[.int .u8 (k2 : Nat), .string t2, .slice ka2 kl2 kc2, .slice la2 ll2 lc2] 26)).alloc (.cells #[.int .i64 (faR R), .int .i64 (feR R)] 29)) (b3 + 1) (faR R) (feR R) := (hc2.block _ (Array.getElem?_eq_some_iff.1 hy1).1).trans hy1
            have hR2 := hR1.below hc2
            have hV2 : IsV ((w2.alloc (.cells #[.int .u8 (k2 : Nat), .string t2, .slice ka2 kl2 kc2, .slice la2 ll2 lc2] 26)).alloc (.cells #[.int .i64 (faR R), .int .i64 (feR R)] 29)) 0 D (.int .u8 6) (.string ⟨#[]⟩) (.slice none 0 0) (.slice la ll lc) := hV1.stays (Below.stays hc2 _) (Nat.zero_le _)
            obtain ⟨b4, hb4E⟩ : ∃ b, b = w2.heap.size := ⟨_, rfl⟩
            rw [← hb4E] at hy2 ⊢
            clear hb4E hs2 hb2 hc2 hR1 hV1 hy1 hBA hcv1
            generalize ((w2.alloc (.cells #[.int .u8 (k2 : Nat), .string t2, .slice ka2 kl2 kc2, .slice la2 ll2 lc2] 26)).alloc (.cells #[.int .i64 (faR R), .int .i64 (feR R)] 29)) = W2 at *
            generalize faR R = fa at *
            generalize feR R = fe at *
            have hbeq : (fa == fa) = true := beq_self_eq_true _
            have hbeq2 : (fe == fe) = true := beq_self_eq_true _
            have hbeq3 : (pe == pe) = true := beq_self_eq_true _
            clear cP cR
            go_cut [110] (fun s110 wx => s110 = .bool false ∧ Below w.heap.size w wx)
            case first =>
              obtain ⟨x0, x1, x2, x3⟩ := hR2.cells
              obtain ⟨f0, f1, y0, y1⟩ := hy1'.cells
              obtain ⟨g0, g1, q0, q1⟩ := hy2.cells
              have cA := fun (w2 : World) (hb : Below W2.heap.size W2 w2) => cM w2 (hV2.stays (Below.stays hb 0) (Nat.le_refl _))
              have cB := fun (w2 : World) (hb : Below W2.heap.size W2 w2) => cM' w2 (hV2.stays (Below.stays hb 0) (Nat.le_refl _))
              clear cM cM'
              go_region_with (first
                | (go_at_call 19; refine (cA _ (Below.refl _ _).drew).mono ?_; rintro e w5 ⟨rfl, hb5'⟩; have hb5 : Below W2.heap.size W2 w5 := (Below.refl _ W2).drew.trans hb5'; have hR5 := hR2.below hb5; obtain ⟨x0, x1, x2, x3⟩ := hR5.cells)
                | (go_at_call 20; refine (cB _ hb5).mono ?_; rintro e w6 ⟨rfl, hb6⟩))
              all_goals go_wp2_with fail
              all_goals go_meet
              all_goals
                have hB6 := hBB.trans ((hb5.trans (hb6.mono hb5.size)).mono hBB.size)
                exact ⟨rfl, hB6.os, hB6.tape, hB6.output, hB6.size, hB6.block⟩
            case rest =>
              obtain ⟨rfl, hBc⟩ := hcut
              obtain ⟨N, hN⟩ : ∃ N : Nat, 65534 + o = (N : Int) := ⟨(65534 + o).toNat, by omega⟩
              have hNr : N ≤ 65700 := by omega
              have hw5 : IntKind.i64.wrap (65536 + o - 2) = (N : Int) := by rw [show 65536 + o - 2 = (N : Int) by omega]; exact IntWalk.i64_in _ (by omega)
              have HN := Lib.hid hN
              clear hN hbeq hbeq2 hbeq3 hBB hy1' hR2 hV2 hy2 hB cM cM' hTs hT1 hkr hkl hw4 hw2
              have hwB := hBc.size
              go_upto_region 27 with (first | (refine wpList_make_full _ rfl (.tmp 114) (.tmp 114) 52 rfl w.heap.size 5 i8 (.int .u8 0) 1 elQ8.ht hi8 hy0 hy1 .i64 .i64 _ _ N rfl rfl rfl rfl (by rw [hy2]; omega) (by unfold maxLen; omega) (by omega) ?_; intro w1 hO hg; have hb1 : Below wc.heap.size wc w1 := ((Below.refl wc.heap.size wc).grown hg (Nat.le_refl _) (fun k hk => by cases hk)); clear hg))
              have hO1 := made_ownQ hO
              have hBd := hBc.trans (hb1.mono hwB)
              clear hO hb1 hBc
              obtain ⟨g, hg⟩ : ∃ g, g = wc.heap.size := ⟨_, rfl⟩
              rw [← hg] at hO1 hwB ⊢
              clear hg
              go_wp2_with fail
              go_loopw [20] (fun vi wr => ∃ j : Nat, vi = .int .i64 (j : Nat) ∧ j ≤ N ∧ OQ 5 .u8 wr w.heap.size (.slice (some ⟨g, 0, none⟩) N N) (xP j N) ∧ Below w.heap.size w wr) (fun vi _ => N - (intOf vi).toNat)
              case atStart => exact ⟨0, rfl, Nat.zero_le _, hO1, hBd⟩
              case round =>
                obtain ⟨j, rfl, hj, hO, hBr⟩ := hrel
                clear hO1 hBd
                by_cases hlt : j < N
                · have hltI : (j : Int) < (N : Int) := by omega
                  obtain ⟨⟨x, hx⟩, hfz, hO2⟩ := xP_put hlt hO
                  have hb2 := hBr.setCell (p := ⟨g, j, none⟩) hwB (.int .u8 120)
                  go_wp2_with fail
                  go_roundw
                  case rel => exact ⟨j + 1, by go_num, hlt, hO2, hb2⟩
                  case measure => simp [intOf]; omega
                · have hjn : j = N := by omega
                  subst hjn
                  have hcv0 := fun (w2 : World) (hb : Below wr.heap.size wr w2) => conv_x (hO.keep hb)
                  have hLz : (xT j).size ≤ 65700 := by rw [xT_size]; exact hNr
                  have hge : ¬ ((j : Nat) : Int) < (j : Nat) := by omega
                  clear hO hj hlt
                  by_cases ho0 : 0 < o
                  · have hd : decide (o > 0) = true := decide_eq_true (by omega)
                    have hd2 : (0 : Int) < o := by omega
                    have cP := fun w2 => parse_xL (n := j) (by have := HN.out; omega) (by omega) w2
                    have cQ := fun w2 => quoteTop_any (xT j) w2 (by rw [xT_size]; unfold maxLen; omega)
                    obtain ⟨hq1, hq2⟩ := xQ_quotL (n := j) (by have := HN.out; omega)
                    rw [hq1, hq2] at cQ
                    clear hq1 hq2
                    unfold xQ at cP
                    generalize xT j = L at *
                    have e1 : (L.toList == L.toList) = true := by simp
                    have e2 : ((⟨#[34]⟩ ++ L ++ ⟨#[34]⟩ : ByteArray).toList == (⟨#[34]⟩ ++ L ++ ⟨#[34]⟩ : ByteArray).toList) = true := by simp
                    have hcv := hcv0 wr (Below.refl _ _)
                    go_upto_region 33 with (go_at_call 11; refine (cP _).mono ?_; rintro e w5 ⟨rfl, hb5⟩)
                    have hs5 := hb5.size
                    have hc5 : Below wr.heap.size wr ((w5.alloc (.cells #[.int .u8 0, .string ⟨#[]⟩, .slice none 0 0, .slice none 0 0] 26)).alloc (.cells #[.int .i64 0, .int .i64 4] 29)) := (hb5.alloc hs5 _).alloc (by rw [World.size_alloc]; omega) _
                    have hy5 : FB ((w5.alloc (.cells #[.int .u8 0, .string ⟨#[]⟩, .slice none 0 0, .slice none 0 0] 26)).alloc (.cells #[.int .i64 0, .int .i64 4] 29)) (w5.heap.size + 1) 0 4 := heap_alloc2_new _ _ _
                    have hx5 : RB ((w5.alloc (.cells #[.int .u8 0, .string ⟨#[]⟩, .slice none 0 0, .slice none 0 0] 26)).alloc (.cells #[.int .i64 0, .int .i64 4] 29)) w5.heap.size (.int .u8 0) (.string ⟨#[]⟩) (.slice none 0 0) (.slice none 0 0) := (RB.new w5 _ _ _ _).alloc _
                    obtain ⟨b5, hb5E⟩ : ∃ b, b = w5.heap.size := ⟨_, rfl⟩
                    rw [← hb5E] at hy5 hx5 ⊢
                    clear hb5E hs5 hb5 hcv
                    generalize ((w5.alloc (.cells #[.int .u8 0, .string ⟨#[]⟩, .slice none 0 0, .slice none 0 0] 26)).alloc (.cells #[.int .i64 0, .int .i64 4] 29)) = W5 at *
                    have hcv := hcv0 W5 hc5
                    have hB5 := hBr.trans (hc5.mono hBr.size)
                    go_upto_region 34 with (go_at_call 17; refine (cQ _).mono ?_; rintro e w6 ⟨rfl, hb6⟩)
                    have hy6 : FB w6 (b5 + 1) 0 4 := (hb6.block _ (Array.getElem?_eq_some_iff.1 hy5).1).trans hy5
                    have hx6 := hx5.below hb6
                    have hcv6 := hcv0 w6 (hc5.trans (hb6.mono hc5.size))
                    have hB6 := hB5.trans (hb6.mono hB5.size)
                    obtain ⟨f0, f1, y0, y1⟩ := hy6.cells
                    obtain ⟨x0, x1, x2, x3⟩ := hx6.cells
                    have cA := alive_any w6 (hvars.below hB6)
                    clear hcv hcv0 cP cQ hy5 hx5 hc5 hB5 hBr
                    go_wp2_with (go_at_call 10; refine cA.mono ?_; rintro e w7 ⟨rfl, hb7⟩)
                    go_ret
                    exact ⟨rfl, hB6.trans (hb7.mono hB6.size)⟩
                  · have hd : decide (o > 0) = false := decide_eq_false (by omega)
                    have hd2 : ¬ (0 : Int) < o := by omega
                    have cP := fun w2 => parse_xQ (n := j) (by have := HN.out; omega) w2
                    have cQ := fun w2 => quoteTop_any (xT j) w2 (by rw [xT_size]; unfold maxLen; omega)
                    obtain ⟨hq1, hq2⟩ := xQ_quot (n := j) (by have := HN.out; omega)
                    rw [hq1, hq2] at cQ
                    clear hq1 hq2
                    unfold xQ at cP cQ
                    generalize xT j = L at *
                    have e1 : (L.toList == L.toList) = true := by simp
                    have e2 : ((⟨#[34]⟩ ++ L ++ ⟨#[34]⟩ : ByteArray).toList == (⟨#[34]⟩ ++ L ++ ⟨#[34]⟩ : ByteArray).toList) = true := by simp
                    have hcv := hcv0 wr (Below.refl _ _)
                    go_upto_region 33 with (go_at_call 11; refine (cP _).mono ?_; rintro e w5 ⟨ka, kl, kc, la2, ll2, lc2, rfl, hb5⟩)
                    have hs5 := hb5.size
                    have hc5 : Below wr.heap.size wr ((w5.alloc (.cells #[.int .u8 5, .string L, .slice ka kl kc, .slice la2 ll2 lc2] 26)).alloc (.cells #[.int .i64 0, .int .i64 0] 29)) := (hb5.alloc hs5 _).alloc (by rw [World.size_alloc]; omega) _
                    have hy5 : FB ((w5.alloc (.cells #[.int .u8 5, .string L, .slice ka kl kc, .slice la2 ll2 lc2] 26)).alloc (.cells #[.int .i64 0, .int .i64 0] 29)) (w5.heap.size + 1) 0 0 := heap_alloc2_new _ _ _
                    have hx5 : RB ((w5.alloc (.cells #[.int .u8 5, .string L, .slice ka kl kc, .slice la2 ll2 lc2] 26)).alloc (.cells #[.int .i64 0, .int .i64 0] 29)) w5.heap.size (.int .u8 5) (.string L) (.slice ka kl kc) (.slice la2 ll2 lc2) := (RB.new w5 _ _ _ _).alloc _
                    obtain ⟨b5, hb5E⟩ : ∃ b, b = w5.heap.size := ⟨_, rfl⟩
                    rw [← hb5E] at hy5 hx5 ⊢
                    clear hb5E hs5 hb5 hcv
                    generalize ((w5.alloc (.cells #[.int .u8 5, .string L, .slice ka kl kc, .slice la2 ll2 lc2] 26)).alloc (.cells #[.int .i64 0, .int .i64 0] 29)) = W5 at *
                    have hcv := hcv0 W5 hc5
                    have hB5 := hBr.trans (hc5.mono hBr.size)
                    go_upto_region 34 with (go_at_call 17; refine (cQ _).mono ?_; rintro e w6 ⟨rfl, hb6⟩)
                    have hy6 : FB w6 (b5 + 1) 0 0 := (hb6.block _ (Array.getElem?_eq_some_iff.1 hy5).1).trans hy5
                    have hx6 := hx5.below hb6
                    have hcv6 := hcv0 w6 (hc5.trans (hb6.mono hc5.size))
                    have hB6 := hB5.trans (hb6.mono hB5.size)
                    obtain ⟨f0, f1, y0, y1⟩ := hy6.cells
                    obtain ⟨x0, x1, x2, x3⟩ := hx6.cells
                    have cA := alive_any w6 (hvars.below hB6)
                    clear hcv hcv0 cP cQ hy5 hx5 hc5 hB5 hBr
                    go_wp2_with (go_at_call 10; refine cA.mono ?_; rintro e w7 ⟨rfl, hb7⟩)
                    go_ret
                    exact ⟨rfl, hB6.trans (hb7.mono hB6.size)⟩
end Go.Proofs.YtakdhfjlhkejdaaGreatDoor
