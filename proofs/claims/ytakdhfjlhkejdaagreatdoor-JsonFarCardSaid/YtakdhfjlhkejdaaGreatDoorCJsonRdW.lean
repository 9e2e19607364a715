/-
  codicillaw02.JsonReads: its walk.
-/
import Derived.Test.YtakdhfjlhkejdaaGreatDoorCJsonRd9
import Derived.Test.YtakdhfjlhkejdaaGreatDoorN7
import Derived.Test.YtakdhfjlhkejdaaGreatDoorCJsonRSame
set_option linter.unusedSimpArgs false
set_option linter.unusedVariables false
set_option linter.unusedVariables false
set_option linter.unusedSimpArgs false
namespace Go.Proofs.YtakdhfjlhkejdaaGreatDoor
open Go.RowKit
mutual
theorem sameR_refl : ∀ v : JV, sameV v v = true
  | .mk k t ks l => by
    rw [sameV_mk, sameRL_refl l]
    simp [alikeB]
theorem sameRL_refl : ∀ l : List JV, sameL l l = true
  | [] => by simp [sameL]
  | v :: t => by simp [sameL, sameR_refl v, sameRL_refl t]
end
mutual
theorem bnd_of : ∀ v : JV, sizeV v ≤ maxLen → keysV v ≤ maxLen → lettV v ≤ maxLen → bndV v
  | .mk k t ks l => fun h1 h2 h3 => by
    simp only [sizeV, keysV, lettV] at h1 h2 h3
    simp only [bndV]
    have := len_sizeL l
    exact ⟨by omega, fun k hk => by have := sumK_mem hk; omega, by omega, by omega, bnd_ofL l (by omega) (by omega) (by omega)⟩
theorem bnd_ofL : ∀ l : List JV, sizeL l ≤ maxLen → keysL l ≤ maxLen → lettL l ≤ maxLen → bndL l
  | [] => fun _ _ _ => by simp [bndL]
  | v :: t => fun h1 h2 h3 => by
    simp only [sizeL, keysL, lettL] at h1 h2 h3
    simp only [bndL]
    exact ⟨bnd_of v (by omega) (by omega) (by omega), bnd_ofL t (by omega) (by omega) (by omega)⟩
end
def vR : Except Fail JV → JV
  | .ok v => v
  | .error _ => .mk 0 noText [] []
def faR : Except Fail JV → Int
  | .ok _ => 0
  | .error (i, _) => (i : Nat)
def feR : Except Fail JV → Int
  | .ok _ => 0
  | .error (_, k) => (k : Nat)
theorem parse_shape {w w' : World} {R : Except Fail JV} {e : Ending} (h : ParseEnd w R e w') : Below w.heap.size w w' ∧ ∃ k t ka kl kc la ll lc, e = .returned (.tuple #[.agg #[.int .u8 (k : Nat), .string t, .slice ka kl kc, .slice la ll lc], .agg #[.int .i64 (faR R), .int .i64 (feR R)]]) ∧ IsV w' w.heap.size (vR R) (.int .u8 (k : Nat)) (.string t) (.slice ka kl kc) (.slice la ll lc) := by
  unfold ParseEnd at h
  rcases R with ⟨i, k⟩ | x
  · obtain ⟨hb, rfl⟩ := h
    exact ⟨hb, 0, ⟨#[]⟩, none, 0, 0, none, 0, 0, rfl, leafV _ 0 ⟨#[]⟩⟩
  · obtain ⟨hb, c0, c1, c2, c3, rfl, hv⟩ := h
    obtain ⟨k0, t0, ka, kl, kc, la, ll, lc, rfl, rfl, rfl, rfl⟩ := hv.shape
    exact ⟨hb, _, _, _, _, _, _, _, _, rfl, hv⟩
theorem vR_bnd {s : List UInt8} (h : s.length ≤ 1000000) : bndV (vR (readP s)) := by
  cases hr : readP s with
  | error e =>
    have h1 : sizeV (.mk 0 noText [] []) ≤ maxLen ∧ keysV (.mk 0 noText [] []) ≤ maxLen ∧ lettV (.mk 0 noText [] []) ≤ maxLen := by decide +kernel
    exact bnd_of (.mk 0 noText [] []) h1.1 h1.2.1 h1.2.2
  | ok v =>
    have h1 := read_size hr
    have h2 := read_lett hr
    have h3 := keysV_le v h1.1
    exact bnd_of v (by unfold maxLen; omega) (by unfold maxLen; omega) (by unfold maxLen; omega)
set_option maxRecDepth 10000000 in
set_option maxHeartbeats 8000000 in
theorem reads_heavy (s : ByteArray) (w : World) (hvars : Vars w) (hh : 4096 < s.size) :
    Calls Tryz.prog 3 #[.string s] w fun e w' => e = .returned (.bool true) ∧ Below w.heap.size w w' := by
  have cA := alive_any w hvars
  have hk : (4096 : Int) < (s.size : Int) := by omega
  clear hvars
  go_enter Tryz.func3, Tryz.ntmps3
  go_wp2_with (go_at_call 10; refine cA.mono ?_; rintro e w2 ⟨rfl, hb3⟩)
  go_ret
  exact ⟨rfl, hb3⟩
set_option maxRecDepth 10000000 in
set_option maxHeartbeats 8000000 in
theorem reads_light (s : ByteArray) (w : World) (hvars : Vars w) (hh : s.size ≤ 4096) :
    Calls Tryz.prog 3 #[.string s] w fun e w' => e = .returned (.bool true) ∧ Below w.heap.size w w' := by
  have cA := fun (w2 : World) (hb : Below w.heap.size w w2) => alive_any w2 (hvars.below hb)
  have hk : ¬ (4096 : Int) < (s.size : Int) := by omega
  have cP := fun w => parse_any s w (by unfold maxLen; omega)
  have cR := fun w => refParse_any s w (by omega)
  have hB := vR_bnd (s := s.data.toList) (by rw [← Lib.size_eq]; omega)
  have cS := fun (c0 c1 c2 c3 d0 d1 d2 d3 : Value) (w2 : World) (h1 : IsV w2 0 (vR (readP s.data.toList)) c0 c1 c2 c3) (h2 : IsV w2 0 (vR (readP s.data.toList)) d0 d1 d2 d3) => refSame_any (sizeV (vR (readP s.data.toList))) _ (Nat.le_refl _) _ c0 c1 c2 c3 d0 d1 d2 d3 w2 h1 h2 hB hB
  simp only [sameR_refl] at cS
  generalize readP s.data.toList = R at *
  clear hvars hB hh
  go_enter Tryz.func3, Tryz.ntmps3
  go_upto_region 4 with (go_at_call 11; refine (cP _).mono ?_; rintro e w1 hE; obtain ⟨hb1, k1, t1, ka1, kl1, kc1, la1, ll1, lc1, rfl, hV1⟩ := parse_shape hE; clear hE)
  have hs1 := hb1.size
  have hbA : Below w.heap.size w ((w1.alloc (.cells #[.int .u8 (k1 : Nat), .string t1, .slice ka1 kl1 kc1, .slice la1 ll1 lc1] 26)).alloc (.cells #[.int .i64 (faR R), .int .i64 (feR R)] 29)) := (hb1.alloc hs1 _).alloc (by rw [World.size_alloc]; omega) _
  have hx1 : RB ((w1.alloc (.cells #[.int .u8 (k1 : Nat), .string t1, .slice ka1 kl1 kc1, .slice la1 ll1 lc1] 26)).alloc (.cells #[.int .i64 (faR R), .int .i64 (feR R)] 29)) w1.heap.size (.int .u8 (k1 : Nat)) (.string t1) (.slice ka1 kl1 kc1) (.slice la1 ll1 lc1) := (RB.new w1 _ _ _ _).alloc _
  have hy1 : FB ((w1.alloc (.cells #[.int .u8 (k1 : Nat), .string t1, .slice ka1 kl1 kc1, .slice la1 ll1 lc1] 26)).alloc (.cells #[.int .i64 (faR R), .int .i64 (feR R)] 29)) (w1.heap.size + 1) (faR R) (feR R) := heap_alloc2_new _ _ _
  have hV1' : IsV ((w1.alloc (.cells #[.int .u8 (k1 : Nat), .string t1, .slice ka1 kl1 kc1, .slice la1 ll1 lc1] 26)).alloc (.cells #[.int .i64 (faR R), .int .i64 (feR R)] 29)) w.heap.size (vR R) (.int .u8 (k1 : Nat)) (.string t1) (.slice ka1 kl1 kc1) (.slice la1 ll1 lc1) := IsV.stays (Below.stays (((Below.refl w1.heap.size w1).alloc (Nat.le_refl _) (.cells #[.int .u8 (k1 : Nat), .string t1, .slice ka1 kl1 kc1, .slice la1 ll1 lc1] 26)).alloc (by simp) (.cells #[.int .i64 (faR R), .int .i64 (feR R)] 29)) _) (Nat.le_refl _) _ _ _ _ _ hV1
  obtain ⟨b1, hb1E⟩ : ∃ b, b = w1.heap.size := ⟨_, rfl⟩
  rw [← hb1E] at hx1 hy1 ⊢
  clear hb1E hV1 hs1 hb1
  generalize ((w1.alloc (.cells #[.int .u8 (k1 : Nat), .string t1, .slice ka1 kl1 kc1, .slice la1 ll1 lc1] 26)).alloc (.cells #[.int .i64 (faR R), .int .i64 (feR R)] 29)) = W1 at *
  go_upto_region 5 with (go_at_call 12; refine (cR _).mono ?_; rintro e w2 hE; obtain ⟨hb2, k2, t2, ka2, kl2, kc2, la2, ll2, lc2, rfl, hV2⟩ := parse_shape hE; clear hE)
  have hs2 := hb2.size
  have hc2 : Below W1.heap.size W1 ((w2.alloc (.cells #[.int .u8 (k2 : Nat), .string t2, .slice ka2 kl2 kc2, .slice la2 ll2 lc2] 26)).alloc (.cells #[.int .i64 (faR R), .int .i64 (feR R)] 29)) := (hb2.alloc hs2 _).alloc (by rw [World.size_alloc]; omega) _
  have hbB : Below w.heap.size w ((w2.alloc (.cells #[.int .u8 (k2 : Nat), .string t2, .slice ka2 kl2 kc2, .slice la2 ll2 lc2] 26)).alloc (.cells #[.int .i64 (faR R), .int .i64 (feR R)] 29)) := hbA.trans (hc2.mono hbA.size)
  have hx2 : RB ((w2.alloc (.cells #[.int .u8 (k2 : Nat), .string t2, .slice ka2 kl2 kc2, .slice la2 ll2 lc2] 26)).alloc (.cells #[.int .i64 (faR R), .int .i64 (feR R)] 29)) w2.heap.size (.int .u8 (k2 : Nat)) (.string t2) (.slice ka2 kl2 kc2) (.slice la2 ll2 lc2) := (RB.new w2 _ _ _ _).alloc _
  have hy2 : FB ((w2.alloc (.cells #[.int .u8 (k2 : Nat), .string t2, .slice ka2 kl2 kc2, .slice la2 ll2 lc2] 26)).alloc (.cells #[.int .i64 (faR R), .int .i64 (feR R)] 29)) (w2.heap.size + 1) (faR R) (feR R) := heap_alloc2_new _ _ _
  have hV2' : IsV ((w2.alloc (.cells #[.int .u8 (k2 : Nat), .string t2, .slice ka2 kl2 kc2, .slice la2 ll2 lc2] 26)).alloc (.cells #[.int .i64 (faR R), .int .i64 (feR R)] 29)) 0 (vR R) (.int .u8 (k2 : Nat)) (.string t2) (.slice ka2 kl2 kc2) (.slice la2 ll2 lc2) := IsV.stays (Below.stays (((Below.refl w2.heap.size w2).alloc (Nat.le_refl _) (.cells #[.int .u8 (k2 : Nat), .string t2, .slice ka2 kl2 kc2, .slice la2 ll2 lc2] 26)).alloc (by simp) (.cells #[.int .i64 (faR R), .int .i64 (feR R)] 29)) _) (Nat.zero_le _) _ _ _ _ _ hV2
  have hx1' := hx1.below hc2
  have hy1' : FB ((w2.alloc (.cells #[.int .u8 (k2 : Nat), .string t2, .slice ka2 kl2 kc2, .slice la2 ll2 lc2] 26)).alloc (.cells #[.int .i64 (faR R), .int .i64 (feR R)] 29)) (b1 + 1) (faR R) (feR R) := (hc2.block _ (Array.getElem?_eq_some_iff.1 hy1).1).trans hy1
  have hV1q : IsV ((w2.alloc (.cells #[.int .u8 (k2 : Nat), .string t2, .slice ka2 kl2 kc2, .slice la2 ll2 lc2] 26)).alloc (.cells #[.int .i64 (faR R), .int .i64 (feR R)] 29)) 0 (vR R) (.int .u8 (k1 : Nat)) (.string t1) (.slice ka1 kl1 kc1) (.slice la1 ll1 lc1) := IsV.stays (Below.stays hc2 _) (Nat.zero_le _) _ _ _ _ _ hV1'
  obtain ⟨b2, hb2E⟩ : ∃ b, b = w2.heap.size := ⟨_, rfl⟩
  rw [← hb2E] at hx2 hy2 ⊢
  clear hb2E hV2 hs2 hb2 hx1 hy1 hV1' hc2 hbA
  generalize ((w2.alloc (.cells #[.int .u8 (k2 : Nat), .string t2, .slice ka2 kl2 kc2, .slice la2 ll2 lc2] 26)).alloc (.cells #[.int .i64 (faR R), .int .i64 (feR R)] 29)) = W2 at *
  have cS2 := cS _ _ _ _ _ _ _ _ W2 hV1q hV2'
  have hbeq : (faR R == faR R) = true := beq_self_eq_true _
  have hbeq2 : (feR R == feR R) = true := beq_self_eq_true _
  generalize faR R = fa at *
  generalize feR R = fe at *
  obtain ⟨x0, x1, x2, x3⟩ := hx1'.cells
  obtain ⟨z0, z1, z2, z3⟩ := hx2.cells
  obtain ⟨f0, f1, y0, y1⟩ := hy1'.cells
  obtain ⟨g0, g1, q0, q1⟩ := hy2.cells
  clear cS cP cR hV1q hV2'
  go_wp2_with (first
    | (go_at_call 13; refine cS2.mono ?_; rintro e w3 ⟨rfl, hb3⟩; have hx3 := hx1'.below hb3; have hx4 := hx2.below hb3; have hy3 : FB w3 (b1 + 1) fa fe := (hb3.block _ (Array.getElem?_eq_some_iff.1 hy1').1).trans hy1'; have hy4 : FB w3 (b2 + 1) fa fe := (hb3.block _ (Array.getElem?_eq_some_iff.1 hy2).1).trans hy2; clear x0 x1 x2 x3 z0 z1 z2 z3 f0 f1 y0 y1 g0 g1 q0 q1; obtain ⟨f0, f1, y0, y1⟩ := hy3.cells; obtain ⟨g0, g1, q0, q1⟩ := hy4.cells; have hbC := hbB.trans (hb3.mono hbB.size))
    | (go_at_call 10; refine (cA _ hbC).mono ?_; rintro e w4 ⟨rfl, hb4⟩))
  go_ret
  exact ⟨rfl, hbC.trans (hb4.mono hbC.size)⟩
end Go.Proofs.YtakdhfjlhkejdaaGreatDoor
