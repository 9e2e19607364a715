/-
  codicillaw02.JsonBack: its walk.
-/
import Derived.Test.YtjffiignedbndaaGreatDoorN8
import Derived.Test.YtjffiignedbndaaGreatDoorCJsonCopW
import Derived.Test.YtjffiignedbndaaGreatDoorN7
import Derived.Deep.DeepCutAuto
import Derived.Deep.LoopGhost
set_option linter.unusedSimpArgs false
set_option linter.unusedVariables false
set_option linter.unusedVariables false
namespace Go.Proofs.YtjffiignedbndaaGreatDoor
open Go.RowKit
theorem pr_ok {v : JV} (h : prE v = 0) : checkE v = 0 ∧ prS v = ⟨(textV v).toArray⟩ ∧ (textV v).length ≤ 65536 := by
  unfold prE printE at h
  split at h
  · rename_i h0
    unfold fitE at h
    split at h
    · rename_i hs
      have h1 : (textV v).toArray.size ≤ 65536 := hs
      refine ⟨h0, ?_, by simpa using h1⟩
      unfold prS printS
      rw [if_pos h0, (fit_yes hs).1]
    · cases h
  · rename_i h0
    exact absurd h h0
theorem pr_read {v : JV} (h : checkE v = 0 ∨ checkE v = 4) : prE v = 0 ∨ prE v = 4 := by
  unfold prE printE
  rcases h with h | h
  · rw [if_pos h]
    unfold fitE
    split
    · exact .inl rfl
    · exact .inr rfl
  · rw [if_neg (by omega)]
    exact .inr h
theorem pr_size (v : JV) : (prS v).size ≤ 65536 := by
  unfold prS printS
  split
  · unfold fitS
    split
    · assumption
    · exact Nat.zero_le _
  · exact Nat.zero_le _
/-- a slice of bytes -/
def IsBy (w : World) (n : Nat) (c : Value) : Prop := ∃ a cap, c = .slice a n cap ∧ (n = 0 ∨ ∃ b off, a = some ⟨b, off, none⟩ ∧ ∀ j, j < n → ∃ x : Nat, x < 256 ∧ w.cell? ⟨b, off + j, none⟩ = some (.int .u8 (x : Nat)))
/-- what Parse of a text comes to that is read as a value -/
theorem parse_is {s : ByteArray} {v : JV} (h : readP s.data.toList = .ok v) (hs : s.size ≤ maxLen) (w : World) :
    Calls Tryz.prog 11 #[.string s] w fun e w' => ∃ k t ka kl kc la ll lc, e = .returned (.tuple #[.agg #[.int .u8 (k : Nat), .string t, .slice ka kl kc, .slice la ll lc], .agg #[.int .i64 0, .int .i64 0]]) ∧ IsV w' w.heap.size v (.int .u8 (k : Nat)) (.string t) (.slice ka kl kc) (.slice la ll lc) ∧ Below w.heap.size w w' := by
  have := parse_any s w hs
  rw [h] at this
  refine this.mono ?_
  rintro e w' ⟨hb, c0, c1, c2, c3, rfl, hv⟩
  obtain ⟨k0, t0, ka, kl, kc, la, ll, lc, rfl, rfl, rfl, rfl⟩ := hv.shape
  exact ⟨_, _, _, _, _, _, _, _, rfl, hv, hb⟩
theorem parse_no {s : ByteArray} {a k : Nat} (h : readP s.data.toList = .error (a, k)) (hs : s.size ≤ maxLen) (w : World) :
    Calls Tryz.prog 11 #[.string s] w fun e w' => e = .returned (.tuple #[.agg #[.int .u8 0, .string ⟨#[]⟩, .slice none 0 0, .slice none 0 0], .agg #[.int .i64 (a : Nat), .int .i64 (k : Nat)]]) ∧ Below w.heap.size w w' := by
  have := parse_any s w hs
  rw [h] at this
  refine this.mono ?_
  rintro e w' ⟨hb, rfl⟩
  exact ⟨rfl, hb⟩
set_option maxRecDepth 10000000 in
set_option maxHeartbeats 8000000 in
theorem back_heavy (v : JV) (s : ByteArray) (n : Nat) (c0 c1 c2 c3 cb : Value) (w : World) (hV : IsV w 0 v c0 c1 c2 c3) (hB : bndV v) (hbs : IsBy w n cb) (hvars : Vars w)
    (hh : heavyB v = true ∨ (heavyB v = false ∧ 4096 < s.size) ∨ (heavyB v = false ∧ s.size ≤ 4096 ∧ 1024 < n)) :
    Calls Tryz.prog 8 #[.agg #[c0, c1, c2, c3], .string s, cb] w fun e w' => e = .returned (.bool true) ∧ Below w.heap.size w w' := by
  have hV2 := hV
  obtain ⟨k0, t0, ka, kl, kc, la, ll, lc, rfl, rfl, rfl, rfl⟩ := hV.shape
  obtain ⟨ba, bc, rfl, _⟩ := hbs
  have hbel : ∀ A : Obj, Below w.heap.size w (w.alloc A) := fun A => (Below.refl w.heap.size w).alloc (Nat.le_refl _) A
  have cH := fun (w2 : World) (hb : Below w.heap.size w w2) => heavy_any v _ _ _ _ w2 (IsV.stays (Below.stays hb 0) (Nat.le_refl 0) _ _ _ _ _ hV2) hB
  have cA := fun (w2 : World) (hb : Below w.heap.size w w2) => alive_any w2 (hvars.below hb)
  clear hV hV2
  rcases hh with h1 | ⟨h1, h2⟩ | ⟨h1, h2, h3⟩
  all_goals
    rw [h1] at cH
    go_enter Tryz.func8, Tryz.ntmps8
    try have hk2 : (4096 : Int) < (s.size : Int) := by omega
    try have hk3 : (s.size : Int) ≤ 4096 := by omega
    try have hk4 : (1024 : Int) < (n : Int) := by omega
    go_wp2_with (first
      | (go_at_call 14; refine (cH _ (hbel _)).mono ?_; rintro e w1 ⟨rfl, hb1⟩)
      | (go_at_call 10; have hb2 := (hbel _).trans (hb1.mono (by simp)); refine (cA _ hb2).mono ?_; rintro e w2 ⟨rfl, hb3⟩))
    go_ret
    exact ⟨rfl, hb2.trans (hb3.mono hb2.size)⟩
set_option maxRecDepth 10000000 in
set_option maxHeartbeats 8000000 in
theorem back_light (v : JV) (s : ByteArray) (n : Nat) (c0 c1 c2 c3 cb : Value) (w : World) (hV : IsV w 0 v c0 c1 c2 c3) (hB : bndV v) (hbs : IsBy w n cb) (hvars : Vars w) (hh : heavyB v = false) (hs : s.size ≤ 4096) (hn : n ≤ 1024) :
    Calls Tryz.prog 8 #[.agg #[c0, c1, c2, c3], .string s, cb] w fun e w' => e = .returned (.bool true) ∧ Below w.heap.size w w' := by
  have hV2 := hV
  obtain ⟨k0, t0, ka, kl, kc, la, ll, lc, rfl, rfl, rfl, rfl⟩ := hV.shape
  obtain ⟨ba, bc, rfl, hby⟩ := hbs
  have hbel : ∀ A : Obj, Below w.heap.size w (w.alloc A) := fun A => (Below.refl w.heap.size w).alloc (Nat.le_refl _) A
  have cH := fun (w2 : World) (hb : Below w.heap.size w w2) => heavy_any v _ _ _ _ w2 (IsV.stays (Below.stays hb 0) (Nat.le_refl 0) _ _ _ _ _ hV2) hB
  rw [hh] at cH
  obtain ⟨l1, l2, l3⟩ := light hh
  have cA := fun (w2 : World) (hb : Below w.heap.size w w2) => alive_any w2 (hvars.below hb)
  have cP := fun (w2 : World) (hb : Below w.heap.size w w2) => print_any v _ _ _ _ w2 (IsV.stays (Below.stays hb 0) (Nat.le_refl 0) _ _ _ _ _ hV2) (by omega) (by omega) (by omega)
  have hsm : s.size ≤ maxLen := by unfold maxLen; omega
  have hsI : (s.size : Int) ≤ 4096 := by omega
  have hnI : (n : Int) ≤ 1024 := by omega
  have hV0 := fun (w2 : World) (hb : Below w.heap.size w w2) => IsV.stays (Below.stays hb 0) (Nat.le_refl 0) _ _ _ _ _ hV2
  clear hV hh
  go_enter Tryz.func8, Tryz.ntmps8
  go_upto_region 3 with (go_at_call 14; refine (cH _ (hbel _)).mono ?_; rintro e w1 ⟨rfl, hb1⟩)
  have hbx := (hb1.block w.heap.size (by simp)).trans (heap_alloc_new w (.cells #[.int .u8 (k0 : Nat), .string t0, .slice ka kl kc, .slice la ll lc] 26))
  have hb01 := (hbel (.cells #[.int .u8 (k0 : Nat), .string t0, .slice ka kl kc, .slice la ll lc] 26)).trans (hb1.mono (by simp))
  clear hb1 hbel cH
  obtain ⟨x0, x1, x2, x3⟩ := RB.cells hbx
  have hcc := cP w1 hb01
  have hpr : prE v = 0 → checkE v = 0 ∧ (prS v).data.toList = textV v ∧ (prS v).size ≤ 65536 := fun h => by
    obtain ⟨p1, p2, p3⟩ := pr_ok h
    exact ⟨p1, by rw [p2], by rw [p2, Lib.size_eq]; exact p3⟩
  generalize prE v = pe at *
  generalize prS v = T at *
  clear cP
  go_upto_region 4 with (go_at_call 15; refine hcc.mono ?_; rintro e w2 ⟨rfl, hb2⟩)
  clear hcc x0 x1 x2 x3
  have hwl : w.heap.size < w1.heap.size := (Array.getElem?_eq_some_iff.1 hbx).1
  have hbx2 := (hb2.block _ hwl).trans hbx
  have hb02 := hb01.trans (hb2.mono hb01.size)
  have hwl2 : w.heap.size < w2.heap.size := (Array.getElem?_eq_some_iff.1 hbx2).1
  clear hbx hb01 hb2 hwl
  go_upto_if 39 with fail
  go_cut [] (fun wx => Below w.heap.size w wx)
  case first =>
    by_cases h0 : pe = 0
    · obtain ⟨p1, hT, hsz⟩ := hpr h0
      subst h0
      have hrd := back_read (a := []) (b := []) p1 (fun x hx => by cases hx) (fun x hx => by cases hx) (by rw [← hT, List.nil_append, List.append_nil, ← Lib.size_eq]; exact hsz)
      rw [List.nil_append, List.append_nil, ← hT] at hrd
      have cQ := fun (w2 : World) => parse_is (s := T) (v := v) hrd (by unfold maxLen; omega) w2
      have HB := Lib.hid (fun (a : List UInt8) (ha : ∀ x ∈ a, pWhite (x.toNat : Nat) = true) (hl : (a ++ (textV v ++ a)).length ≤ 65536) => back_read (a := a) (b := a) p1 ha ha hl)
      have HT := Lib.hid hT
      clear hrd hpr hT
      go_upto_region 6 with (go_at_call 11; refine (cQ _).mono ?_; rintro e w3 ⟨k1, t1, qa, ql, qc, ra, rl, rc, rfl, hV3, hb3⟩)
      have hX := heap_alloc2_old w3 (.cells #[.int .u8 (k1 : Nat), .string t1, .slice qa ql qc, .slice ra rl rc] 26) (.cells #[.int .i64 0, .int .i64 0] 29)
      have hF : FB ((w3.alloc (.cells #[.int .u8 (k1 : Nat), .string t1, .slice qa ql qc, .slice ra rl rc] 26)).alloc (.cells #[.int .i64 0, .int .i64 0] 29)) (w3.heap.size + 1) 0 0 := heap_alloc2_new w3 (.cells #[.int .u8 (k1 : Nat), .string t1, .slice qa ql qc, .slice ra rl rc] 26) (.cells #[.int .i64 0, .int .i64 0] 29)
      have h3 : Below w3.heap.size w3 ((w3.alloc (.cells #[.int .u8 (k1 : Nat), .string t1, .slice qa ql qc, .slice ra rl rc] 26)).alloc (.cells #[.int .i64 0, .int .i64 0] 29)) := ((Below.refl _ w3).alloc (Nat.le_refl _) _).alloc (by simp) _
      have hs3 : ((w3.alloc (.cells #[.int .u8 (k1 : Nat), .string t1, .slice qa ql qc, .slice ra rl rc] 26)).alloc (.cells #[.int .i64 0, .int .i64 0] 29)).heap.size = w3.heap.size + 2 := by simp
      have hs23 := hb3.size
      have h23 := hb3.trans (h3.mono hb3.size)
      have hb03 := hb02.trans (h23.mono hb02.size)
      have hV3 := IsV.stays (lo' := 0) (Below.stays h3 _) (Nat.zero_le _) _ _ _ _ _ hV3
      have hbx3 := (h23.block _ hwl2).trans hbx2
      have hVv := hV0 _ hb03
      have hlt3 : w.heap.size < w3.heap.size := by omega
      clear hbx2 h3 h23 hb3 hs23 hb02 hwl2 cQ
      generalize (w3.alloc (.cells #[.int .u8 (k1 : Nat), .string t1, .slice qa ql qc, .slice ra rl rc] 26)).alloc (.cells #[.int .i64 0, .int .i64 0] 29) = W3 at *
      generalize w3.heap.size = n3 at *
      obtain ⟨x0, x1, x2, x3⟩ := RB.cells hbx3
      obtain ⟨y0, y1, y2, y3⟩ := RB.cells hX
      obtain ⟨f0, f1, _, _⟩ := FB.cells hF
      have cS := same_any v v _ _ _ _ _ _ _ _ W3 hV3 hVv (by omega) (by omega) (by omega) (by omega)
      rw [sameV_refl] at cS
      go_wp2_with (go_at_call 25; refine cS.mono ?_; rintro e w4 ⟨rfl, hb4⟩)
      clear x0 x1 x2 x3 y0 y1 y2 y3 f0 f1 cS hV3 hVv
      have hs34 := hb4.size
      have hb04 := hb03.trans (hb4.mono hb03.size)
      have hbx4 := (hb4.block _ (by omega)).trans hbx3
      have hF4 : FB w4 (n3 + 1) 0 0 := (hb4.block _ (by omega)).trans hF
      clear hX hF hbx3 hb03 hb4
      have hbyw : ∀ (wr : World), Below w.heap.size w wr → ∀ j, j < n → ∃ b off, ba = some ⟨b, off, none⟩ ∧ ∃ x : Nat, x < 256 ∧ wr.cell? ⟨b, off + j, none⟩ = some (.int .u8 (x : Nat)) := by
        intro wr hb j hj
        rcases hby with h0 | ⟨b, off, e, h⟩
        · omega
        · obtain ⟨x, hx, hc⟩ := h j hj
          exact ⟨b, off, e, x, hx, (hb.cell (cell_lt hc)).trans hc⟩
      have HBY := Lib.hid hbyw
      clear hbyw hby
      go_loopw [11, 12] (fun va vi wr => ∃ (S : ByteArray) (i : Nat), va = .string S ∧ vi = .int .i64 (i : Nat) ∧ i ≤ n ∧ S.data.toList.length = i ∧ (∀ b ∈ S.data.toList, pWhite (b.toNat : Nat) = true) ∧ Below w4.heap.size w4 wr) (fun _ vi _ => n - (intOf vi).toNat)
      case atStart => exact ⟨⟨#[]⟩, 0, rfl, rfl, Nat.zero_le _, rfl, (fun b hb => by simp at hb), Below.refl _ _⟩
      case round =>
        obtain ⟨S, i, rfl, rfl, hi, hS1, hS2, hbr⟩ := hrel
        have HS1 := Lib.hid hS1
        have HS2 := Lib.hid hS2
        clear hS1 hS2
        have hb0r := hb04.trans (hbr.mono hb04.size)
        by_cases hlt : i < n
        · obtain ⟨b, off, rfl, x, hx, hc⟩ := HBY.out _ hb0r i hlt
          have hlt2 : (i : Int) < (n : Int) := by omega
          have hc2 : ∀ o : Obj, (wr.alloc o).cell? ⟨b, off + i, none⟩ = some (.int .u8 (x : Nat)) := fun o => (((Below.refl _ wr).alloc (Nat.le_refl _) o).cell (cell_lt hc)).trans hc
          have hadd : ∀ c : UInt8, pWhite (c.toNat : Nat) = true → (S ++ ⟨#[c]⟩).data.toList.length = i + 1 ∧ ∀ b ∈ (S ++ ⟨#[c]⟩).data.toList, pWhite (b.toNat : Nat) = true := by
            intro c hc
            rw [ByteArray.data_append, Array.toList_append]
            refine ⟨by rw [List.length_append, HS1.out]; rfl, fun b hb => ?_⟩
            rcases List.mem_append.1 hb with hb | hb
            · exact HS2.out b hb
            · rw [List.mem_singleton.1 hb]; exact hc
          have HA := Lib.hid hadd
          clear hadd
          have hr : ((x : Nat) : Int) % 4 = 0 ∨ ((x : Nat) : Int) % 4 = 1 ∨ ((x : Nat) : Int) % 4 = 2 ∨ ((x : Nat) : Int) % 4 = 3 := by omega
          have hSs : S.size ≤ 1024 := by rw [Lib.size_eq, HS1.out]; omega
          rcases hr with hr | hr | hr | hr
          · go_wp2_with fail
            go_roundw
            case rel => exact ⟨S ++ ⟨#[32]⟩, i + 1, rfl, by go_num, hlt, (HA.out 32 (by decide)).1, (HA.out 32 (by decide)).2, hbr.alloc hbr.size _⟩
            case measure => simp [intOf]; omega
          · go_wp2_with fail
            go_roundw
            case rel => exact ⟨S ++ ⟨#[10]⟩, i + 1, rfl, by go_num, hlt, (HA.out 10 (by decide)).1, (HA.out 10 (by decide)).2, hbr.alloc hbr.size _⟩
            case measure => simp [intOf]; omega
          · go_wp2_with fail
            go_roundw
            case rel => exact ⟨S ++ ⟨#[9]⟩, i + 1, rfl, by go_num, hlt, (HA.out 9 (by decide)).1, (HA.out 9 (by decide)).2, hbr.alloc hbr.size _⟩
            case measure => simp [intOf]; omega
          · go_wp2_with fail
            go_roundw
            case rel => exact ⟨S ++ ⟨#[13]⟩, i + 1, rfl, by go_num, hlt, (HA.out 13 (by decide)).1, (HA.out 13 (by decide)).2, hbr.alloc hbr.size _⟩
            case measure => simp [intOf]; omega
        · have hge : ¬ ((i : Int) < (n : Int)) := by omega
          have hSs : S.size ≤ 1024 := by rw [Lib.size_eq, HS1.out]; omega
          have hbx5 := (hbr.block _ (by omega)).trans hbx4
          have hF5 : FB wr (n3 + 1) 0 0 := (hbr.block _ (by omega)).trans hF4
          have hl : (S ++ T ++ S).data.toList = S.data.toList ++ (textV v ++ S.data.toList) := by
            rw [ByteArray.data_append, ByteArray.data_append, Array.toList_append, Array.toList_append, HT.out, List.append_assoc]
          have hls : (S ++ T ++ S).size = T.size + 2 * S.size := by rw [ByteArray.size_append, ByteArray.size_append]; omega
          have hz1 : (S ++ T).size ≤ 70000 := by rw [ByteArray.size_append]; omega
          have hz2 : (S ++ T ++ S).size ≤ 70000 := by omega
          by_cases hfit : T.size + 2 * S.size ≤ 65536
          · have hrd := HB.out S.data.toList HS2.out (by rw [← hl, ← Lib.size_eq]; omega)
            rw [← hl] at hrd
            have cQ := fun (w2 : World) => parse_is (s := S ++ T ++ S) (v := v) hrd (by unfold maxLen; omega) w2
            clear hrd hl hls HBY HB
            go_upto_region 14 with (go_at_call 11; refine (cQ _).mono ?_; rintro e w5 ⟨k2, t2, sa, sl, sc, ua, ul, uc, rfl, hV5, hb5⟩; have hF6 : FB w5 (n3 + 1) 0 0 := (hb5.block _ (Array.getElem?_eq_some_iff.1 hF5).1).trans hF5; have hFA : ∀ o : Obj, FB (w5.alloc o) (n3 + 1) 0 0 := fun o => (Lib.alloc_old w5 o _ (Array.getElem?_eq_some_iff.1 hF6).1).trans hF6; have g0 := fun o => (FB.cells (hFA o)).1; have g1 := fun o => (FB.cells (hFA o)).2.1; have g2 := fun o => (FB.cells (hFA o)).2.2.1; have g3 := fun o => (FB.cells (hFA o)).2.2.2)
            have hn5 : n3 + 1 < w5.heap.size := (Array.getElem?_eq_some_iff.1 hF6).1
            have hnr : n3 + 1 < wr.heap.size := (Array.getElem?_eq_some_iff.1 hF5).1
            have hA5 : Below w5.heap.size w5 (w5.alloc (.cells #[.int .u8 (k2 : Nat), .string t2, .slice sa sl sc, .slice ua ul uc] 26)) := (Below.refl _ _).alloc (Nat.le_refl _) _
            have hb05 := hb0r.trans (hb5.mono hb0r.size)
            have hb0a := hb05.trans (hA5.mono hb05.size)
            have hwr : w.heap.size ≤ wr.heap.size := hb0r.size
            have hF7 : FB (((w5.alloc (.cells #[.int .u8 (k2 : Nat), .string t2, .slice sa sl sc, .slice ua ul uc] 26)).setCell ⟨n3 + 1, 0, none⟩ (.int .i64 0)).setCell ⟨n3 + 1, 1, none⟩ (.int .i64 0)) (n3 + 1) 0 0 := ((hFA _).s0 0).s1 0
            have hY7 : RB (((w5.alloc (.cells #[.int .u8 (k2 : Nat), .string t2, .slice sa sl sc, .slice ua ul uc] 26)).setCell ⟨n3 + 1, 0, none⟩ (.int .i64 0)).setCell ⟨n3 + 1, 1, none⟩ (.int .i64 0)) w5.heap.size (.int .u8 (k2 : Nat)) (.string t2) (.slice sa sl sc) (.slice ua ul uc) := ((RB.new w5 _ _ _ _).off 0 _ (by omega)).off 1 _ (by omega)
            have hbx6 : RB (w5.alloc (.cells #[.int .u8 (k2 : Nat), .string t2, .slice sa sl sc, .slice ua ul uc] 26)) w.heap.size (.int .u8 (k0 : Nat)) (.string t0) (.slice ka kl kc) (.slice la ll lc) := ((hA5.block _ (by omega)).trans (hb5.block _ (by omega))).trans hbx5
            have hbx7 : RB (((w5.alloc (.cells #[.int .u8 (k2 : Nat), .string t2, .slice sa sl sc, .slice ua ul uc] 26)).setCell ⟨n3 + 1, 0, none⟩ (.int .i64 0)).setCell ⟨n3 + 1, 1, none⟩ (.int .i64 0)) w.heap.size (.int .u8 (k0 : Nat)) (.string t0) (.slice ka kl kc) (.slice la ll lc) := (hbx6.off 0 _ (by omega)).off 1 _ (by omega)
            have hb07 : Below w.heap.size w (((w5.alloc (.cells #[.int .u8 (k2 : Nat), .string t2, .slice sa sl sc, .slice ua ul uc] 26)).setCell ⟨n3 + 1, 0, none⟩ (.int .i64 0)).setCell ⟨n3 + 1, 1, none⟩ (.int .i64 0)) := (hb0a.setCell (p := ⟨n3 + 1, 0, none⟩) (by show w.heap.size ≤ n3 + 1; omega) _).setCell (p := ⟨n3 + 1, 1, none⟩) (by show w.heap.size ≤ n3 + 1; omega) _
            have hK7 : KB (n3 + 1) (n3 + 1) w5 (((w5.alloc (.cells #[.int .u8 (k2 : Nat), .string t2, .slice sa sl sc, .slice ua ul uc] 26)).setCell ⟨n3 + 1, 0, none⟩ (.int .i64 0)).setCell ⟨n3 + 1, 1, none⟩ (.int .i64 0)) := ((KB.ofBelow hA5).off 0 _ (.inl rfl)).off 1 _ (.inl rfl)
            have hV7 := IsV.stays (lo' := 0) (hK7.stays hnr hnr) (Nat.zero_le _) _ _ _ _ _ hV5
            have hVv := hV0 _ hb07
            clear hK7 hb0a hA5 hbx6 hFA g0 g1 g2 g3 hF6 hV5 cQ
            generalize (((w5.alloc (.cells #[.int .u8 (k2 : Nat), .string t2, .slice sa sl sc, .slice ua ul uc] 26)).setCell ⟨n3 + 1, 0, none⟩ (.int .i64 0)).setCell ⟨n3 + 1, 1, none⟩ (.int .i64 0)) = W7 at *
            generalize w5.heap.size = n5 at *
            obtain ⟨x0, x1, x2, x3⟩ := RB.cells hbx7
            obtain ⟨y0, y1, y2, y3⟩ := RB.cells hY7
            obtain ⟨f0, f1, _, _⟩ := FB.cells hF7
            have cS := same_any v v _ _ _ _ _ _ _ _ W7 hV7 hVv (by omega) (by omega) (by omega) (by omega)
            rw [sameV_refl] at cS
            go_wp2_with (go_at_call 25; refine cS.mono ?_; rintro e w8 ⟨rfl, hb8⟩)
            go_meet
            exact hb07.trans (hb8.mono hb07.size)
          · have hno : readP (S ++ T ++ S).data.toList = .error (0, 4) := by
              unfold readP
              rw [if_pos (by rw [← Lib.size_eq]; omega)]
            have cQ := fun (w2 : World) => parse_no hno (by unfold maxLen; omega) w2
            have hfit2 : ¬ ((T.size : Int) + 2 * (S.size : Int) ≤ 65536) := by omega
            clear hno hl hls HBY HB
            go_upto_region 14 with (go_at_call 11; refine (cQ _).mono ?_; rintro e w5 ⟨rfl, hb5⟩; have hF6 : FB w5 (n3 + 1) 0 0 := (hb5.block _ (Array.getElem?_eq_some_iff.1 hF5).1).trans hF5; have hFA : ∀ o : Obj, FB (w5.alloc o) (n3 + 1) 0 0 := fun o => (Lib.alloc_old w5 o _ (Array.getElem?_eq_some_iff.1 hF6).1).trans hF6; have g0 := fun o => (FB.cells (hFA o)).1; have g1 := fun o => (FB.cells (hFA o)).2.1; have g2 := fun o => (FB.cells (hFA o)).2.2.1; have g3 := fun o => (FB.cells (hFA o)).2.2.2)
            have hb05 := hb0r.trans (hb5.mono hb0r.size)
            have hb0a := hb05.alloc hb05.size (.cells #[.int .u8 0, .string ⟨#[]⟩, .slice none 0 0, .slice none 0 0] 26)
            have hF7 : FB (((w5.alloc (.cells #[.int .u8 0, .string ⟨#[]⟩, .slice none 0 0, .slice none 0 0] 26)).setCell ⟨n3 + 1, 0, none⟩ (.int .i64 0)).setCell ⟨n3 + 1, 1, none⟩ (.int .i64 4)) (n3 + 1) 0 4 := ((hFA _).s0 0).s1 4
            have hb07 : Below w.heap.size w (((w5.alloc (.cells #[.int .u8 0, .string ⟨#[]⟩, .slice none 0 0, .slice none 0 0] 26)).setCell ⟨n3 + 1, 0, none⟩ (.int .i64 0)).setCell ⟨n3 + 1, 1, none⟩ (.int .i64 4)) := (hb0a.setCell (p := ⟨n3 + 1, 0, none⟩) (by show w.heap.size ≤ n3 + 1; omega) _).setCell (p := ⟨n3 + 1, 1, none⟩) (by show w.heap.size ≤ n3 + 1; omega) _
            clear hFA g0 g1 g2 g3 hF6 cQ hb0a
            generalize (((w5.alloc (.cells #[.int .u8 0, .string ⟨#[]⟩, .slice none 0 0, .slice none 0 0] 26)).setCell ⟨n3 + 1, 0, none⟩ (.int .i64 0)).setCell ⟨n3 + 1, 1, none⟩ (.int .i64 4)) = W7 at *
            obtain ⟨f0, f1, _, _⟩ := FB.cells hF7
            go_wp2_with fail
            go_meet
            exact hb07
    · have hb0 : (pe == 0) = false := beq_false_of_ne h0
      clear hpr
      go_wp2_with fail
      go_meet
      exact hb02
  case rest =>
    have hb0 : Below w.heap.size w wc := hcut
    clear hcut hb02 hbx2 hwl2 hpr hV0 hV2 hby
    cases hR : readP s.data.toList with
    | error f =>
      obtain ⟨fa, fk⟩ := f
      have hk := read_err hR
      have cS := fun (w2 : World) => parse_no hR hsm w2
      have hk2 : (((fk : Nat) : Int) == 0) = false := beq_false_of_ne (by omega)
      clear hR
      go_upto_region 17 with (go_at_call 11; refine (cS _).mono ?_; rintro e w3 ⟨rfl, hb3⟩)
      have hF : FB ((w3.alloc (.cells #[.int .u8 0, .string ⟨#[]⟩, .slice none 0 0, .slice none 0 0] 26)).alloc (.cells #[.int .i64 (fa : Nat), .int .i64 (fk : Nat)] 29)) (w3.heap.size + 1) (fa : Nat) (fk : Nat) := heap_alloc2_new w3 (.cells #[.int .u8 0, .string ⟨#[]⟩, .slice none 0 0, .slice none 0 0] 26) (.cells #[.int .i64 (fa : Nat), .int .i64 (fk : Nat)] 29)
      have hb03 := hb0.trans (hb3.mono hb0.size)
      have hb04 := (hb03.alloc hb03.size (.cells #[.int .u8 0, .string ⟨#[]⟩, .slice none 0 0, .slice none 0 0] 26)).alloc (by have := hb03.size; simp; omega) (.cells #[.int .i64 (fa : Nat), .int .i64 (fk : Nat)] 29)
      clear hb03
      generalize (w3.alloc (.cells #[.int .u8 0, .string ⟨#[]⟩, .slice none 0 0, .slice none 0 0] 26)).alloc (.cells #[.int .i64 (fa : Nat), .int .i64 (fk : Nat)] 29) = W4 at *
      obtain ⟨f0, f1, _, _⟩ := FB.cells hF
      go_wp2_with (go_at_call 10; refine (cA _ hb04).mono ?_; rintro e w9 ⟨rfl, hb9⟩)
      go_ret
      exact ⟨rfl, hb04.trans (hb9.mono hb04.size)⟩
    | ok x =>
      have cS := fun (w2 : World) => parse_is hR hsm w2
      have hg := read_good hR
      have hrs := read_size hR
      have hrl := read_lett hR
      rw [← Lib.size_eq] at hrl
      have hrk := keysV_le x hrs.1
      have hrz := hrs.2
      clear hrs hR
      go_upto_region 17 with (go_at_call 11; refine (cS _).mono ?_; rintro e w3 ⟨k1, t1, qa, ql, qc, ra, rl, rc, rfl, hV3, hb3⟩)
      have hX := heap_alloc2_old w3 (.cells #[.int .u8 (k1 : Nat), .string t1, .slice qa ql qc, .slice ra rl rc] 26) (.cells #[.int .i64 0, .int .i64 0] 29)
      have hF : FB ((w3.alloc (.cells #[.int .u8 (k1 : Nat), .string t1, .slice qa ql qc, .slice ra rl rc] 26)).alloc (.cells #[.int .i64 0, .int .i64 0] 29)) (w3.heap.size + 1) 0 0 := heap_alloc2_new w3 (.cells #[.int .u8 (k1 : Nat), .string t1, .slice qa ql qc, .slice ra rl rc] 26) (.cells #[.int .i64 0, .int .i64 0] 29)
      have h3 : Below w3.heap.size w3 ((w3.alloc (.cells #[.int .u8 (k1 : Nat), .string t1, .slice qa ql qc, .slice ra rl rc] 26)).alloc (.cells #[.int .i64 0, .int .i64 0] 29)) := ((Below.refl _ w3).alloc (Nat.le_refl _) _).alloc (by simp) _
      have hs3 : ((w3.alloc (.cells #[.int .u8 (k1 : Nat), .string t1, .slice qa ql qc, .slice ra rl rc] 26)).alloc (.cells #[.int .i64 0, .int .i64 0] 29)).heap.size = w3.heap.size + 2 := by simp
      have hb03 := hb0.trans (hb3.mono hb0.size)
      have hb04 := hb03.trans (h3.mono hb03.size)
      have hV4 := IsV.stays (lo' := 0) (Below.stays h3 _) (Nat.zero_le _) _ _ _ _ _ hV3
      clear h3 hb3 hb03 hb0 cS hV3
      generalize (w3.alloc (.cells #[.int .u8 (k1 : Nat), .string t1, .slice qa ql qc, .slice ra rl rc] 26)).alloc (.cells #[.int .i64 0, .int .i64 0] 29) = W4 at *
      generalize w3.heap.size = n3 at *
      obtain ⟨x0, x1, x2, x3⟩ := RB.cells hX
      obtain ⟨f0, f1, _, _⟩ := FB.cells hF
      have cP := print_any x _ _ _ _ W4 hV4 (by omega) (by omega) (by omega)
      go_upto_region 19 with (go_at_call 15; refine cP.mono ?_; rintro e w5 ⟨rfl, hb5⟩)
      have hb05 := hb04.trans (hb5.mono hb04.size)
      rcases pr_read hg with h4 | h4
      rotate_left
      · rw [h4]
        clear x0 x1 x2 x3 f0 f1 cP
        go_wp2_with (go_at_call 10; refine (cA _ hb05).mono ?_; rintro e w9 ⟨rfl, hb9⟩)
        go_ret
        exact ⟨rfl, hb05.trans (hb9.mono hb05.size)⟩
      · obtain ⟨p1, p2, p3⟩ := pr_ok h4
        rw [h4, p2]
        have hrd := back_read (a := []) (b := []) p1 (fun x hx => by cases hx) (fun x hx => by cases hx) (by simpa using p3)
        rw [List.nil_append, List.append_nil] at hrd
        have hsz : (ByteArray.mk (textV x).toArray).size ≤ 65536 := by rw [Lib.size_eq]; exact p3
        have cQ := fun (w2 : World) => parse_is (s := ⟨(textV x).toArray⟩) (v := x) hrd (by unfold maxLen; omega) w2
        have hX5 := (hb5.block n3 (by omega)).trans hX
        have hV5 := IsV.stays (Below.stays hb5 0) (Nat.le_refl _) _ _ _ _ _ hV4
        clear x0 x1 x2 x3 f0 f1 cP hrd hX hF hV4
        have hs45 := hb5.size
        generalize ByteArray.mk (textV x).toArray = T at *
        go_upto_region 22 with (go_at_call 11; refine (cQ _).mono ?_; rintro e w6 ⟨k2, t2, sa, sl, sc, ua, ul, uc, rfl, hV6, hb6⟩)
        have hY := heap_alloc2_old w6 (.cells #[.int .u8 (k2 : Nat), .string t2, .slice sa sl sc, .slice ua ul uc] 26) (.cells #[.int .i64 0, .int .i64 0] 29)
        have hG : FB ((w6.alloc (.cells #[.int .u8 (k2 : Nat), .string t2, .slice sa sl sc, .slice ua ul uc] 26)).alloc (.cells #[.int .i64 0, .int .i64 0] 29)) (w6.heap.size + 1) 0 0 := heap_alloc2_new w6 (.cells #[.int .u8 (k2 : Nat), .string t2, .slice sa sl sc, .slice ua ul uc] 26) (.cells #[.int .i64 0, .int .i64 0] 29)
        have h6 : Below w6.heap.size w6 ((w6.alloc (.cells #[.int .u8 (k2 : Nat), .string t2, .slice sa sl sc, .slice ua ul uc] 26)).alloc (.cells #[.int .i64 0, .int .i64 0] 29)) := ((Below.refl _ w6).alloc (Nat.le_refl _) _).alloc (by simp) _
        have h57 := hb6.trans (h6.mono hb6.size)
        have hb07 := hb05.trans (h57.mono hb05.size)
        have hX7 := (h57.block n3 (by omega)).trans hX5
        have hV7 := IsV.stays (Below.stays h57 0) (Nat.le_refl _) _ _ _ _ _ hV5
        have hV8 := IsV.stays (lo' := 0) (Below.stays h6 _) (Nat.zero_le _) _ _ _ _ _ hV6
        clear h57 h6 hV6 hV5 hX5 cQ hb6
        generalize (w6.alloc (.cells #[.int .u8 (k2 : Nat), .string t2, .slice sa sl sc, .slice ua ul uc] 26)).alloc (.cells #[.int .i64 0, .int .i64 0] 29) = W7 at *
        generalize w6.heap.size = n6 at *
        obtain ⟨x0, x1, x2, x3⟩ := RB.cells hX7
        obtain ⟨y0, y1, y2, y3⟩ := RB.cells hY
        obtain ⟨f0, f1, _, _⟩ := FB.cells hG
        have cS := same_any x x _ _ _ _ _ _ _ _ W7 hV7 hV8 (by omega) (by omega) (by omega) (by omega)
        rw [sameV_refl] at cS
        go_wp2_with (first
          | (go_at_call 25; refine cS.mono ?_; rintro e w8 ⟨rfl, hb8⟩; have hb08 := hb07.trans (hb8.mono hb07.size))
          | (go_at_call 10; refine (cA _ hb08).mono ?_; rintro e w9 ⟨rfl, hb9⟩))
        go_ret
        exact ⟨rfl, hb08.trans (hb9.mono hb08.size)⟩
end Go.Proofs.YtjffiignedbndaaGreatDoor
