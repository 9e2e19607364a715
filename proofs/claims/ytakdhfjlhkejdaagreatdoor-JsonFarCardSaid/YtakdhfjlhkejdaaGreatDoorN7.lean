/-
  TEXTS OF THE SEAT, put together: JsonPars2, JsonCopy, JsonGet, JsonInt, JsonAlvM, JsonSame, HeldT, JsonAlv.
-/
import Derived.Test.YtakdhfjlhkejdaaGreatDoorN6
import Derived.Defers
import Derived.Test.YtakdhfjlhkejdaaGreatDoorN2
import Derived.Test.YtakdhfjlhkejdaaGreatDoorShelf
import Derived.Test.YtakdhfjlhkejdaaGreatDoorN4
import Derived.Test.YtakdhfjlhkejdaaGreatDoorN3
import Derived.WalkKit
import Derived.RegionTactic
import Derived.OrdersHeld
import Derived.Deep.RegionLaw
import Derived.BigRegion
import Derived.Deep.RegionWith
import Derived.Deep.DeepCutAuto
set_option linter.unusedSimpArgs false
set_option linter.unusedVariables false

/-
  CONTRACTS of package json: Parse.
-/
set_option linter.unusedVariables false
namespace Go.Proofs.YtakdhfjlhkejdaaGreatDoor
open Go.RowKit
/-- what Parse comes to -/
def ParseEnd (w : World) (r : Except Fail JV) (e : Ending) (w' : World) : Prop :=
  Below w.heap.size w w' ∧ match r with
  | .ok x => ∃ c0 c1 c2 c3, e = .returned (.tuple #[.agg #[c0, c1, c2, c3], .agg #[.int .i64 0, .int .i64 0]]) ∧ IsV w' w.heap.size x c0 c1 c2 c3
  | .error (i, k) => e = .returned (.tuple #[.agg #[.int .u8 0, .string ⟨#[]⟩, .slice none 0 0, .slice none 0 0], .agg #[.int .i64 i, .int .i64 k]])
/-- the world in which whole is called -/
def startW (w : World) (s : ByteArray) : World := ((w.alloc (.cells #[.int .u8 0, .string ⟨#[]⟩, .slice none 0 0, .slice none 0 0] 26)).alloc (.cells #[.int .i64 0, .int .i64 0] 29)).alloc (.cells #[.string s, .int .i64 0, .int .i64 0, .int .i64 0] 59)
theorem start_size (w : World) (s : ByteArray) : (startW w s).heap.size = w.heap.size + 3 := by
  unfold startW
  rw [World.size_alloc, World.size_alloc, World.size_alloc]
theorem start_RB (w : World) (s : ByteArray) : RB (startW w s) w.heap.size (.int .u8 0) (.string ⟨#[]⟩) (.slice none 0 0) (.slice none 0 0) := ((RB.new w _ _ _ _).alloc _).alloc _
theorem start_FB (w : World) (s : ByteArray) : FB (startW w s) (w.heap.size + 1) 0 0 := by
  unfold startW FB
  rw [Lib.alloc_old _ _ _ (by rw [World.size_alloc, World.size_alloc]; omega)]
  exact heap_alloc2_new _ _ _
theorem start_PS (w : World) (s : ByteArray) : PS (startW w s) (w.heap.size + 2) s 0 0 0 := by
  have h := heap_alloc2_new (w.alloc (.cells #[.int .u8 0, .string ⟨#[]⟩, .slice none 0 0, .slice none 0 0] 26)) (.cells #[.int .i64 0, .int .i64 0] 29) (.cells #[.string s, .int .i64 0, .int .i64 0, .int .i64 0] 59)
  have e : (w.alloc (.cells #[.int .u8 0, .string ⟨#[]⟩, .slice none 0 0, .slice none 0 0] 26)).heap.size = w.heap.size + 1 := World.size_alloc _ _
  rw [e] at h
  exact h
theorem start_Below (w : World) (s : ByteArray) : Below w.heap.size w (startW w s) :=
  (((Below.refl _ w).alloc (Nat.le_refl _) _).alloc (by simp) _).alloc (by simp; omega) _
theorem parse_below {w W w' w'' : World} (hb : Below w.heap.size w W) (hG : GB (w.heap.size + 2) W w') (hk : KB w.heap.size (w.heap.size + 1) w' w'') (hsz : W.heap.size = w.heap.size + 3) : Below w.heap.size w w'' :=
  ⟨hk.os.trans (hG.os.trans hb.os), hk.tape.trans (hG.tape.trans hb.tape), hk.output.trans (hG.output.trans hb.output), Nat.le_trans hb.size (Nat.le_trans hG.size hk.size),
    fun k hlt => by
      have h1 := hb.size
      have h2 := hG.size
      exact (hk.block k (by omega) (by omega) (by omega)).trans ((hG.block k (by omega) (by simp; omega)).trans (hb.block k hlt))⟩
theorem KB.stays {p q lo : Nat} {a w : World} (h : KB p q a w) (hp : p < lo) (hq : q < lo) : Stays lo a w := fun x c hl hx => (World.cell?_of_block (h.block x.block (cell_lt hx) (by omega) (by omega))).trans hx
/-- the world behind the results' stores -/
theorem told_end (w : World) (rb fb : Nat) (c0 c1 c2 c3 d0 d1 d2 d3 : Value) (a0 k0 a k : Int) (hr : RB w rb d0 d1 d2 d3) (hf : FB w fb a0 k0) (hne : rb ≠ fb) :
    ∃ W2, W2 = (((((w.setCell ⟨rb, 0, none⟩ c0).setCell ⟨rb, 1, none⟩ c1).setCell ⟨rb, 2, none⟩ c2).setCell ⟨rb, 3, none⟩ c3).setCell ⟨fb, 0, none⟩ (.int .i64 a)).setCell ⟨fb, 1, none⟩ (.int .i64 k) ∧ RB W2 rb c0 c1 c2 c3 ∧ FB W2 fb a k ∧ KB rb fb w W2 :=
  ⟨_, rfl, ((((((hr.s0 _).s1 _).s2 _).s3 _).off 0 _ hne).off 1 _ hne), ((((((hf.off 0 _ (Ne.symm hne)).off 1 _ (Ne.symm hne)).off 2 _ (Ne.symm hne)).off 3 _ (Ne.symm hne)).s0 a).s1 k),
    ((((((KB.ofBelow (Below.refl _ w)).off 0 _ (.inl rfl)).off 1 _ (.inl rfl)).off 2 _ (.inl rfl)).off 3 _ (.inl rfl)).off 0 _ (.inr rfl)).off 1 _ (.inr rfl)⟩
set_option maxRecDepth 10000000 in
set_option maxHeartbeats 8000000 in
theorem parse_any (s : ByteArray) (w : World) (hs : s.size ≤ maxLen) :
    Calls Tryz.prog 11 #[.string s] w (ParseEnd w (readP s.data.toList)) := by
  have hmf : ∀ (fn : Fn) (first cap : Array Value) (w : World), (Instr.makeFunc fn first cap).run Tryz.prog w = .ok (.func fn first cap) w := fun _ _ _ _ => rfl
  have hwh := fun (pb : Nat) (w : World) h => whole_any pb s w hs h
  have hp := start_PS w s
  have hr := start_RB w s
  have hf := start_FB w s
  have hsz := start_size w s
  have hbel := start_Below w s
  unfold startW at hp hr hf hsz hbel
  generalize readP s.data.toList = R at hwh ⊢
  go_enter_defers Tryz.func11, Tryz.ntmps11
  go_wp2_with fail
  generalize ((w.alloc (.cells #[.int .u8 0, .string ⟨#[]⟩, .slice none 0 0, .slice none 0 0] 26)).alloc (.cells #[.int .i64 0, .int .i64 0] 29)).alloc (.cells #[.string s, .int .i64 0, .int .i64 0, .int .i64 0] 59) = W at *
  rcases R with ⟨i, k⟩ | x
  · go_wp2_with (go_at_call 31; refine (hwh _ _ hp).mono ?_; rintro e w' ⟨hG, he⟩; unfold Pan at he; subst he; have hr' := hr.gb hG (by omega); have hf' : FB w' (w.heap.size + 1) 0 0 := (hG.block _ (by omega) (by simp)).trans hf; obtain ⟨x0, x1, x2, x3⟩ := hr'.cells; obtain ⟨z0, z1, z2, z3⟩ := hr'.frozen; obtain ⟨f0, f1, y0, y1⟩ := hf'.cells)
    unfold bodyPostD
    refine leaves_cons (f := 30) (args := #[.pointer (some ⟨w.heap.size, 0, none⟩), .pointer (some ⟨w.heap.size + 1, 0, none⟩)]) (by simp) (by simp [go_sem]) ?_
    refine (catch_fault _ _ _ _ 0 0 [] w' hr' hf' (by omega)).mono ?_
    rintro e u' w'' ⟨rfl, rfl, hr2, hf2, hk⟩
    obtain ⟨x0, x1, x2, x3⟩ := hr2.cells
    obtain ⟨f0, f1, y0, y1⟩ := hf2.cells
    have hB := parse_below hbel hG hk hsz
    simp [settle, Leaves, results, Tryz.results11, go_sem, x0, x1, x2, x3, f0, f1, ParseEnd, hB]
  · go_wp2_with (go_at_call 31; refine (hwh _ _ hp).mono ?_; rintro e w' ⟨hG, c0, c1, c2, c3, rfl, hV⟩; obtain ⟨k0, t0, ka, kl, kc, la, ll, lc, rfl, rfl, rfl, rfl⟩ := hV.shape; have hr' := hr.gb hG (by omega); have hf' : FB w' (w.heap.size + 1) 0 0 := (hG.block _ (by omega) (by simp)).trans hf; obtain ⟨x0, x1, x2, x3⟩ := hr'.cells; obtain ⟨z0, z1, z2, z3⟩ := hr'.frozen; obtain ⟨f0, f1, y0, y1⟩ := hf'.cells)
    have hT := told_end w' w.heap.size (w.heap.size + 1) (.int .u8 (k0 : Nat)) (.string t0) (.slice ka kl kc) (.slice la ll lc) _ _ _ _ 0 0 0 0 hr' hf' (by omega)
    obtain ⟨W2, hW2, hr2, hf2, hk⟩ := hT
    rw [← hW2]
    clear hW2 x0 x1 x2 x3 z0 z1 z2 z3 f0 f1 y0 y1
    unfold bodyPostD
    refine leaves_cons (f := 30) (args := #[.pointer (some ⟨w.heap.size, 0, none⟩), .pointer (some ⟨w.heap.size + 1, 0, none⟩)]) (by simp) (by simp [go_sem]) ?_
    refine (catch_idle _ _ W2).mono ?_
    rintro e u' w'' ⟨rfl, rfl, hB2⟩
    obtain ⟨x0, x1, x2, x3⟩ := (hr2.below hB2).cells
    obtain ⟨f0, f1, y0, y1⟩ := FB.cells (show FB w'' (w.heap.size + 1) 0 0 from (hB2.block _ (Array.getElem?_eq_some_iff.1 hf2).1).trans hf2)
    have hB := parse_below hbel hG (hk.trans (KB.ofBelow hB2)) hsz
    have hV2 := IsV.stays ((hk.stays (lo := W.heap.size) (by omega) (by omega)).trans (Below.stays hB2 _)) (show w.heap.size ≤ W.heap.size by omega) _ _ _ _ _ hV
    simp [settle, Leaves, results, Tryz.results11, go_sem, x0, x1, x2, x3, f0, f1, ParseEnd, hB]
    exact ⟨_, _, _, _, ⟨rfl, rfl, rfl, rfl⟩, hV2⟩
end Go.Proofs.YtakdhfjlhkejdaaGreatDoor

/-
  CONTRACTS of package json: Copy.
-/
set_option linter.unusedVariables false
namespace Go.Proofs.YtakdhfjlhkejdaaGreatDoor
open Go.RowKit
theorem infoSlice : (Tryz.prog.info? 24).map (fun i => (i.zero, i.size, i.bytes)) = some (some (.slice none 0 0), 1, 24) := by kernel_rfl
theorem copy_start (w0 : World) (v : JV) (c0 c1 c2 c3 : Value) (hv : IsV w0 0 v c0 c1 c2 c3) (hs : sizeV v ≤ 1000000000000) (hk : keysV v ≤ 1000000000000) :
    CopyI w0 w0.heap.size v w0.heap.size (sizeV v) (sizeV v) [(w0.heap.size, [v], 1)] (w0.heap.size + 1) 1
      ((w0.alloc (.cells #[c0, c1, c2, c3] 26)).alloc (.cells #[.slice (some ⟨w0.heap.size, 0, none⟩) 1 1] 24)) := by
  have q1 : ((w0.alloc (.cells #[c0, c1, c2, c3] 26)).alloc (.cells #[.slice (some ⟨w0.heap.size, 0, none⟩) 1 1] 24)).heap[w0.heap.size]? = some (.cells #[c0, c1, c2, c3] 26 (0, 0)) :=
    (Lib.alloc_old _ _ _ (by simp)).trans (heap_alloc_new _ _)
  have q2 : ((w0.alloc (.cells #[c0, c1, c2, c3] 26)).alloc (.cells #[.slice (some ⟨w0.heap.size, 0, none⟩) 1 1] 24)).heap[w0.heap.size + 1]? = some (.cells #[.slice (some ⟨w0.heap.size, 0, none⟩) 1 1] 24 (0, 0)) := heap_alloc2_new _ _ _
  refine ⟨⟨rfl, .inr ⟨_, 1, _, rfl, by omega, q2, Nat.le_refl _, by decide, rfl, rfl⟩⟩, ?_, by simp, .inl ⟨1, by simp⟩, Nat.le_refl _, by simp [totC, sizeL], Nat.le_refl _, Nat.le_refl _, ((Below.refl _ w0).alloc (Nat.le_refl _) _).alloc (by simp) _⟩
  intro e he
  rw [List.mem_singleton] at he
  subst he
  refine ⟨Nat.le_refl _, by simp, by simp, by simpa [sizeL] using hs, by simpa [keysL] using hk, _, q1, ?_⟩
  intro j x _ hx
  rcases j with _ | j
  · simp only [List.getElem?_cons_zero, Option.some.injEq] at hx
    subst hx
    exact ⟨c0, c1, c2, c3, rfl, rfl, rfl, rfl, hv⟩
  · simp at hx
set_option maxRecDepth 10000000 in
set_option maxHeartbeats 8000000 in
theorem copyP_any (v : JV) (c0 c1 c2 c3 : Value) (w : World) (hv : IsV w 0 v c0 c1 c2 c3) (hs : sizeV v ≤ 1000000000000) (hk : keysV v ≤ 1000000000000) :
    Calls Tryz.prog 26 #[.agg #[c0, c1, c2, c3]] w fun e w' => ∃ d0 d1 d2 d3, e = .returned (.agg #[d0, d1, d2, d3]) ∧ IsV (plainW w') w.heap.size v d0 d1 d2 d3 ∧ Below w.heap.size w w' := by
  obtain ⟨k0, t0, ka, kl, kc, la, ll, lc, rfl, rfl, rfl, rfl⟩ := hv.shape
  have hb0 : ∀ A B : Obj, Below w.heap.size w ((w.alloc A).alloc B) := fun A B => ((Below.refl w.heap.size w).alloc (Nat.le_refl _) A).alloc (by simp) B
  go_enter Tryz.func26, Tryz.ntmps26
  go_wp2_with fail
  have s0 : ((w.alloc (.cells #[.int .u8 (k0 : Nat), .string t0, .slice ka kl kc, .slice la ll lc] 26)).alloc (.cells #[.int .u8 0, .string ⟨#[]⟩, .slice none 0 0, .slice none 0 0] 26)).heap.size = w.heap.size + 1 + 1 := by rw [World.size_alloc, World.size_alloc]
  have hbw := hb0 (.cells #[.int .u8 (k0 : Nat), .string t0, .slice ka kl kc, .slice la ll lc] 26) (.cells #[.int .u8 0, .string ⟨#[]⟩, .slice none 0 0, .slice none 0 0] 26)
  have hv0 := IsV.stays (Below.stays hbw 0) (Nat.le_refl 0) _ _ _ _ _ hv
  have hrb0 : RB ((w.alloc (.cells #[.int .u8 (k0 : Nat), .string t0, .slice ka kl kc, .slice la ll lc] 26)).alloc (.cells #[.int .u8 0, .string ⟨#[]⟩, .slice none 0 0, .slice none 0 0] 26)) (w.heap.size + 1) (.int .u8 0) (.string ⟨#[]⟩) (.slice none 0 0) (.slice none 0 0) := heap_alloc2_new _ _ _
  generalize (w.alloc (.cells #[.int .u8 (k0 : Nat), .string t0, .slice ka kl kc, .slice la ll lc] 26)).alloc (.cells #[.int .u8 0, .string ⟨#[]⟩, .slice none 0 0, .slice none 0 0] 26) = w0 at *
  have hS := copy_start w0 v _ _ _ _ hv0 hs hk
  rw [s0] at hS
  generalize hwb : w.heap.size + 1 + 1 = wb at *
  have Hwb := Lib.hid hwb
  have S0 := Lib.hid s0
  clear hv hv0 hb0 s0 hwb
  go_loopw [4] (fun vl wr => ∃ m S r cap, vl = .slice (some ⟨r, 0, none⟩) S.length cap ∧ CopyI w0 wb v wb (sizeV v) m S r cap wr) (fun vl wr => leastN fun m => ∃ S r cap, vl = .slice (some ⟨r, 0, none⟩) S.length cap ∧ CopyI w0 wb v wb (sizeV v) m S r cap wr)
  case atStart => exact ⟨_, _, _, _, rfl, hS⟩
  case round =>
    clear hS
    have hle := leastN_spec hrel
    generalize hm0 : (leastN fun m => ∃ S r cap, u4 = .slice (some ⟨r, 0, none⟩) S.length cap ∧ CopyI w0 wb v wb (sizeV v) m S r cap wr) = m0 at hle
    have Hm0 := Lib.hid hm0
    clear hm0 hrel
    obtain ⟨S, r, cap, hu4, hI⟩ := hle
    rcases S.eq_nil_or_concat with rfl | ⟨S1, e, rfl⟩
    · subst hu4
      have hroot := hI.root
      rcases hroot with ⟨c, hc⟩ | hroot
      · simp at hc
      · have hr1 := CRow.done (fun b l h => by obtain ⟨c, hc⟩ := h; simp at hc) _ _ _ hroot
        have hr2 := IsRow.stays (hideP_plain wb) (Nat.le_refl wb) _ _ _ (Nat.le_refl _) hr1
        obtain ⟨d0, d1, d2, d3, e0, e1, e2, e3, hV⟩ := hr2.at' [v] wb 0 0 v rfl
        obtain ⟨k1, t1, qa, ql, qc, ra, rl, rc, rfl, rfl, rfl, rfl⟩ := hV.shape
        simp only [Nat.zero_mul, Nat.zero_add, Nat.add_zero] at e0 e1 e2 e3
        have e0 := (hideP_some e0).2.2
        have e1 := (hideP_some e1).2.2
        have e2 := (hideP_some e2).2.2
        have e3 := (hideP_some e3).2.2
        have hrb : RB wr (w.heap.size + 1) (.int .u8 0) (.string ⟨#[]⟩) (.slice none 0 0) (.slice none 0 0) := (hI.bel.block _ (by rw [S0.out, ← Hwb.out]; omega)).trans hrb0
        obtain ⟨x0, x1, x2, x3⟩ := hrb.cells
        obtain ⟨z0, z1, z2, z3⟩ := hrb.frozen
        clear hroot hr1 hr2
        go_wp2_with fail
        have hRB := (((hrb.s0 (.int .u8 (k1 : Nat))).s1 (.string t1)).s2 (.slice qa ql qc)).s3 (.slice ra rl rc)
        have hKB : KB (w.heap.size + 1) (w.heap.size + 1) wr ((((wr.setCell ⟨w.heap.size + 1, 0, none⟩ (.int .u8 (k1 : Nat))).setCell ⟨w.heap.size + 1, 1, none⟩ (.string t1)).setCell ⟨w.heap.size + 1, 2, none⟩ (.slice qa ql qc)).setCell ⟨w.heap.size + 1, 3, none⟩ (.slice ra rl rc)) :=
          ((((KB.ofBelow (Below.refl _ wr)).off 0 _ (.inl rfl)).off 1 _ (.inl rfl)).off 2 _ (.inl rfl)).off 3 _ (.inl rfl)
        generalize (((wr.setCell ⟨w.heap.size + 1, 0, none⟩ (.int .u8 (k1 : Nat))).setCell ⟨w.heap.size + 1, 1, none⟩ (.string t1)).setCell ⟨w.heap.size + 1, 2, none⟩ (.slice qa ql qc)).setCell ⟨w.heap.size + 1, 3, none⟩ (.slice ra rl rc) = wE at *
        have hlo := Hwb.out
        have hST : Stays wb (plainW wr) (plainW wE) := fun y u hl hu => by
          obtain ⟨_, hp0, hu0⟩ := hideP_some hu
          have hq := hKB.block y.block (cell_lt hu0) (by omega) (by omega)
          exact hideP_of rfl ((plainB_eq hq).trans hp0) ((World.cell?_of_block hq).trans hu0)
        have hV2 := IsV.stays hST (show w.heap.size ≤ wb by omega) _ _ _ _ _ hV
        have hws : w.heap.size + 1 < wr.heap.size := hrb.lt
        have hBE : Below w.heap.size w wE := by
          have h1 := hbw.trans (hI.bel.mono hbw.size)
          exact ⟨hKB.os.trans h1.os, hKB.tape.trans h1.tape, hKB.output.trans h1.output, Nat.le_trans h1.size hKB.size, fun q hq => (hKB.block q (by omega) (by omega) (by omega)).trans (h1.block q hq)⟩
        obtain ⟨f0, f1, f2, f3⟩ := hRB.cells
        refine bodyPost_ret (v := .agg #[.int .u8 (k1 : Nat), .string t1, .slice qa ql qc, .slice ra rl rc]) ?_ rfl ⟨_, _, _, _, rfl, hV2, hBE⟩
        simp [results, Tryz.results26, go_sem, f0, f1, f2, f3]
    · rw [List.concat_eq_append] at hI hu4
      rw [List.length_append, List.length_singleton] at hu4
      subst hu4
      obtain ⟨g, l, c⟩ := e
      obtain ⟨cur, hJ⟩ := hI.first
      obtain ⟨hc0, hcap, hcap2, hpos, hsl, hkl⟩ := hI.top
      have hN := hI.le
      obtain ⟨n, hn⟩ : ∃ n, l.length = n := ⟨_, rfl⟩
      rw [hn] at hc0 hpos
      have Hn := Lib.hid hn
      have hn12 : n ≤ 1000000000000 := by rw [← hn]; exact Nat.le_trans (len_sizeL l) hsl
      clear hn hI
      go_wp2_with fail
      clear hc0
      go_loopw [4, 28] (fun v4 v28 wr => ∃ (i : Nat) (S : List CE) (r cap : Nat) (cur : Array Value), v28 = .int .i64 i ∧ i ≤ n ∧ v4 = .slice (some ⟨r, 0, none⟩) S.length cap ∧ CopyJ w0 wb v wb m0 l g i S r cap wr cur) (fun _ v28 _ => n - (intOf v28).toNat)
      case atStart => exact ⟨0, S1, r, cap, cur, rfl, Nat.zero_le _, rfl, hJ⟩
      case round =>
        clear hJ
        obtain ⟨i, S, r, cap, cur, rfl, hi, rfl, hJ⟩ := hrel
        by_cases hlt : i < n
        · obtain ⟨x, hx⟩ : ∃ x, l[i]? = some x := ⟨_, List.getElem?_eq_getElem (by rw [Hn.out]; exact hlt)⟩
          obtain ⟨kx, tx, ksx, lx⟩ := x
          obtain ⟨c0, c1, c2, c3, q0, q1, q2, q3, hVx⟩ := hJ.old i _ (Nat.le_refl _) hx
          obtain ⟨kxa, kxp, lxa, lxp, rfl, rfl, rfl, rfl, hKx, hLx⟩ := IsV.opened hVx
          have hxin : keysV (.mk kx tx ksx lx) ≤ keysL l := keysV_in hx
          have hxin2 : sizeV (.mk kx tx ksx lx) ≤ sizeL l := sizeV_in hx
          simp only [sizeV, keysV] at hxin hxin2
          have z1 := len_sizeL lx
          have b1 : ksx.length ≤ 1000000000000 := by omega
          have b2 : lx.length ≤ 1000000000000 := by omega
          have hSl : S.length ≤ 1000000000000 := by have := hJ.short; omega
          clear hxin hxin2 z1 hVx q0 q1
          have glt : g < wr.heap.size := (Array.getElem?_eq_some_iff.1 hJ.row).1
          have rlt : r < wr.heap.size := (hJ.own.lt r rfl).2
          have hgw : w0.heap.size ≤ g := by rw [S0.out]; exact hJ.gnew
          have hrw : w0.heap.size ≤ r := by rw [S0.out]; exact hJ.rnew
          have e2 := row_cell hJ.row q2
          have n0 : (0 : Int) ≤ (i : Int) := Int.natCast_nonneg _
          have n1 : (i : Int) < (n : Int) := by omega
          rcases Nat.eq_zero_or_pos lx.length with h0 | h0
          · have hCV := fun (w2 : World) (hb : Below w0.heap.size w0 w2) => cloneV_any w0 lx lxa lxp w2 hLx hb b2
            simp only [h0] at hCV
            go_wp2_with (first
              | (go_at_call 58; go_loud (refine (cloneKP_any ksx _ wr (keys_on hJ.bel hKx) b1).mono ?_; rintro e w1 ⟨ka, kc, rfl, hK1, hb1⟩; have hrow1 := (hb1.block g glt).trans hJ.row; have y2 := row_cell hrow1 q2; have fz1 := Lib.frozen_of_heap hrow1 (i * 4 + 2); have hrow2 := heap_set hrow1 (i * 4 + 2) (.slice ka ksx.length kc); have y3 := row_cell hrow2 ((Array.getElem?_setIfInBounds_ne (by omega)).trans q3); have hbw2 : Below w0.heap.size w0 (w1.setCell ⟨g, i * 4 + 2, none⟩ (.slice ka ksx.length kc)) := (hJ.bel.trans (hb1.mono hJ.bel.size)).setCell (p := ⟨g, i * 4 + 2, none⟩) hgw _))
              | (go_at_call 59; go_loud (refine (hCV _ hbw2).mono ?_; rintro e w3 ⟨a', cap', rfl, hb3, hcase⟩; have hrow3 := (hb3.block g (by rw [set_size]; have := hb1.size; omega)).trans hrow2; have y4 := row_cell hrow3 ((Array.getElem?_setIfInBounds_ne (by omega)).trans q3); have fz3 := Lib.frozen_of_heap hrow3 (i * 4 + 3); have hrow4 := heap_set hrow3 (i * 4 + 3) (.slice a' 0 cap'); have y5 := row_cell hrow4 (cur_two q2 q3).2.2)))
            go_roundw
            case rel => exact ⟨i + 1, S, r, cap, _, by go_num, by omega, rfl, hJ.skip hx q2 q3 h0 hb1 hb3 hK1 hgw⟩
            case measure => simp [intOf]; omega
          · obtain ⟨i0, hi0, hz0, hz1, hz2⟩ := info_parts infoSlice
            go_wp2_with (first
              | (go_at_call 58; go_loud (refine (cloneKP_any ksx _ wr (keys_on hJ.bel hKx) b1).mono ?_; rintro e w1 ⟨ka, kc, rfl, hK1, hb1⟩; have hrow1 := (hb1.block g glt).trans hJ.row; have y2 := row_cell hrow1 q2; have fz1 := Lib.frozen_of_heap hrow1 (i * 4 + 2); have hrow2 := heap_set hrow1 (i * 4 + 2) (.slice ka ksx.length kc); have y3 := row_cell hrow2 ((Array.getElem?_setIfInBounds_ne (by omega)).trans q3); have hbw2 : Below w0.heap.size w0 (w1.setCell ⟨g, i * 4 + 2, none⟩ (.slice ka ksx.length kc)) := (hJ.bel.trans (hb1.mono hJ.bel.size)).setCell (p := ⟨g, i * 4 + 2, none⟩) hgw _))
              | (go_at_call 59; go_loud (refine (cloneV_any w0 lx lxa lxp _ hLx hbw2 b2).mono ?_; rintro e w3 ⟨a', cap', rfl, hb3, hcase⟩; obtain ⟨g', cur', rfl, hg', hc', ho'⟩ := hcase.resolve_left (fun h => by rw [h] at h0; simp at h0); have hrow3 := (hb3.block g (by rw [set_size]; have := hb1.size; omega)).trans hrow2; have y4 := row_cell hrow3 ((Array.getElem?_setIfInBounds_ne (by omega)).trans q3); have fz3 := Lib.frozen_of_heap hrow3 (i * 4 + 3); have hrow4 := heap_set hrow3 (i * 4 + 3) (.slice (some ⟨g', 0, none⟩) lx.length cap'); have y5 := row_cell hrow4 (cur_two q2 q3).2.2; have hT := copy_two (q := i * 4 + 3) (y := .slice (some ⟨g', 0, none⟩) lx.length cap') hb1 hb3 hJ.row hJ.bel hgw; have ho4 := own_eq hJ.own (hT.2.1 r rlt (Ne.symm hJ.gfar)); have hs4 := hT.2.2.2.2.2.size))
              | (at_builtin; go_loud (refine wpList_append_lies _ rfl _ _ _ rfl wb 24 i0 _ 1 24 Tryz.underlying85 hi0 hz0 hz1 hz2 rfl (by omega) (.slice (some ⟨r, 0, none⟩) S.length cap) S.length (S.map sliceOf) rfl (ho4.alloc _) _ 1 1 [.slice (some ⟨g', 0, none⟩) lx.length cap'] rfl rfl (World.news_of_block (cs := #[Value.slice (some ⟨g', 0, none⟩) lx.length cap']) (t := 24) (fr := (0, 0)) (new_behind w3 _ _ _ _)) (by simp [Value.oneCell']) (by omega) (by unfold maxLen; omega) (by omega) (by rw [World.size_alloc, ← S0.out]; omega) _ rfl ?_; intro r2 cap2 w6 hown6 hgrow hat hlt6)))
            go_roundw
            case rel => exact ⟨i + 1, S ++ [(g', lx, cap')], r2, cap2, _, by go_num, by omega, by rw [List.length_append]; rfl, hJ.push hx q2 q3 h0 hb1 hb3 hK1 hgw hrw hsl hkl hg' hc' ho' hgrow hat hown6⟩
            case measure => simp [intOf]; omega
        · have hin : i = n := by omega
          rw [hin, ← Hn.out] at hJ
          obtain ⟨k, hk, hI⟩ := hJ.last (by rw [Hn.out]; exact hpos) hN
          have hnn : ¬ ((i : Int) < (n : Int)) := by omega
          go_wp2_with fail
          go_roundw
          case rel => exact ⟨k, S, r, cap, rfl, hI⟩
          case measure => rw [Hm0.out]; exact Nat.lt_of_le_of_lt (leastN_le ⟨S, r, cap, rfl, hI⟩) hk
theorem copy_any (v : JV) (c0 c1 c2 c3 : Value) (w : World) (hv : IsV w 0 v c0 c1 c2 c3) (hs : sizeV v ≤ 1000000000000) (hk : keysV v ≤ 1000000000000) :
    Calls Tryz.prog 26 #[.agg #[c0, c1, c2, c3]] w fun e w' => ∃ d0 d1 d2 d3, e = .returned (.agg #[d0, d1, d2, d3]) ∧ IsV w' w.heap.size v d0 d1 d2 d3 ∧ Below w.heap.size w w' := by
  refine (copyP_any v c0 c1 c2 c3 w hv hs hk).mono ?_
  rintro e w' ⟨d0, d1, d2, d3, rfl, h, hb⟩
  exact ⟨d0, d1, d2, d3, rfl, IsV.stays (hideP_stays _) (Nat.le_refl _) _ _ _ _ _ h, hb⟩
end Go.Proofs.YtakdhfjlhkejdaaGreatDoor

/-
  CONTRACTS of package json: Get.
-/
set_option linter.unusedVariables false
namespace Go.Proofs.YtakdhfjlhkejdaaGreatDoor
open Go.RowKit
theorem index_any (ks : List ByteArray) (c : Value) (x : ByteArray) (w : World) (hk : IsKeys w 0 ks c) (hn : ks.length ≤ 1000000000000) :
    Calls Tryz.prog 52 #[c, .string x] w fun e w' => e = .returned (.int .i64 (Lib.idxOfS ks x)) ∧ w' = w := by
  obtain ⟨a, cap, rfl, hk⟩ := hk
  rcases hk with rfl | ⟨b, off, rfl, _, hc⟩
  · exact Tryz.slices_Index_string_empty a cap x w
  · have := Tryz.slices_Index_string b off ks.length cap ks x w (Nat.le_refl _) (by omega) hc
    rw [List.take_length] at this
    exact this
/-- the value that stands under a key -/
def getM (k : Nat) (ks : List ByteArray) (l : List JV) (key : ByteArray) : Option JV := if k = 7 ∧ 0 ≤ Lib.idxOfS ks key ∧ Lib.idxOfS ks key < (l.length : Int) then l[(Lib.idxOfS ks key).toNat]? else none
def GetEnd (w : World) (r : Option JV) (e : Ending) (w' : World) : Prop :=
  Below w.heap.size w w' ∧ match r with
  | none => e = .returned (.tuple #[.agg #[.int .u8 0, .string ⟨#[]⟩, .slice none 0 0, .slice none 0 0], .bool false])
  | some x => ∃ d0 d1 d2 d3, e = .returned (.tuple #[.agg #[d0, d1, d2, d3], .bool true]) ∧ IsV w' w.heap.size x d0 d1 d2 d3
set_option maxRecDepth 10000000 in
set_option maxHeartbeats 8000000 in
theorem get_any (k : Nat) (t key : ByteArray) (ks : List ByteArray) (l : List JV) (c0 c1 c2 c3 : Value) (w : World) (hv : IsV w 0 (.mk k t ks l) c0 c1 c2 c3) (hs : sizeL l ≤ 1000000000000) (hk : keysV (.mk k t ks l) ≤ 1000000000000) :
    Calls Tryz.prog 21 #[.agg #[c0, c1, c2, c3], .string key] w (GetEnd w (getM k ks l key)) := by
  obtain ⟨kxa, kxp, lxa, lxp, rfl, rfl, rfl, rfl, hKx, hLx⟩ := IsV.opened hv
  simp only [keysV] at hk
  have hll := Nat.le_trans (len_sizeL l) hs
  have hbel : ∀ A B : Obj, Below w.heap.size w ((w.alloc A).alloc B) := fun A B => ((Below.refl w.heap.size w).alloc (Nat.le_refl _) A).alloc (by simp) B
  have hI := fun (w2 : World) (hb : Below w.heap.size w w2) => index_any ks _ key w2 (keys_on hb hKx) (by omega)
  obtain ⟨M, hM⟩ : ∃ M, M = getM k ks l key := ⟨_, rfl⟩
  rw [← hM]
  unfold getM at hM
  generalize Lib.idxOfS ks key = J at hI hM
  have HM := Lib.hid hM
  clear hM
  by_cases hk7 : k = 7
  · subst hk7
    by_cases h0 : 0 ≤ J
    · by_cases hlt : J < (l.length : Int)
      · skip
        obtain ⟨j, rfl⟩ : ∃ j : Nat, J = j := ⟨J.toNat, by omega⟩
        have hj : j < l.length := by omega
        obtain ⟨x, hx⟩ : ∃ x, l[j]? = some x := ⟨_, List.getElem?_eq_getElem hj⟩
        have hN : M = some x := by rw [HM.out, if_pos ⟨rfl, h0, hlt⟩]; exact hx
        subst hN
        obtain ⟨al, cl, e, hl⟩ := hLx
        cases e
        obtain ⟨b, off, rfl, hr⟩ := hl.resolve_left (fun h => by rw [h] at hj; simp at hj)
        obtain ⟨c0, c1, c2, c3, e0, e1, e2, e3, hVx⟩ := hr.at' l b off j _ hx
        have hxs := sizeV_in hx
        have hxk := keysV_in hx
        obtain ⟨k2, t2, xa, xl, xc, ya, yl, yc, rfl, rfl, rfl, rfl⟩ := hVx.shape
        have hb2 := hbel (.cells #[.int .u8 7, .string t, .slice kxa ks.length kxp, .slice (some ⟨b, off, none⟩) l.length lxp] 26) (.cells #[.int .u8 0, .string ⟨#[]⟩, .slice none 0 0, .slice none 0 0] 26)
        have hR : RB ((w.alloc (.cells #[.int .u8 7, .string t, .slice kxa ks.length kxp, .slice (some ⟨b, off, none⟩) l.length lxp] 26)).alloc (.cells #[.int .u8 0, .string ⟨#[]⟩, .slice none 0 0, .slice none 0 0] 26)) (w.heap.size + 1) (.int .u8 0) (.string ⟨#[]⟩) (.slice none 0 0) (.slice none 0 0) := heap_alloc2_new _ _ _
        have hV2 := IsV.stays (Below.stays hb2 0) (Nat.le_refl 0) _ _ _ _ _ hVx
        have y0 := cell_on hb2 e0
        have y1 := cell_on hb2 e1
        have y2 := cell_on hb2 e2
        have y3 := cell_on hb2 e3
        have n0 : (0 : Int) ≤ (j : Int) := Int.natCast_nonneg _
        clear e0 e1 e2 e3 hVx hr hl
        go_enter Tryz.func21, Tryz.ntmps21
        go_wp2_with (first
          | (go_at_call 52; go_loud (refine (hI _ (hbel _ _)).mono ?_; rintro e w1 ⟨rfl, rfl⟩))
          | (go_at_call 26; go_loud (refine (copy_any x _ _ _ _ _ hV2 (by omega) (by omega)).mono ?_; rintro e w3 ⟨d0, d1, d2, d3, rfl, hD, hB3⟩; obtain ⟨k1, t1, qa, ql, qc, ra, rl, rc, rfl, rfl, rfl, rfl⟩ := hD.shape; have hR3 := hR.below hB3; obtain ⟨f0, f1, f2, f3⟩ := hR3.cells; obtain ⟨z0, z1, z2, z3⟩ := hR3.frozen)))
        have hs2 : ((w.alloc (.cells #[.int .u8 7, .string t, .slice kxa ks.length kxp, .slice (some ⟨b, off, none⟩) l.length lxp] 26)).alloc (.cells #[.int .u8 0, .string ⟨#[]⟩, .slice none 0 0, .slice none 0 0] 26)).heap.size = w.heap.size + 2 := by rw [World.size_alloc, World.size_alloc]
        have hRB := (((hR3.s0 (.int .u8 (k1 : Nat))).s1 (.string t1)).s2 (.slice qa ql qc)).s3 (.slice ra rl rc)
        have hKB : KB (w.heap.size + 1) (w.heap.size + 1) w3 ((((w3.setCell ⟨w.heap.size + 1, 0, none⟩ (.int .u8 (k1 : Nat))).setCell ⟨w.heap.size + 1, 1, none⟩ (.string t1)).setCell ⟨w.heap.size + 1, 2, none⟩ (.slice qa ql qc)).setCell ⟨w.heap.size + 1, 3, none⟩ (.slice ra rl rc)) :=
          ((((KB.ofBelow (Below.refl _ w3)).off 0 _ (.inl rfl)).off 1 _ (.inl rfl)).off 2 _ (.inl rfl)).off 3 _ (.inl rfl)
        generalize (((w3.setCell ⟨w.heap.size + 1, 0, none⟩ (.int .u8 (k1 : Nat))).setCell ⟨w.heap.size + 1, 1, none⟩ (.string t1)).setCell ⟨w.heap.size + 1, 2, none⟩ (.slice qa ql qc)).setCell ⟨w.heap.size + 1, 3, none⟩ (.slice ra rl rc) = wE at *
        have h1 := hb2.trans (hB3.mono hb2.size)
        have hws : w.heap.size + 2 ≤ w3.heap.size := by rw [← hs2]; exact hB3.size
        rw [hs2] at hD
        have hV3 := IsV.stays (hKB.stays (lo := w.heap.size + 2) (by omega) (by omega)) (show w.heap.size ≤ w.heap.size + 2 by omega) _ _ _ _ _ hD
        have hBE : Below w.heap.size w wE :=
          ⟨hKB.os.trans h1.os, hKB.tape.trans h1.tape, hKB.output.trans h1.output, Nat.le_trans h1.size hKB.size, fun q hq => (hKB.block q (by omega) (by omega) (by omega)).trans (h1.block q hq)⟩
        obtain ⟨g0, g1, g2, g3⟩ := hRB.cells
        refine bodyPost_ret (v := .tuple #[.agg #[.int .u8 (k1 : Nat), .string t1, .slice qa ql qc, .slice ra rl rc], .bool true]) ?_ rfl ⟨hBE, _, _, _, _, rfl, hV3⟩
        simp [results, Tryz.results21, go_sem, g0, g1, g2, g3]
      · have hN : M = none := by rw [HM.out, if_neg (fun h => hlt h.2.2)]
        subst hN
        have h1 : ¬ (J < 0) := by omega
        have h2 : (l.length : Int) ≤ J := by omega
        go_enter Tryz.func21, Tryz.ntmps21
        go_wp2_with (first
          | (go_at_call 52; go_loud (refine (hI _ (hbel _ _)).mono ?_; rintro e w1 ⟨rfl, rfl⟩)))
        have hR : RB ((w.alloc (.cells #[.int .u8 7, .string t, .slice kxa ks.length kxp, .slice lxa l.length lxp] 26)).alloc (.cells #[.int .u8 0, .string ⟨#[]⟩, .slice none 0 0, .slice none 0 0] 26)) (w.heap.size + 1) (.int .u8 0) (.string ⟨#[]⟩) (.slice none 0 0) (.slice none 0 0) := heap_alloc2_new _ _ _
        obtain ⟨f0, f1, f2, f3⟩ := hR.cells
        refine bodyPost_ret (v := .tuple #[.agg #[.int .u8 0, .string ⟨#[]⟩, .slice none 0 0, .slice none 0 0], .bool false]) ?_ rfl ⟨hbel _ _, rfl⟩
        simp [results, Tryz.results21, go_sem, f0, f1, f2, f3]
    · have hN : M = none := by rw [HM.out, if_neg (fun h => h0 h.2.1)]
      subst hN
      have h1 : J < 0 := by omega
      go_enter Tryz.func21, Tryz.ntmps21
      go_wp2_with (first
        | (go_at_call 52; go_loud (refine (hI _ (hbel _ _)).mono ?_; rintro e w1 ⟨rfl, rfl⟩)))
      have hR : RB ((w.alloc (.cells #[.int .u8 7, .string t, .slice kxa ks.length kxp, .slice lxa l.length lxp] 26)).alloc (.cells #[.int .u8 0, .string ⟨#[]⟩, .slice none 0 0, .slice none 0 0] 26)) (w.heap.size + 1) (.int .u8 0) (.string ⟨#[]⟩) (.slice none 0 0) (.slice none 0 0) := heap_alloc2_new _ _ _
      obtain ⟨f0, f1, f2, f3⟩ := hR.cells
      refine bodyPost_ret (v := .tuple #[.agg #[.int .u8 0, .string ⟨#[]⟩, .slice none 0 0, .slice none 0 0], .bool false]) ?_ rfl ⟨hbel _ _, rfl⟩
      simp [results, Tryz.results21, go_sem, f0, f1, f2, f3]
  · have h7 : ¬ ((k : Int) = 7) := by omega
    have hN : M = none := by rw [HM.out, if_neg (fun h => hk7 h.1)]
    subst hN
    go_enter Tryz.func21, Tryz.ntmps21
    go_wp2_with (first
      | (go_at_call 52; go_loud (refine (hI _ (hbel _ _)).mono ?_; rintro e w1 ⟨rfl, rfl⟩)))
    have hR : RB ((w.alloc (.cells #[.int .u8 (k : Nat), .string t, .slice kxa ks.length kxp, .slice lxa l.length lxp] 26)).alloc (.cells #[.int .u8 0, .string ⟨#[]⟩, .slice none 0 0, .slice none 0 0] 26)) (w.heap.size + 1) (.int .u8 0) (.string ⟨#[]⟩) (.slice none 0 0) (.slice none 0 0) := heap_alloc2_new _ _ _
    obtain ⟨f0, f1, f2, f3⟩ := hR.cells
    refine bodyPost_ret (v := .tuple #[.agg #[.int .u8 0, .string ⟨#[]⟩, .slice none 0 0, .slice none 0 0], .bool false]) ?_ rfl ⟨hbel _ _, rfl⟩
    simp [results, Tryz.results21, go_sem, f0, f1, f2, f3]
end Go.Proofs.YtakdhfjlhkejdaaGreatDoor

/-
  CONTRACT of package json's Int: what it answers of any value, where the library's two error variables hold errors; and that the world is as it was but for new blocks.
-/
namespace Go.Proofs.YtakdhfjlhkejdaaGreatDoor
open Go.RowKit
set_option linter.unusedVariables false

theorem bcell {W w1 : World} (hb : Below W.heap.size W w1) : (∀ b o, b < W.heap.size → w1.cell? ⟨b, o, none⟩ = W.cell? ⟨b, o, none⟩) ∧ (∀ b o, b < W.heap.size → w1.frozen? ⟨b, o, none⟩ = W.frozen? ⟨b, o, none⟩) :=
  ⟨fun b o h => hb.cell (p := ⟨b, o, none⟩) h, fun b o h => hb.frozen (p := ⟨b, o, none⟩) h⟩
/-- the library's two variables hold errors -/
def Vars (w : World) : Prop :=
  (∃ t p, w.cell? ⟨1, 0, none⟩ = some (.iface t p)) ∧ (∃ t p, w.cell? ⟨2, 0, none⟩ = some (.iface t p)) ∧ 1 < w.heap.size ∧ 2 < w.heap.size
theorem Vars.below {w w' : World} (h : Vars w) (hb : Below w.heap.size w w') : Vars w' := by
  obtain ⟨⟨t, p, h1⟩, ⟨t', p', h2⟩, l1, l2⟩ := h
  exact ⟨⟨t, p, (hb.cell (p := ⟨_, 0, none⟩) l1).trans h1⟩, ⟨t', p', (hb.cell (p := ⟨_, 0, none⟩) l2).trans h2⟩, Nat.lt_of_lt_of_le l1 hb.size, Nat.lt_of_lt_of_le l2 hb.size⟩

def intO (k : Int) (t : ByteArray) : Option Int := if k == 4 && numS t then (match Lib.parseIntB 64 t.data.toList with | .ok v => some v | _ => none) else none
def intN (k : Int) (t : ByteArray) : Int := (intO k t).getD 0
def intB (k : Int) (t : ByteArray) : Bool := (intO k t).isSome
theorem ret_int_no {k : Int} {t : ByteArray} (h : intO k t = none) : Ending.returned (.tuple #[.int .i64 0, .bool false]) = .returned (.tuple #[.int .i64 (intN k t), .bool (intB k t)]) := by
  unfold intN intB
  rw [h]
  rfl
theorem ret_int_yes {k : Int} {t : ByteArray} {v : Int} (h : intO k t = some v) : Ending.returned (.tuple #[.int .i64 v, .bool true]) = .returned (.tuple #[.int .i64 (intN k t), .bool (intB k t)]) := by
  unfold intN intB
  rw [h]
  rfl
set_option maxHeartbeats 2000000 in
theorem int_any (k : Int) (t : ByteArray) (kv lv : Value) (w : World) (hv : Vars w) (ht : t.size ≤ 140737488355328) :
    Calls Tryz.prog 23 #[.agg #[.int .u8 k, .string t, kv, lv]] w fun e w' => e = .returned (.tuple #[.int .i64 (intN k t), .bool (intB k t)]) ∧ Below w.heap.size w w' := by
  have hm : t.size ≤ maxLen := by unfold maxLen; omega
  cases hk : (k == 4)
  · have hk2 : (k != 4) = true := by simp [bne, hk]
    have Hf : Hid (intO k t = none) := by unfold intO; rw [hk]; exact rfl
    clear hv
    go_enter Tryz.func23, Tryz.ntmps23
    go_wp2_with fail
    go_ret2
    exact ⟨ret_int_no Hf.out, (Below.refl _ _).alloc (Nat.le_refl _) _⟩
  · have hk2 : (k != 4) = false := by simp [bne, hk]
    cases hn : numS t
    · have Hf : Hid (intO k t = none) := by unfold intO; rw [hk, hn]; exact rfl
      clear hv
      go_enter Tryz.func23, Tryz.ntmps23
      go_wp2_with (go_at_call 53; refine (isNumber_any _ _ hm).mono ?_; rintro e w1 ⟨rfl, hb1⟩)
      go_ret2
      exact ⟨ret_int_no Hf.out, ((Below.refl _ _).alloc (Nat.le_refl _) _).trans (hb1.mono (by simp))⟩
    · cases hp : Lib.parseIntB 64 t.data.toList
      · rename_i v
        have Hf : Hid (intO k t = some v) := by unfold intO; rw [hk, hn, hp]; exact rfl
        have Hp := Lib.hid hp
        clear hp
        have Hv := Lib.hid hv
        clear hv
        go_enter Tryz.func23, Tryz.ntmps23
        go_wp2_with (go_at_call 53; refine (isNumber_any _ _ hm).mono ?_; rintro e w1 ⟨rfl, hb1⟩; obtain ⟨hc1, hf1⟩ := bcell hb1)
        have acc : Below w.heap.size w w1 := ((Below.refl _ _).alloc (Nat.le_refl _) _).trans (hb1.mono (by simp))
        obtain ⟨⟨t1, p1, v1⟩, ⟨t2, p2, v2⟩, _, _⟩ := Vars.below Hv.out acc
        refine (Tryz.strconv_ParseInt_10_at64_ok _ (by omega) v Hp.out _).mono ?_
        rintro e w2 ⟨rfl, hw2⟩
        have hb2 : Below w1.heap.size w1 w2 := by
          rcases hw2 with rfl | ⟨t, rfl⟩
          · exact Below.refl _ _
          · exact Lib.bytesWorld_below _ _ _
        clear hw2 v1 v2
        go_wp2_with fail
        go_ret2
        exact ⟨ret_int_yes Hf.out, acc.trans (hb2.mono acc.size)⟩
      · have Hf : Hid (intO k t = none) := by unfold intO; rw [hk, hn, hp]; exact rfl
        have Hp := Lib.hid hp
        clear hp
        have Hv := Lib.hid hv
        clear hv
        go_enter Tryz.func23, Tryz.ntmps23
        go_wp2_with (go_at_call 53; refine (isNumber_any _ _ hm).mono ?_; rintro e w1 ⟨rfl, hb1⟩; obtain ⟨hc1, hf1⟩ := bcell hb1)
        have acc : Below w.heap.size w w1 := ((Below.refl _ _).alloc (Nat.le_refl _) _).trans (hb1.mono (by simp))
        obtain ⟨⟨t1, p1, v1⟩, ⟨t2, p2, v2⟩, _, _⟩ := Vars.below Hv.out acc
        refine (Tryz.strconv_ParseInt_10_at64_syntax _ (by omega) Hp.out _ _ v1 (.inr ⟨_, _, rfl⟩)).mono ?_
        rintro e w2 ⟨N, rfl, hN, hN2, hb2⟩
        clear v1 v2 hN hN2
        go_wp2_with fail
        go_ret2
        exact ⟨ret_int_no Hf.out, acc.trans (hb2.mono acc.size)⟩
      · have Hf : Hid (intO k t = none) := by unfold intO; rw [hk, hn, hp]; exact rfl
        have Hp := Lib.hid hp
        clear hp
        have Hv := Lib.hid hv
        clear hv
        go_enter Tryz.func23, Tryz.ntmps23
        go_wp2_with (go_at_call 53; refine (isNumber_any _ _ hm).mono ?_; rintro e w1 ⟨rfl, hb1⟩; obtain ⟨hc1, hf1⟩ := bcell hb1)
        have acc : Below w.heap.size w w1 := ((Below.refl _ _).alloc (Nat.le_refl _) _).trans (hb1.mono (by simp))
        obtain ⟨⟨t1, p1, v1⟩, ⟨t2, p2, v2⟩, _, _⟩ := Vars.below Hv.out acc
        refine (Tryz.strconv_ParseInt_10_at64_range _ (by omega) Hp.out _ _ v2 (.inr ⟨_, _, rfl⟩)).mono ?_
        rintro e w2 ⟨N, rfl, hN, hN2, hb2⟩
        clear v1 v2 hN hN2
        go_wp2_with fail
        go_ret2
        exact ⟨ret_int_no Hf.out, acc.trans (hb2.mono acc.size)⟩
end Go.Proofs.YtakdhfjlhkejdaaGreatDoor

/-
  CONTRACTS of package json: Print, May; what the law's helper comes to, reckoned.
-/
set_option linter.unusedVariables false
namespace Go.Proofs.YtakdhfjlhkejdaaGreatDoor
open Go.RowKit
def prS (v : JV) : ByteArray := printS (checkE v) v
def prE (v : JV) : Int := printE (checkE v) v
theorem print_any (v : JV) (c0 c1 c2 c3 : Value) (w : World) (hv : IsV w 0 v c0 c1 c2 c3) (hsz : sizeV v ≤ 1000000000) (hk : keysV v ≤ 1000000000000) (hl : lettV v ≤ 1000000000000) :
    Calls Tryz.prog 15 #[.agg #[c0, c1, c2, c3]] w fun e w' => e = .returned (.tuple #[.string (prS v), .int .i64 (prE v)]) ∧ Below w.heap.size w w' :=
  print_of v c0 c1 c2 c3 (checkE v) w hv hsz (fun w2 hb => check_any v c0 c1 c2 c3 w2 (IsV.stays (Below.stays hb 0) (Nat.le_refl 0) _ _ _ _ _ hv) (by omega) hk hl) check_good
theorem may_any (v : JV) (c0 c1 c2 c3 : Value) (w : World) (hv : IsV w 0 v c0 c1 c2 c3) (hsz : sizeV v ≤ 1000000000) (hk : keysV v ≤ 1000000000000) (hl : lettV v ≤ 1000000000000) :
    Calls Tryz.prog 19 #[.agg #[c0, c1, c2, c3]] w fun e w' => e = .returned (.int .i64 (prE v)) ∧ Below w.heap.size w w' :=
  may_of v c0 c1 c2 c3 (checkE v) w hv hsz (fun w2 hb => check_any v c0 c1 c2 c3 w2 (IsV.stays (Below.stays hb 0) (Nat.le_refl 0) _ _ _ _ _ hv) (by omega) hk hl) check_good
/-- the helper's values -/
def vB : JV := JV.mk 6 ⟨#[]⟩ [] [JV.mk 4 ⟨#[49]⟩ [] [], JV.mk 4 ⟨#[45, 48, 46, 53, 101, 51]⟩ [] [], JV.mk 5 ⟨#[195, 169]⟩ [] []]
def vA : JV := .mk 7 ⟨#[]⟩ [⟨#[97]⟩] [vB]
theorem evP1 : readP [32, 123, 34, 97, 34, 32, 58, 32, 91, 49, 44, 32, 45, 48, 46, 53, 101, 51, 44, 32, 34, 92, 117, 48, 48, 101, 57, 34, 93, 125, 32] = .ok vA := by kernel_rfl
theorem evP2 : readP [123, 34, 97, 34, 58, 49, 44, 34, 97, 34, 58, 50, 125] = .error (7, 25) := by kernel_rfl
theorem evP3 : readP [91, 49] = .error (2, 21) := by kernel_rfl
theorem evS : prS vA = ⟨#[123, 34, 97, 34, 58, 91, 49, 44, 45, 48, 46, 53, 101, 51, 44, 34, 195, 169, 34, 93, 125]⟩ := by kernel_rfl
theorem evE : prE vA = 0 := by kernel_rfl
theorem evG : getM 7 [⟨#[97]⟩] [vB] ⟨#[97]⟩ = some vB := by kernel_rfl
theorem evI : intN 4 ⟨#[45, 49, 50]⟩ = -12 ∧ intB 4 ⟨#[45, 49, 50]⟩ = true := by constructor <;> kernel_rfl
theorem evQ : quotS ⟨#[34, 10]⟩ = ⟨#[34, 92, 34, 92, 110, 34]⟩ ∧ quotE ⟨#[34, 10]⟩ = 0 := by constructor <;> kernel_rfl
theorem evSame : sameV vA vA = true := by kernel_rfl
theorem evMay : prE (.mk 0 ⟨#[]⟩ [] []) = 8 := by kernel_rfl
end Go.Proofs.YtakdhfjlhkejdaaGreatDoor

/-
  CONTRACTS of package json: Same.
-/
set_option linter.unusedVariables false
namespace Go.Proofs.YtakdhfjlhkejdaaGreatDoor
open Go.RowKit
set_option maxRecDepth 10000000 in
set_option maxHeartbeats 8000000 in
theorem same_any (a b : JV) (c0 c1 c2 c3 d0 d1 d2 d3 : Value) (w : World) (ha : IsV w 0 a c0 c1 c2 c3) (hb : IsV w 0 b d0 d1 d2 d3) (hsa : sizeV a ≤ 1000000000000) (hsb : sizeV b ≤ 1000000000000) (hka : keysV a ≤ 1000000000000) (hkb : keysV b ≤ 1000000000000) :
    Calls Tryz.prog 25 #[.agg #[c0, c1, c2, c3], .agg #[d0, d1, d2, d3]] w fun e w' => e = .returned (.bool (sameV a b)) ∧ Below w.heap.size w w' := by
  have ha2 := ha
  have hb2 := hb
  obtain ⟨k0, t0, ka, kl, kc, la, ll, lc, rfl, rfl, rfl, rfl⟩ := ha.shape
  obtain ⟨k1, t1, qa, ql, qc, ra, rl, rc, rfl, rfl, rfl, rfl⟩ := hb.shape
  obtain ⟨G, hG⟩ : ∃ G, G = sameV a b := ⟨_, rfl⟩
  rw [← hG]
  have HG := Lib.hid hG
  clear hG
  go_enter Tryz.func25, Tryz.ntmps25
  go_wp2_with fail
  have hS := same_start w (.cells #[.int .u8 (k0 : Nat), .string t0, .slice ka kl kc, .slice la ll lc] 26) (.cells #[.int .u8 (k1 : Nat), .string t1, .slice qa ql qc, .slice ra rl rc] 26) a b _ _ _ _ _ _ _ _ ha hb hsa hsb hka hkb
  rw [← HG.out] at hS
  have hbA : ∀ A B C D : Obj, Below w.heap.size w ((((w.alloc A).alloc B).alloc C).alloc D) := fun A B C D => ((((Below.refl w.heap.size w).alloc (Nat.le_refl _) A).alloc (by simp) B).alloc (by simp; omega) C).alloc (by simp; omega) D
  have hbA := hbA (.cells #[.int .u8 (k0 : Nat), .string t0, .slice ka kl kc, .slice la ll lc] 26) (.cells #[.int .u8 (k1 : Nat), .string t1, .slice qa ql qc, .slice ra rl rc] 26) (.cells #[.int .u8 (k0 : Nat), .string t0, .slice ka kl kc, .slice la ll lc] 26) (.cells #[.int .u8 (k1 : Nat), .string t1, .slice qa ql qc, .slice ra rl rc] 26)
  generalize (((w.alloc (.cells #[.int .u8 (k0 : Nat), .string t0, .slice ka kl kc, .slice la ll lc] 26)).alloc (.cells #[.int .u8 (k1 : Nat), .string t1, .slice qa ql qc, .slice ra rl rc] 26)).alloc (.cells #[.int .u8 (k0 : Nat), .string t0, .slice ka kl kc, .slice la ll lc] 26)).alloc (.cells #[.int .u8 (k1 : Nat), .string t1, .slice qa ql qc, .slice ra rl rc] 26) = wA at *
  clear ha hb ha2 hb2
  go_loopw [5] (fun vl wr => ∃ m, SameI wA G (sizeV a) m vl wr) (fun vl wr => leastN fun m => SameI wA G (sizeV a) m vl wr)
  case atStart => exact ⟨_, hS⟩
  case round =>
    clear hS
    have hle := leastN_spec hrel
    generalize hm0 : (leastN fun m => SameI wA G (sizeV a) m u5 wr) = m0 at hle
    have Hm0 := Lib.hid hm0
    clear hm0 hrel
    obtain ⟨S, hown, hok, hGS, htot, hN, hbel⟩ := hle
    rcases S.eq_nil_or_concat with rfl | ⟨S0, e, rfl⟩
    · have hG1 : G = true := hGS
      clear hGS
      have h5 : ∃ a c, u5 = .slice a 0 c := by
        rcases hown.2 with ⟨h, _⟩ | ⟨g, cap, _, h, _⟩
        · exact ⟨_, _, h⟩
        · exact ⟨_, _, h⟩
      obtain ⟨a5, c5, rfl⟩ := h5
      go_wp2_with fail
      go_ret
      exact ⟨ret_bool hG1.symm, hbA.trans (hbel.mono hbA.size)⟩
    · rw [List.concat_eq_append] at hown hok hGS htot
      rw [flatE_append, List.length_append] at hown
      rw [totE_append] at htot
      rw [sameS_append] at hGS
      have he := hok e (by simp)
      have hok0 : ∀ x ∈ S0, EntOK wA x := fun x hx => hok x (by simp [hx])
      clear hok
      obtain ⟨l, m, vl, vm⟩ := e
      obtain ⟨n, lb, lo, cl, mb, mo, cm, rfl, rfl, hrl, hrm, hll, hlm, hpos, hn12⟩ := he.opened
      simp only at hGS
      simp only [flatE, totE, List.length_singleton] at hown htot
      obtain ⟨g, cap, rfl, hg, hglt, hcap, hcap2⟩ := own_form2 hown (by omega)
      have hpop := ownsRow_pop (flatE_len S0) hown
      have hc0 := own_cellAt hown (S0.length * 2) _ (by rw [List.getElem?_append_right (by rw [flatE_len]; omega), flatE_len, Nat.sub_self]; rfl)
      have hc1 := own_cellAt hown (S0.length * 2 + 1) _ (by rw [List.getElem?_append_right (by rw [flatE_len]; omega), flatE_len, show S0.length * 2 + 1 - S0.length * 2 = 1 by omega]; rfl)
      clear hown
      go_wp2_with fail
      have hJ := SameJ.first (vl := .slice (some ⟨lb, lo, none⟩) n cl) (vm := .slice (some ⟨mb, mo, none⟩) n cm) hpop hok0 hGS htot hbel hglt
      have hszpb : wA.heap.size ≤ wr.heap.size := hbel.size
      generalize hwq : wr.alloc (.cells #[.slice (some ⟨lb, lo, none⟩) n cl, .slice (some ⟨mb, mo, none⟩) n cm] 83) = wq at hJ ⊢
      clear hwq hpop hok0 hGS htot hc0 hc1 hbel
      generalize wr.heap.size = pb at *
      go_loopw [5, 33] (fun v5 v33 wr => ∃ (i : Nat) (S : List Ent) (g cap : Nat), v33 = .int .i64 i ∧ i ≤ n ∧ v5 = .slice (some ⟨g, 0, none⟩) S.length cap ∧ SameJ wA G m0 l m pb (.slice (some ⟨lb, lo, none⟩) n cl) (.slice (some ⟨mb, mo, none⟩) n cm) i S g cap wr) (fun _ v33 _ => n - (intOf v33).toNat)
      case atStart => exact ⟨0, S0, g, cap, rfl, Nat.zero_le _, rfl, hJ⟩
      case round =>
        obtain ⟨i, S, g, cap, rfl, hi, rfl, hJ2⟩ := hrel
        by_cases hlt : i < n
        · obtain ⟨x, hx⟩ : ∃ x, l[i]? = some x := ⟨_, List.getElem?_eq_getElem (by rw [hll.out]; exact hlt)⟩
          obtain ⟨y, hy⟩ : ∃ y, m[i]? = some y := ⟨_, List.getElem?_eq_getElem (by rw [hlm.out]; exact hlt)⟩
          obtain ⟨kx, tx, ksx, lx⟩ := x
          obtain ⟨ky, ty, ksy, ly⟩ := y
          obtain ⟨x0, x1, x2, x3, ex0, ex1, ex2, ex3, hVx⟩ := hrl.at' l lb lo i _ hx
          obtain ⟨y0, y1, y2, y3, ey0, ey1, ey2, ey3, hVy⟩ := hrm.at' m mb mo i _ hy
          obtain ⟨kxa, kxp, lxa, lxp, rfl, rfl, rfl, rfl, hKx, hLx⟩ := IsV.opened hVx
          obtain ⟨kya, kyp, lya, lyp, rfl, rfl, rfl, rfl, hKy, hLy⟩ := IsV.opened hVy
          have hxin : keysV (.mk kx tx ksx lx) ≤ keysL l := keysV_in hx
          have hyin : keysV (.mk ky ty ksy ly) ≤ keysL m := keysV_in hy
          have hxin2 : sizeV (.mk kx tx ksx lx) ≤ sizeL l := sizeV_in hx
          have hyin2 : sizeV (.mk ky ty ksy ly) ≤ sizeL m := sizeV_in hy
          have q1 := he.sl
          have q2 := he.sm
          have q3 := he.kl
          have q4 := he.km
          simp only [sizeV, keysV] at hxin hyin hxin2 hyin2 q1 q2 q3 q4
          have z1 := len_sizeL lx
          have z2 := len_sizeL ly
          have b1 : ksx.length ≤ maxLen := by unfold maxLen; omega
          have b2 : ksy.length ≤ maxLen := by unfold maxLen; omega
          have b3 : lx.length ≤ maxLen := by unfold maxLen; omega
          have b4 : ly.length ≤ maxLen := by unfold maxLen; omega
          have hSl : S.length ≤ 1000000000000 := by have := hJ2.short; omega
          clear hxin hyin hxin2 hyin2 q1 q2 q3 q4 z1 z2 hVx hVy
          have cx0 := cell_on hJ2.bel ex0
          have cx1 := cell_on hJ2.bel ex1
          have cx2 := cell_on hJ2.bel ex2
          have cx3 := cell_on hJ2.bel ex3
          have hb8 := hJ2.bel.alloc hJ2.bel.size (.cells #[.int .u8 (kx : Nat), .string tx, .slice kxa ksx.length kxp, .slice lxa lx.length lxp] 26)
          have cy0 := cell_on hb8 ey0
          have cy1 := cell_on hb8 ey1
          have cy2 := cell_on hb8 ey2
          have cy3 := cell_on hb8 ey3
          have hpb := (Array.getElem?_eq_some_iff.1 hJ2.box).1
          have hbox8 := (Lib.alloc_old wr (.cells #[.int .u8 (kx : Nat), .string tx, .slice kxa ksx.length kxp, .slice lxa lx.length lxp] 26) pb hpb).trans hJ2.box
          have p1 := Lib.cell_of_heap hbox8 (j := 1)
          have n0 : (0 : Int) ≤ (i : Int) := Int.natCast_nonneg _
          have n1 : (i : Int) < (n : Int) := by omega
          clear ex0 ex1 ex2 ex3 ey0 ey1 ey2 ey3 hb8 hbox8 hpb
          go_wp2_with fail
          have h8 : ((wr.alloc (.cells #[.int .u8 (kx : Nat), .string tx, .slice kxa ksx.length kxp, .slice lxa lx.length lxp] 26)).alloc (.cells #[.int .u8 (ky : Nat), .string ty, .slice kya ksy.length kyp, .slice lya ly.length lyp] 26)).heap[wr.heap.size]? = some (.cells #[.int .u8 (kx : Nat), .string tx, .slice kxa ksx.length kxp, .slice lxa lx.length lxp] 26 (0, 0)) := (Lib.alloc_old _ _ _ (by simp)).trans (heap_alloc_new _ _)
          have h9 : ((wr.alloc (.cells #[.int .u8 (kx : Nat), .string tx, .slice kxa ksx.length kxp, .slice lxa lx.length lxp] 26)).alloc (.cells #[.int .u8 (ky : Nat), .string ty, .slice kya ksy.length kyp, .slice lya ly.length lyp] 26)).heap[wr.heap.size + 1]? = some (.cells #[.int .u8 (ky : Nat), .string ty, .slice kya ksy.length kyp, .slice lya ly.length lyp] 26 (0, 0)) := heap_alloc2_new _ _ _
          have hb9 : Below wr.heap.size wr ((wr.alloc (.cells #[.int .u8 (kx : Nat), .string tx, .slice kxa ksx.length kxp, .slice lxa lx.length lxp] 26)).alloc (.cells #[.int .u8 (ky : Nat), .string ty, .slice kya ksy.length kyp, .slice lya ly.length lyp] 26)) := ((Below.refl _ wr).alloc (Nat.le_refl _) _).alloc (by simp) _
          have s9 : ((wr.alloc (.cells #[.int .u8 (kx : Nat), .string tx, .slice kxa ksx.length kxp, .slice lxa lx.length lxp] 26)).alloc (.cells #[.int .u8 (ky : Nat), .string ty, .slice kya ksy.length kyp, .slice lya ly.length lyp] 26)).heap.size = wr.heap.size + 2 := by rw [World.size_alloc, World.size_alloc]
          clear cx0 cx1 cx2 cx3 cy0 cy1 cy2 cy3 p1
          generalize (wr.alloc (.cells #[.int .u8 (kx : Nat), .string tx, .slice kxa ksx.length kxp, .slice lxa lx.length lxp] 26)).alloc (.cells #[.int .u8 (ky : Nat), .string ty, .slice kya ksy.length kyp, .slice lya ly.length lyp] 26) = w9 at *
          have hA9 : Below wA.heap.size wA w9 := hJ2.bel.trans (hb9.mono hJ2.bel.size)
          have hC := alike_any kx ky tx ty ksx ksy _ _ lxa lya lx.length ly.length lxp lyp 0 0 w9 (keys_on hA9 hKx) (keys_on hA9 hKy) b1 b2 b3 b4
          cases hal : alikeB kx ky tx ty ksx ksy lx.length ly.length
          · rw [hal] at hC
            have hG0 := hJ2.no hx hy hal
            clear hal
            go_wp2_with (go_at_call 57; refine hC.mono ?_; rintro e w10 ⟨rfl, hb10⟩)
            go_ret
            exact ⟨ret_bool hG0.symm, hbA.trans ((hA9.trans (hb10.mono hA9.size)).mono hbA.size)⟩
          · rw [hal] at hC
            have Hal := Lib.hid hal
            clear hal
            rcases Nat.eq_zero_or_pos lx.length with h0 | h0
            · go_wp2_with (go_at_call 57; refine hC.mono ?_; rintro e w10 ⟨rfl, hb10⟩; have e8 : w10.cell? ⟨wr.heap.size, 3, none⟩ = some (.slice lxa lx.length lxp) := (Lib.cell_of_heap ((hb10.block _ (by omega)).trans h8) 3).trans rfl)
              go_roundw
              case rel => exact ⟨i + 1, S, g, cap, by go_num, by omega, rfl, hJ2.skip hx hy Hal.out h0 (hb9.trans (hb10.mono hb9.size))⟩
              case measure => simp [intOf]; omega
            · obtain ⟨i0, hi0, hz0, hz1, hz2⟩ := info_parts infoPair
              go_wp2_with (first
                | (go_at_call 57; go_loud (refine hC.mono ?_; rintro e w10 ⟨rfl, hb10⟩; have e8 : w10.cell? ⟨wr.heap.size, 3, none⟩ = some (.slice lxa lx.length lxp) := (Lib.cell_of_heap ((hb10.block _ (by omega)).trans h8) 3).trans rfl; have e9 : w10.cell? ⟨wr.heap.size + 1, 3, none⟩ = some (.slice lya ly.length lyp) := (Lib.cell_of_heap ((hb10.block _ (by omega)).trans h9) 3).trans rfl; have hs10 : wA.heap.size ≤ w10.heap.size := Nat.le_trans hA9.size hb10.size; have hb1 := hb9.trans (hb10.mono hb9.size); have ho10 := own_eq hJ2.own (hb1.block g (hJ2.own.lt g rfl).2)))
                | (at_builtin; go_loud (refine wpList_append_lies _ rfl _ _ _ rfl wA.heap.size 83 i0 _ 2 48 Tryz.underlying84 hi0 hz0 hz1 hz2 rfl (by omega) (.slice (some ⟨g, 0, none⟩) S.length cap) S.length (flatE S) rfl (ho10.alloc _) ⟨w10.heap.size, 0, none⟩ 1 1 [.slice lxa lx.length lxp, .slice lya ly.length lyp] rfl rfl (World.news_of_block (cs := #[Value.slice lxa lx.length lxp, Value.slice lya ly.length lyp]) (t := 83) (fr := (0, 0)) (heap_alloc_new w10 _)) (by simp [Value.oneCell']) (by omega) (by unfold maxLen; omega) (by omega) (by rw [World.size_alloc]; omega) (w10.heap.size + 1) (by simp) ?_; intro g2 cap2 w11 hown3 hgrow hat hglt2)))
              go_roundw
              case rel => exact ⟨i + 1, S ++ [(lx, ly, .slice lxa lx.length lxp, .slice lya ly.length lyp)], g2, cap2, by go_num, by omega, by rw [List.length_append]; rfl, hJ2.push he hx hy Hal.out h0 (hb1.alloc hb1.size _) hown3 hgrow (hat.imp id (fun e => by rw [World.size_alloc]; exact e)) hLx hLy⟩
              case measure => simp [intOf]; omega
        · have hin : i = n := by omega
          subst hin
          obtain ⟨k, hk, hI⟩ := hJ2.last hll.out hlm.out hpos hN
          go_wp2_with fail
          go_roundw
          case rel => exact ⟨k, hI⟩
          case measure => rw [Hm0.out]; exact Nat.lt_of_le_of_lt (leastN_le hI) hk
end Go.Proofs.YtakdhfjlhkejdaaGreatDoor

/-
  A REGION THAT DRAWS ITS ORDER, IN TWO PARTS, the loads waiting through any number of steps. (Generic; a namespace of its own.)
-/
set_option linter.unusedVariables false
namespace Go.Proofs.YtakdhfjlhkejdaaGreatDoor.HT
open Go.RowKit

section
variable {P : Program} {ops : Array Oper} {Q : Exit → Act → World → Prop} {md : Region.Mode} {S : World → Prop}

/-- whatever order is picked, and S holds behind each operation before k -/
def wpAnyG (P : Program) (md : Region.Mode) (ops : Array Oper) (Q : Exit → Act → World → Prop) (k : Nat) (S : World → Prop) : Nat → Array Bool → Act → World → Prop
  | 0, listed, a, w => Region.ready md ops listed = [] ∧ Q .normal a w
  | fuel + 1, listed, a, w =>
    (Region.ready md ops listed = [] → Q .normal a w) ∧
    ∀ i ∈ Region.ready md ops listed, wpOp P ops Q i (fun a' w' => ((listed.setIfInBounds i true).getD k true = false → S w') ∧ wpAnyG P md ops Q k S fuel (listed.setIfInBounds i true) a' w') a w

theorem wpAny_of_G {k : Nat} : ∀ (fuel : Nat) (listed : Array Bool) (a : Act) (w : World), wpAnyG P md ops Q k S fuel listed a w → wpAny P md ops Q fuel listed a w
  | 0, _, _, _, h => h
  | fuel + 1, _, _, _, h => ⟨h.1, fun i hi => wpOp_mono (fun a' w' h' => wpAny_of_G fuel _ a' w' h'.2) (h.2 i hi)⟩

theorem getD_true_set {listed : Array Bool} {i k : Nat} (h : listed.getD k true = true) : (listed.setIfInBounds i true).getD k true = true := by
  by_cases hik : i = k
  · subst hik
    rcases Nat.lt_or_ge i listed.size with h' | h'
    · simp [h']
    · simp
  · rw [getD_set_ne true hik]; exact h

/-- behind k nothing is asked -/
theorem wpAnyG_of_any {k : Nat} : ∀ (fuel : Nat) (listed : Array Bool) (a : Act) (w : World), listed.getD k true = true → wpAny P md ops Q fuel listed a w → wpAnyG P md ops Q k S fuel listed a w
  | 0, _, _, _, _, h => h
  | fuel + 1, listed, _, _, hk, h => ⟨h.1, fun i hi => wpOp_mono (fun a' w' h' => ⟨fun hf => by rw [getD_true_set hk] at hf; (cases hf), wpAnyG_of_any fuel _ a' w' (getD_true_set hk) h'⟩) (h.2 i hi)⟩

/-- k waits for i, in at most f steps -/
def waitsT (md : Region.Mode) (ops : Array Oper) : Nat → Nat → Nat → Bool
  | 0, _, _ => false
  | f + 1, k, i => match ops[k]? with
    | some o => o.after.any fun e => Region.binds md e && (e.on == i || waitsT md ops f e.on i)
    | none => false
/-- what is listed is listed with all that it waits for -/
def closedP (md : Region.Mode) (ops : Array Oper) (listed : Array Bool) : Prop :=
  ∀ j oj, ops[j]? = some oj → listed.getD j false = true → ∀ e ∈ oj.after, Region.binds md e = true → listed.getD e.on false = true
def closedB (md : Region.Mode) (ops : Array Oper) (listed : Array Bool) : Bool :=
  (List.range ops.size).all fun j => !listed.getD j false || match ops[j]? with
    | some o => o.after.all fun e => !Region.binds md e || listed.getD e.on false
    | none => true
theorem closedB_spec {listed : Array Bool} (h : closedB md ops listed = true) : closedP md ops listed := by
  intro j oj hj hl e he hb
  have hlt : j < ops.size := (Array.getElem?_eq_some_iff.1 hj).1
  unfold closedB at h
  rw [List.all_eq_true] at h
  have h1 := h j (List.mem_range.2 hlt)
  simp only [hj, hl, Bool.not_true, Bool.false_or] at h1
  have h2 := Array.all_eq_true'.1 h1 e he
  simpa [hb] using h2
theorem closedP_set {listed : Array Bool} (h : closedP md ops listed) {j : Nat} (hj : j ∈ Region.ready md ops listed) : closedP md ops (listed.setIfInBounds j true) := by
  intro x ox hx hl e he hb
  obtain ⟨_, oj, hoj, hall⟩ := mem_ready.1 hj
  by_cases hxj : j = x
  · subst hxj
    rw [hoj] at hx
    injection hx with hx
    subst hx
    exact getD_set_true (hall e he hb)
  · rw [getD_set_ne false hxj] at hl
    exact getD_set_true (h x ox hx hl e he hb)
theorem waitsT_spec {listed : Array Bool} (h : closedP md ops listed) (i : Nat) : ∀ (f k : Nat) (o : Oper), ops[k]? = some o → waitsT md ops f k i = true → (∀ e ∈ o.after, Region.binds md e = true → listed.getD e.on false = true) → listed.getD i false = true
  | 0, _, _, _, hw, _ => by simp [waitsT] at hw
  | f + 1, k, o, ho, hw, hall => by
    unfold waitsT at hw
    rw [ho] at hw
    obtain ⟨e, he, hb⟩ := Array.any_eq_true'.1 hw
    simp only [Bool.and_eq_true, Bool.or_eq_true, beq_iff_eq] at hb
    rcases hb.2 with h1 | h1
    · rw [← h1]; exact hall e he hb.1
    · cases ho2 : ops[e.on]? with
      | none => cases f <;> simp [waitsT, ho2] at h1
      | some o2 => exact waitsT_spec h i f e.on o2 ho2 h1 (fun e2 he2 hb2 => h e.on o2 ho2 (hall e he hb.1) e2 he2 hb2)

theorem wpAnyG_first {k i : Nat} {oi : Oper} {v : Value} (hi : ops[i]? = some oi) (hsel : ∀ (j : Nat) (o : Oper) cs b, ops[j]? = some o → o.op ≠ .select cs b)
    (hQ : ∀ c a w, Q (.panic c) (a.put oi.dst v) w → Q (.panic c) a w) {f : Nat} (hki : waitsT md ops f k i = true) :
    ∀ (fuel : Nat) (listed : Array Bool) (a : Act) (w : World),
      (∀ j oj, ops[j]? = some oj → j ≠ i → listed.getD j true = false → (∀ e ∈ oj.after, Region.binds md e = true → e.on ≠ i) → oi.apart ops oj = true) →
      i ∈ Region.ready md ops listed → closedP md ops listed → YieldsIf P ops S oi v a → listed.getD k true = false → i ≠ k → S w →
      wpAnyG P md ops Q k S fuel (listed.setIfInBounds i true) (a.put oi.dst v) w → wpAnyG P md ops Q k S (fuel + 1) listed a w := by
  intro fuel
  induction fuel with
  | zero =>
    intro listed a w _ hr hcl hy hk hik hS H
    refine ⟨fun h => (by rw [h] at hr; cases hr), fun j hj => ?_⟩
    by_cases hji : j = i
    · subst hji; exact hy.wpOp hi hS ⟨fun _ => hS, H⟩
    · have := ready_mono hj hji
      rw [H.1] at this
      cases this
  | succ fuel ih =>
    intro listed a w hfree hr hcl hy hk hik hS H
    refine ⟨fun h => (by rw [h] at hr; cases hr), fun j hj => ?_⟩
    by_cases hji : j = i
    · subst hji; exact hy.wpOp hi hS ⟨fun _ => hS, H⟩
    · have h1 := H.2 j (ready_mono hj hji)
      obtain ⟨hjun, oj, hoj, hall⟩ := mem_ready.1 hj
      have hnot : ∀ e ∈ oj.after, Region.binds md e = true → e.on ≠ i := fun e he hb heq => by
        have h1 := hall e he hb
        have h0 := (mem_ready.1 hr).1
        rw [heq] at h1
        rcases Nat.lt_or_ge i listed.size with h' | h'
        · simp [h'] at h0 h1; rw [h0] at h1; cases h1
        · simp [Array.getElem?_eq_none h'] at h1
      have hjk : j ≠ k := by
        intro e
        subst e
        have h0 := (mem_ready.1 hr).1
        have h1 := waitsT_spec hcl i f j oj hoj hki hall
        rcases Nat.lt_or_ge i listed.size with h' | h'
        · simp [h'] at h0 h1; rw [h0] at h1; cases h1
        · simp [Array.getElem?_eq_none h'] at h1
      have h2 := wpOp_putIf hoj (hfree j oj hoj hji hjun hnot) (fun cs b => hsel i oi cs b hi) (fun cs b => hsel j oj cs b hoj) hQ hy h1
      have hfree' : ∀ k ok, ops[k]? = some ok → k ≠ i → (listed.setIfInBounds j true).getD k true = false →
          (∀ e ∈ ok.after, Region.binds md e = true → e.on ≠ i) → oi.apart ops ok = true := fun k ok hk hki hun hno => by
        refine hfree k ok hk hki ?_ hno
        by_cases hjk : j = k
        · subst hjk; exact hjun
        · rw [getD_set_ne true hjk] at hun; exact hun
      have hk1 : (listed.setIfInBounds j true).getD k true = false := by rw [getD_set_ne true hjk]; exact hk
      have hk2 : ((listed.setIfInBounds i true).setIfInBounds j true).getD k true = false := by rw [getD_set_ne true hjk, getD_set_ne true hik]; exact hk
      refine wpOp_mono (fun a' w' h3 => ⟨fun _ => h3.2.1 hk2, ih (listed.setIfInBounds j true) a' w' hfree' (ready_mono hr (Ne.symm hji)) (closedP_set hcl hj) h3.1 hk1 hik (h3.2.1 hk2) ?_⟩) h2
      rw [Array.setIfInBounds_comm _ _ hji]
      exact h3.2.2

/-- take number i first -/
theorem wpAnyG_take {k i : Nat} {oi : Oper} {v : Value} {fuel : Nat} {listed : Array Bool} {a : Act} {w : World} (hi : ops[i]? = some oi)
    (hs : Region.noSelect ops = true) (hf : Region.free md ops listed i = true) (hr : (Region.ready md ops listed).contains i = true) (hw : waitsT md ops 60 k i = true) (hcl : closedB md ops listed = true) (hk : (!listed.getD k true && !(i == k)) = true)
    (hQ : ∀ c a w, Q (.panic c) (a.put oi.dst v) w → Q (.panic c) a w) (hS : S w) (hy : YieldsIf P ops S oi v a)
    (h : wpAnyG P md ops Q k S fuel (listed.setIfInBounds i true) (a.put oi.dst v) w) : wpAnyG P md ops Q k S (fuel + 1) listed a w :=
  wpAnyG_first hi (Region.noSelect_spec hs) hQ hw fuel listed a w (Region.free_spec hi hf) (by simpa using hr) (closedB_spec hcl) hy (by simp at hk; simpa using hk.1) (by simp at hk; exact hk.2) hS h

/-- two may come up -/
theorem wpAnyG_two {k i j : Nat} {oi oj : Oper} {fuel : Nat} {listed : Array Bool} {a : Act} {w : World} (hr : Region.ready md ops listed = [i, j]) (hi : ops[i]? = some oi) (hj : ops[j]? = some oj)
    (h1 : ∀ K : Act → World → Prop, (∀ a w, S w → wpAnyG P md ops Q k S fuel (listed.setIfInBounds i true) a w → K a w) → if Region.wanted oi (yielded ops a.tmps) = true then Oper.wp P oi a w K Q else K (a.put oi.dst undef) w)
    (h2 : ∀ K : Act → World → Prop, (∀ a w, S w → wpAnyG P md ops Q k S fuel (listed.setIfInBounds j true) a w → K a w) → if Region.wanted oj (yielded ops a.tmps) = true then Oper.wp P oj a w K Q else K (a.put oj.dst undef) w) :
    wpAnyG P md ops Q k S (fuel + 1) listed a w := by
  refine ⟨fun h => (by rw [hr] at h; cases h), fun x hx => ?_⟩
  rw [hr] at hx
  simp only [List.mem_cons, List.not_mem_nil, or_false] at hx
  rcases hx with rfl | rfl
  · exact wpOp_step hi (fun K hK => h1 K (fun a w hS hG => hK a w ⟨fun _ => hS, hG⟩))
  · exact wpOp_step hj (fun K hK => h2 K (fun a w hS hG => hK a w ⟨fun _ => hS, hG⟩))
/-- one alone may come up -/
theorem wpAnyG_one {k i : Nat} {oi : Oper} {fuel : Nat} {listed : Array Bool} {a : Act} {w : World} (hr : Region.ready md ops listed = [i]) (hi : ops[i]? = some oi)
    (h1 : ∀ K : Act → World → Prop, (∀ a w, S w → wpAnyG P md ops Q k S fuel (listed.setIfInBounds i true) a w → K a w) → if Region.wanted oi (yielded ops a.tmps) = true then Oper.wp P oi a w K Q else K (a.put oi.dst undef) w) :
    wpAnyG P md ops Q k S (fuel + 1) listed a w := by
  refine ⟨fun h => (by rw [hr] at h; cases h), fun x hx => ?_⟩
  rw [hr] at hx
  simp only [List.mem_cons, List.not_mem_nil, or_false] at hx
  subst hx
  exact wpOp_step hi (fun K hK => h1 K (fun a w hS hG => hK a w ⟨fun _ => hS, hG⟩))
/-- k itself comes up, alone: behind it nothing is asked -/
theorem wpAnyG_turn {k : Nat} {oi : Oper} {fuel : Nat} {listed : Array Bool} {a : Act} {w : World} (hr : Region.ready md ops listed = [k]) (hi : ops[k]? = some oi)
    (h1 : ∀ K : Act → World → Prop, (∀ a w, wpAny P md ops Q fuel (listed.setIfInBounds k true) a w → K a w) → if Region.wanted oi (yielded ops a.tmps) = true then Oper.wp P oi a w K Q else K (a.put oi.dst undef) w) :
    wpAnyG P md ops Q k S (fuel + 1) listed a w := by
  refine ⟨fun h => (by rw [hr] at h; cases h), fun x hx => ?_⟩
  rw [hr] at hx
  simp only [List.mem_cons, List.not_mem_nil, or_false] at hx
  subst hx
  have hk : (listed.setIfInBounds x true).getD x true = true := by
    rcases Nat.lt_or_ge x listed.size with h' | h'
    · simp [h']
    · simp [Array.getElem?_eq_none h']
  exact wpOp_step hi (fun K hK => h1 K (fun a w hA => hK a w ⟨fun hf => (by rw [hk] at hf; cases hf), wpAnyG_of_any fuel _ a w hk hA⟩))
/-- two may come up, behind k -/
theorem wpAny_two {i j : Nat} {oi oj : Oper} {fuel : Nat} {listed : Array Bool} {a : Act} {w : World} (hr : Region.ready md ops listed = [i, j]) (hi : ops[i]? = some oi) (hj : ops[j]? = some oj)
    (h1 : ∀ K : Act → World → Prop, (∀ a w, wpAny P md ops Q fuel (listed.setIfInBounds i true) a w → K a w) → if Region.wanted oi (yielded ops a.tmps) = true then Oper.wp P oi a w K Q else K (a.put oi.dst undef) w)
    (h2 : ∀ K : Act → World → Prop, (∀ a w, wpAny P md ops Q fuel (listed.setIfInBounds j true) a w → K a w) → if Region.wanted oj (yielded ops a.tmps) = true then Oper.wp P oj a w K Q else K (a.put oj.dst undef) w) :
    wpAny P md ops Q (fuel + 1) listed a w := wpAny_ready hr (by simp) (AllReady.cons hi h1 (AllReady.cons hj h2 AllReady.nil))
theorem wpAny_one {i : Nat} {oi : Oper} {fuel : Nat} {listed : Array Bool} {a : Act} {w : World} (hr : Region.ready md ops listed = [i]) (hi : ops[i]? = some oi)
    (h1 : ∀ K : Act → World → Prop, (∀ a w, wpAny P md ops Q fuel (listed.setIfInBounds i true) a w → K a w) → if Region.wanted oi (yielded ops a.tmps) = true then Oper.wp P oi a w K Q else K (a.put oi.dst undef) w) :
    wpAny P md ops Q (fuel + 1) listed a w := wpAny_ready hr (by simp) (AllReady.cons hi h1 AllReady.nil)
theorem put_some (a : Act) (d : Tmp) (v : Value) : a.put (some d) v = { a with tmps := a.tmps.setIfInBounds d v } := rfl
/-- take number i first, its slot d known -/
theorem take_at {i : Nat} {d : Tmp} {oi : Oper} {v : Value} {fuel : Nat} {listed : Array Bool} {a : Act} {w : World} (hi : ops[i]? = some oi) (hd : oi.dst = some d)
    (hs : Region.noSelect ops = true) (hf : Region.free md ops listed i = true) (hr : (Region.ready md ops listed).contains i = true)
    (hQ : ∀ c a w, Q (.panic c) (a.put oi.dst v) w → Q (.panic c) a w) (hy : Yields P ops oi v a)
    (h : wpAny P md ops Q fuel (listed.setIfInBounds i true) (a.put (some d) v) w) : wpAny P md ops Q (fuel + 1) listed a w :=
  wpAny_take hi hs hf hr hQ hy (by rw [hd]; exact h)
theorem takeG_at {k i : Nat} {d : Tmp} {oi : Oper} {v : Value} {fuel : Nat} {listed : Array Bool} {a : Act} {w : World} (hi : ops[i]? = some oi) (hd : oi.dst = some d)
    (hs : Region.noSelect ops = true) (hf : Region.free md ops listed i = true) (hr : (Region.ready md ops listed).contains i = true) (hw : waitsT md ops 60 k i = true) (hcl : closedB md ops listed = true) (hk : (!listed.getD k true && !(i == k)) = true)
    (hQ : ∀ c a w, Q (.panic c) (a.put oi.dst v) w → Q (.panic c) a w) (hS : S w) (hy : YieldsIf P ops S oi v a)
    (h : wpAnyG P md ops Q k S fuel (listed.setIfInBounds i true) (a.put (some d) v) w) : wpAnyG P md ops Q k S (fuel + 1) listed a w :=
  wpAnyG_take hi hs hf hr hw hcl hk hQ hS hy (by rw [hd]; exact h)
end
end Go.Proofs.YtakdhfjlhkejdaaGreatDoor.HT

/-
  CONTRACT of codicillaw02.alive: it answers true.
-/
set_option linter.unusedVariables false
namespace Go.Proofs.YtakdhfjlhkejdaaGreatDoor
open Go.RowKit
theorem ok_shape {w W : World} {e : Ending} (h : ParseEnd w (.ok vA) e W) : Below w.heap.size w W ∧ ∃ a2 p2 a3 p3, e = .returned (.tuple #[.agg #[.int .u8 7, .string ⟨#[]⟩, .slice a2 1 p2, .slice a3 1 p3], .agg #[.int .i64 0, .int .i64 0]]) ∧ IsV W 0 vA (.int .u8 7) (.string ⟨#[]⟩) (.slice a2 1 p2) (.slice a3 1 p3) := by
  obtain ⟨hb, c0, c1, c2, c3, rfl, hv⟩ := h
  have hv0 := IsV.stays (lo' := 0) (Stays.refl _ W) (Nat.zero_le _) _ _ _ _ _ hv
  obtain ⟨a2, p2, a3, p3, rfl, rfl, rfl, rfl, _, _⟩ := IsV.opened hv0
  exact ⟨hb, a2, p2, a3, p3, rfl, hv0⟩
theorem get_shape {w W : World} {e : Ending} (h : GetEnd w (some vB) e W) : Below w.heap.size w W ∧ ∃ a2 p2 a3 p3, e = .returned (.tuple #[.agg #[.int .u8 6, .string ⟨#[]⟩, .slice a2 0 p2, .slice a3 3 p3], .bool true]) := by
  obtain ⟨hb, c0, c1, c2, c3, rfl, hv⟩ := h
  have hv0 := IsV.stays (lo' := 0) (Stays.refl _ W) (Nat.zero_le _) _ _ _ _ _ hv
  obtain ⟨a2, p2, a3, p3, rfl, rfl, rfl, rfl, _, _⟩ := IsV.opened hv0
  exact ⟨hb, a2, p2, a3, p3, rfl⟩
theorem isV_zero (w : World) : IsV w 0 (.mk 0 ⟨#[]⟩ [] []) (.int .u8 0) (.string ⟨#[]⟩) (.slice none 0 0) (.slice none 0 0) := by
  simp [IsV, IsKeys]
/-- the helper's own cells -/
def Alv (n1 n2 n3 n5 : Nat) (a2 a3 a7 a8 : Option Addr) (q2 q3 q7 q8 : Nat) (W : World) : Prop :=
  W.heap[n1]? = some (.cells #[.int .u8 7, .string ⟨#[]⟩, .slice a2 1 q2, .slice a3 1 q3] 26 (0, 0)) ∧ W.heap[n1 + 1]? = some (.cells #[.int .i64 0, .int .i64 0] 29 (0, 0)) ∧ W.heap[n2 + 1]? = some (.cells #[.int .i64 7, .int .i64 25] 29 (0, 0)) ∧ W.heap[n3 + 1]? = some (.cells #[.int .i64 2, .int .i64 21] 29 (0, 0)) ∧ W.heap[n5]? = some (.cells #[.int .u8 6, .string ⟨#[]⟩, .slice a7 0 q7, .slice a8 3 q8] 26 (0, 0))
theorem Alv.keep {n1 n2 n3 n5 : Nat} {a2 a3 a7 a8 : Option Addr} {q2 q3 q7 q8 : Nat} {W W' : World} (h : Alv n1 n2 n3 n5 a2 a3 a7 a8 q2 q3 q7 q8 W) (hb : Below W.heap.size W W') : Alv n1 n2 n3 n5 a2 a3 a7 a8 q2 q3 q7 q8 W' :=
  ⟨(hb.block _ (Array.getElem?_eq_some_iff.1 h.1).1).trans h.1, (hb.block _ (Array.getElem?_eq_some_iff.1 h.2.1).1).trans h.2.1, (hb.block _ (Array.getElem?_eq_some_iff.1 h.2.2.1).1).trans h.2.2.1, (hb.block _ (Array.getElem?_eq_some_iff.1 h.2.2.2.1).1).trans h.2.2.2.1, (hb.block _ (Array.getElem?_eq_some_iff.1 h.2.2.2.2).1).trans h.2.2.2.2⟩
set_option maxRecDepth 10000000 in
set_option maxHeartbeats 8000000 in
theorem alive_any (w : World) (hvars : Vars w) :
    Calls Tryz.prog 10 #[] w fun r w' => r = .returned (.bool true) ∧ Below w.heap.size w w' := by
  have p1 := fun w => parse_any ⟨#[32, 123, 34, 97, 34, 32, 58, 32, 91, 49, 44, 32, 45, 48, 46, 53, 101, 51, 44, 32, 34, 92, 117, 48, 48, 101, 57, 34, 93, 125, 32]⟩ w (by decide)
  have p2 := fun w => parse_any ⟨#[123, 34, 97, 34, 58, 49, 44, 34, 97, 34, 58, 50, 125]⟩ w (by decide)
  have p3 := fun w => parse_any ⟨#[91, 49]⟩ w (by decide)
  rw [show readP (ByteArray.data ⟨#[32, 123, 34, 97, 34, 32, 58, 32, 91, 49, 44, 32, 45, 48, 46, 53, 101, 51, 44, 32, 34, 92, 117, 48, 48, 101, 57, 34, 93, 125, 32]⟩).toList = .ok vA from evP1] at p1
  rw [show readP (ByteArray.data ⟨#[123, 34, 97, 34, 58, 49, 44, 34, 97, 34, 58, 50, 125]⟩).toList = .error (7, 25) from evP2] at p2
  rw [show readP (ByteArray.data ⟨#[91, 49]⟩).toList = .error (2, 21) from evP3] at p3
  have hq := fun w => quoteTop_any ⟨#[34, 10]⟩ w (by decide)
  rw [evQ.1, evQ.2] at hq
  have acc : Below w.heap.size w w := Below.refl _ _
  go_enter Tryz.func10, Tryz.ntmps10
  go_upto_region 2 with (go_at_call 11; refine (p1 _).mono ?_; rintro e w1 hP; obtain ⟨hb1, a2, q2, a3, q3, rfl, hV⟩ := ok_shape hP)
  have x1 := heap_alloc2_old w1 (.cells #[.int .u8 7, .string ⟨#[]⟩, .slice a2 1 q2, .slice a3 1 q3] 26) (.cells #[.int .i64 0, .int .i64 0] 29)
  have y1 := heap_alloc2_new w1 (.cells #[.int .u8 7, .string ⟨#[]⟩, .slice a2 1 q2, .slice a3 1 q3] 26) (.cells #[.int .i64 0, .int .i64 0] 29)
  have bb : Below w1.heap.size w1 ((w1.alloc (.cells #[.int .u8 7, .string ⟨#[]⟩, .slice a2 1 q2, .slice a3 1 q3] 26)).alloc (.cells #[.int .i64 0, .int .i64 0] 29)) := ((Below.refl _ _).alloc (Nat.le_refl _) _).alloc (by simp) _
  generalize (w1.alloc (.cells #[.int .u8 7, .string ⟨#[]⟩, .slice a2 1 q2, .slice a3 1 q3] 26)).alloc (.cells #[.int .i64 0, .int .i64 0] 29) = W1 at *
  have acc1 := acc.trans (hb1.trans (bb.mono hb1.size))
  have hV1 := IsV.stays (Below.stays bb 0) (Nat.le_refl 0) _ _ _ _ _ hV
  generalize w1.heap.size = n1 at *
  clear hV hP hb1 bb acc
  go_upto_region 3 with (go_at_call 11; refine (p2 _).mono ?_; rintro e w2 ⟨hb2, rfl⟩)
  have y2 := heap_alloc2_new w2 (.cells #[.int .u8 0, .string ⟨#[]⟩, .slice none 0 0, .slice none 0 0] 26) (.cells #[.int .i64 7, .int .i64 25] 29)
  have bb : Below W1.heap.size W1 ((w2.alloc (.cells #[.int .u8 0, .string ⟨#[]⟩, .slice none 0 0, .slice none 0 0] 26)).alloc (.cells #[.int .i64 7, .int .i64 25] 29)) := (hb2.alloc hb2.size _).alloc (by have := hb2.size; simp; omega) _
  generalize (w2.alloc (.cells #[.int .u8 0, .string ⟨#[]⟩, .slice none 0 0, .slice none 0 0] 26)).alloc (.cells #[.int .i64 7, .int .i64 25] 29) = W2 at *
  have x1 := (bb.block _ (Array.getElem?_eq_some_iff.1 x1).1).trans x1
  have y1 := (bb.block _ (Array.getElem?_eq_some_iff.1 y1).1).trans y1
  have acc2 := acc1.trans (bb.mono acc1.size)
  have hV2 := IsV.stays (Below.stays bb 0) (Nat.le_refl 0) _ _ _ _ _ hV1
  generalize w2.heap.size = n2 at *
  clear hV1 hb2 bb acc1
  go_upto_region 4 with (go_at_call 11; refine (p3 _).mono ?_; rintro e w3 ⟨hb3, rfl⟩)
  have y3 := heap_alloc2_new w3 (.cells #[.int .u8 0, .string ⟨#[]⟩, .slice none 0 0, .slice none 0 0] 26) (.cells #[.int .i64 2, .int .i64 21] 29)
  have bb : Below W2.heap.size W2 ((w3.alloc (.cells #[.int .u8 0, .string ⟨#[]⟩, .slice none 0 0, .slice none 0 0] 26)).alloc (.cells #[.int .i64 2, .int .i64 21] 29)) := (hb3.alloc hb3.size _).alloc (by have := hb3.size; simp; omega) _
  generalize (w3.alloc (.cells #[.int .u8 0, .string ⟨#[]⟩, .slice none 0 0, .slice none 0 0] 26)).alloc (.cells #[.int .i64 2, .int .i64 21] 29) = W3 at *
  have x1 := (bb.block _ (Array.getElem?_eq_some_iff.1 x1).1).trans x1
  have y1 := (bb.block _ (Array.getElem?_eq_some_iff.1 y1).1).trans y1
  have y2 := (bb.block _ (Array.getElem?_eq_some_iff.1 y2).1).trans y2
  have acc3 := acc2.trans (bb.mono acc2.size)
  have hV3 := IsV.stays (Below.stays bb 0) (Nat.le_refl 0) _ _ _ _ _ hV2
  generalize w3.heap.size = n3 at *
  clear hV2 hb3 bb acc2
  have hPr := print_any vA _ _ _ _ W3 hV3 (by decide +kernel) (by decide +kernel) (by decide +kernel)
  rw [evS, evE] at hPr
  have c0 := Lib.cell_of_heap x1 0
  have c1 := Lib.cell_of_heap x1 1
  have c2 := Lib.cell_of_heap x1 2
  have c3 := Lib.cell_of_heap x1 3
  go_upto_region 5 with (go_at_call 15; refine hPr.mono ?_; rintro e W4 ⟨rfl, bb⟩)
  have x1 := (bb.block _ (Array.getElem?_eq_some_iff.1 x1).1).trans x1
  have y1 := (bb.block _ (Array.getElem?_eq_some_iff.1 y1).1).trans y1
  have y2 := (bb.block _ (Array.getElem?_eq_some_iff.1 y2).1).trans y2
  have y3 := (bb.block _ (Array.getElem?_eq_some_iff.1 y3).1).trans y3
  have acc4 := acc3.trans (bb.mono acc3.size)
  have hV4 := IsV.stays (Below.stays bb 0) (Nat.le_refl 0) _ _ _ _ _ hV3
  clear hV3 bb acc3 hPr c0 c1 c2 c3
  have hGt := get_any 7 ⟨#[]⟩ ⟨#[97]⟩ [⟨#[97]⟩] [vB] _ _ _ _ W4 hV4 (by decide +kernel) (by decide +kernel)
  rw [evG] at hGt
  have c0 := Lib.cell_of_heap x1 0
  have c1 := Lib.cell_of_heap x1 1
  have c2 := Lib.cell_of_heap x1 2
  have c3 := Lib.cell_of_heap x1 3
  go_upto_region 6 with (go_at_call 21; refine hGt.mono ?_; rintro e w5 hG; obtain ⟨hb5, a7, q7, a8, q8, rfl⟩ := get_shape hG)
  have x5 := heap_alloc_new w5 (.cells #[.int .u8 6, .string ⟨#[]⟩, .slice a7 0 q7, .slice a8 3 q8] 26)
  have bb : Below W4.heap.size W4 (w5.alloc (.cells #[.int .u8 6, .string ⟨#[]⟩, .slice a7 0 q7, .slice a8 3 q8] 26)) := hb5.alloc hb5.size _
  generalize w5.alloc (.cells #[.int .u8 6, .string ⟨#[]⟩, .slice a7 0 q7, .slice a8 3 q8] 26) = W5 at *
  have x1 := (bb.block _ (Array.getElem?_eq_some_iff.1 x1).1).trans x1
  have y1 := (bb.block _ (Array.getElem?_eq_some_iff.1 y1).1).trans y1
  have y2 := (bb.block _ (Array.getElem?_eq_some_iff.1 y2).1).trans y2
  have y3 := (bb.block _ (Array.getElem?_eq_some_iff.1 y3).1).trans y3
  have acc5 := acc4.trans (bb.mono acc4.size)
  have hV5 := IsV.stays (Below.stays bb 0) (Nat.le_refl 0) _ _ _ _ _ hV4
  generalize w5.heap.size = n5 at *
  clear hV4 hb5 bb acc4 hGt hG c0 c1 c2 c3
  have hIn := int_any 4 ⟨#[45, 49, 50]⟩ (.slice none 0 0) (.slice none 0 0) W5 (hvars.below acc5) (by decide)
  rw [evI.1, evI.2] at hIn
  go_upto_region 7 with (go_at_call 23; refine hIn.mono ?_; rintro e W6 ⟨rfl, bb⟩)
  have x1 := (bb.block _ (Array.getElem?_eq_some_iff.1 x1).1).trans x1
  have y1 := (bb.block _ (Array.getElem?_eq_some_iff.1 y1).1).trans y1
  have y2 := (bb.block _ (Array.getElem?_eq_some_iff.1 y2).1).trans y2
  have y3 := (bb.block _ (Array.getElem?_eq_some_iff.1 y3).1).trans y3
  have x5 := (bb.block _ (Array.getElem?_eq_some_iff.1 x5).1).trans x5
  have acc6 := acc5.trans (bb.mono acc5.size)
  have hV6 := IsV.stays (Below.stays bb 0) (Nat.le_refl 0) _ _ _ _ _ hV5
  clear hV5 bb acc5 hIn
  go_upto_region 8 with (go_at_call 17; refine (hq _).mono ?_; rintro e W7 ⟨rfl, bb⟩)
  have x1 := (bb.block _ (Array.getElem?_eq_some_iff.1 x1).1).trans x1
  have y1 := (bb.block _ (Array.getElem?_eq_some_iff.1 y1).1).trans y1
  have y2 := (bb.block _ (Array.getElem?_eq_some_iff.1 y2).1).trans y2
  have y3 := (bb.block _ (Array.getElem?_eq_some_iff.1 y3).1).trans y3
  have x5 := (bb.block _ (Array.getElem?_eq_some_iff.1 x5).1).trans x5
  have acc := acc6.trans (bb.mono acc6.size)
  have hV7 := IsV.stays (Below.stays bb 0) (Nat.le_refl 0) _ _ _ _ _ hV6
  clear hV6 bb acc6 hq p1 p2 p3
  refine wp_region_any (by kernel_rfl) ?_
  change wpAny _ _ _ _ 62 #[false, false, false, false, false, false, false, false, false, false, false, false, false, false, false, false, false, false, false, false, false, false, false, false, false, false, false, false, false, false, false, false, false, false, false, false, false, false, false, false, false, false, false, false, false, false, false, false, false, false, false, false, false, false, false, false, false, false, false, false, false, false] _ (World.drew _)
  have hVd : IsV (World.drew W7) 0 vA (.int .u8 7) (.string ⟨#[]⟩) (.slice a2 1 q2) (.slice a3 1 q3) := IsV.stays (w := W7) (fun a c _ hc => hc) (Nat.le_refl 0) _ _ _ _ _ hV7
  have hS0 : Alv n1 n2 n3 n5 a2 a3 a7 a8 q2 q3 q7 q8 (World.drew W7) := ⟨x1, y1, y2, y3, x5⟩
  have acc := acc.drew
  clear hV7 x1 y1 y2 y3 x5
  generalize World.drew W7 = wd at hVd hS0 acc ⊢
  have cCopy := copy_any vA _ _ _ _ wd hVd (by decide +kernel) (by decide +kernel)
  have cSame := fun (w2 : World) (e0 e1 e2 e3 : Value) (f1 : IsV w2 0 vA (.int .u8 7) (.string ⟨#[]⟩) (.slice a2 1 q2) (.slice a3 1 q3)) (f2 : IsV w2 0 vA e0 e1 e2 e3) => same_any vA vA _ _ _ _ e0 e1 e2 e3 w2 f1 f2 (by decide +kernel) (by decide +kernel) (by decide +kernel) (by decide +kernel)
  rw [evSame] at cSame
  have cMay := fun (w : World) => may_any (.mk 0 ⟨#[]⟩ [] []) (.int .u8 0) (.string ⟨#[]⟩) (.slice none 0 0) (.slice none 0 0) w (isV_zero w) (by decide +kernel) (by decide +kernel) (by decide +kernel)
  rw [evMay] at cMay
  obtain ⟨x1, y1, y2, y3, x5⟩ := hS0
  have c0 := Lib.cell_of_heap x1 0
  have c1 := Lib.cell_of_heap x1 1
  have c2 := Lib.cell_of_heap x1 2
  have c3 := Lib.cell_of_heap x1 3
  have c4 := Lib.cell_of_heap y1 0
  have c5 := Lib.cell_of_heap y1 1
  have c6 := Lib.cell_of_heap y2 0
  have c7 := Lib.cell_of_heap y2 1
  have c8 := Lib.cell_of_heap y3 0
  have c9 := Lib.cell_of_heap y3 1
  have c10 := Lib.cell_of_heap x5 3
  have hn1 : n1 < wd.heap.size := (Array.getElem?_eq_some_iff.1 x1).1
  clear x1 y1 y2 y3 x5
  -- BEGIN
  refine HT.take_at (i := 0) (v := ?_) rfl rfl (by kernel_rfl) (by kernel_rfl) (by kernel_rfl) (fun _ _ _ h => h) (Or.inl ⟨by rfl, ?_⟩) ?_
  rotate_left
  · intro wq
    go_simp
    try with_reducible rfl
  simp only [Act.put, List.setIfInBounds_toArray, List.set_cons_zero, List.set_cons_succ]
  refine HT.wpAny_one (i := 1) (by kernel_rfl) rfl (fun K hK => ?_)
  go_simp
  refine hK _ _ ?_
  clear hK K
  refine HT.take_at (i := 2) (v := ?_) rfl rfl (by kernel_rfl) (by kernel_rfl) (by kernel_rfl) (fun _ _ _ h => h) (Or.inl ⟨by rfl, ?_⟩) ?_
  rotate_left
  · intro wq
    go_simp
    try with_reducible rfl
  simp only [Act.put, List.setIfInBounds_toArray, List.set_cons_zero, List.set_cons_succ]
  refine HT.take_at (i := 3) (v := ?_) rfl rfl (by kernel_rfl) (by kernel_rfl) (by kernel_rfl) (fun _ _ _ h => h) (Or.inl ⟨by rfl, ?_⟩) ?_
  rotate_left
  · intro wq
    go_simp
    try with_reducible rfl
  simp only [Act.put, List.setIfInBounds_toArray, List.set_cons_zero, List.set_cons_succ]
  refine HT.take_at (i := 4) (v := ?_) rfl rfl (by kernel_rfl) (by kernel_rfl) (by kernel_rfl) (fun _ _ _ h => h) (Or.inl ⟨by rfl, ?_⟩) ?_
  rotate_left
  · intro wq
    go_simp
    try with_reducible rfl
  simp only [Act.put, List.setIfInBounds_toArray, List.set_cons_zero, List.set_cons_succ]
  refine HT.wpAny_one (i := 5) (by kernel_rfl) rfl (fun K hK => ?_)
  go_simp
  refine hK _ _ ?_
  clear hK K
  refine HT.take_at (i := 6) (v := ?_) rfl rfl (by kernel_rfl) (by kernel_rfl) (by kernel_rfl) (fun _ _ _ h => h) (Or.inl ⟨by rfl, ?_⟩) ?_
  rotate_left
  · intro wq
    go_simp
    try with_reducible rfl
  simp only [Act.put, List.setIfInBounds_toArray, List.set_cons_zero, List.set_cons_succ]
  refine HT.take_at (i := 7) (v := ?_) rfl rfl (by kernel_rfl) (by kernel_rfl) (by kernel_rfl) (fun _ _ _ h => h) (Or.inl ⟨by rfl, ?_⟩) ?_
  rotate_left
  · intro wq
    go_simp
    try with_reducible rfl
  simp only [Act.put, List.setIfInBounds_toArray, List.set_cons_zero, List.set_cons_succ]
  refine HT.take_at (i := 8) (v := ?_) rfl rfl (by kernel_rfl) (by kernel_rfl) (by kernel_rfl) (fun _ _ _ h => h) (Or.inl ⟨by rfl, ?_⟩) ?_
  rotate_left
  · intro wq
    go_simp
    try with_reducible rfl
  simp only [Act.put, List.setIfInBounds_toArray, List.set_cons_zero, List.set_cons_succ]
  refine HT.take_at (i := 10) (v := ?_) rfl rfl (by kernel_rfl) (by kernel_rfl) (by kernel_rfl) (fun _ _ _ h => h) (Or.inl ⟨by rfl, ?_⟩) ?_
  rotate_left
  · intro wq
    go_simp
    try with_reducible rfl
  simp only [Act.put, List.setIfInBounds_toArray, List.set_cons_zero, List.set_cons_succ]
  refine HT.wpAny_one (i := 9) (by kernel_rfl) rfl (fun K hK => ?_)
  go_simp
  refine hK _ _ ?_
  clear hK K
  refine HT.take_at (i := 11) (v := ?_) rfl rfl (by kernel_rfl) (by kernel_rfl) (by kernel_rfl) (fun _ _ _ h => h) (Or.inl ⟨by rfl, ?_⟩) ?_
  rotate_left
  · intro wq
    go_simp
    try with_reducible rfl
  simp only [Act.put, List.setIfInBounds_toArray, List.set_cons_zero, List.set_cons_succ]
  refine HT.take_at (i := 12) (v := ?_) rfl rfl (by kernel_rfl) (by kernel_rfl) (by kernel_rfl) (fun _ _ _ h => h) (Or.inl ⟨by rfl, ?_⟩) ?_
  rotate_left
  · intro wq
    go_simp
    try with_reducible rfl
  simp only [Act.put, List.setIfInBounds_toArray, List.set_cons_zero, List.set_cons_succ]
  refine HT.take_at (i := 13) (v := ?_) rfl rfl (by kernel_rfl) (by kernel_rfl) (by kernel_rfl) (fun _ _ _ h => h) (Or.inl ⟨by rfl, ?_⟩) ?_
  rotate_left
  · intro wq
    go_simp
    try with_reducible rfl
  simp only [Act.put, List.setIfInBounds_toArray, List.set_cons_zero, List.set_cons_succ]
  refine HT.take_at (i := 15) (v := ?_) rfl rfl (by kernel_rfl) (by kernel_rfl) (by kernel_rfl) (fun _ _ _ h => h) (Or.inl ⟨by rfl, ?_⟩) ?_
  rotate_left
  · intro wq
    go_simp
    try with_reducible rfl
  simp only [Act.put, List.setIfInBounds_toArray, List.set_cons_zero, List.set_cons_succ]
  refine HT.wpAny_one (i := 14) (by kernel_rfl) rfl (fun K hK => ?_)
  go_simp
  refine hK _ _ ?_
  clear hK K
  refine HT.take_at (i := 16) (v := ?_) rfl rfl (by kernel_rfl) (by kernel_rfl) (by kernel_rfl) (fun _ _ _ h => h) (Or.inl ⟨by rfl, ?_⟩) ?_
  rotate_left
  · intro wq
    go_simp
    try with_reducible rfl
  simp only [Act.put, List.setIfInBounds_toArray, List.set_cons_zero, List.set_cons_succ]
  refine HT.take_at (i := 17) (v := ?_) rfl rfl (by kernel_rfl) (by kernel_rfl) (by kernel_rfl) (fun _ _ _ h => h) (Or.inl ⟨by rfl, ?_⟩) ?_
  rotate_left
  · intro wq
    go_simp
    try with_reducible rfl
  simp only [Act.put, List.setIfInBounds_toArray, List.set_cons_zero, List.set_cons_succ]
  refine HT.take_at (i := 18) (v := ?_) rfl rfl (by kernel_rfl) (by kernel_rfl) (by kernel_rfl) (fun _ _ _ h => h) (Or.inl ⟨by rfl, ?_⟩) ?_
  rotate_left
  · intro wq
    go_simp
    try with_reducible rfl
  simp only [Act.put, List.setIfInBounds_toArray, List.set_cons_zero, List.set_cons_succ]
  refine HT.take_at (i := 19) (v := ?_) rfl rfl (by kernel_rfl) (by kernel_rfl) (by kernel_rfl) (fun _ _ _ h => h) (Or.inl ⟨by rfl, ?_⟩) ?_
  rotate_left
  · intro wq
    go_simp
    try with_reducible rfl
  simp only [Act.put, List.setIfInBounds_toArray, List.set_cons_zero, List.set_cons_succ]
  refine HT.take_at (i := 20) (v := ?_) rfl rfl (by kernel_rfl) (by kernel_rfl) (by kernel_rfl) (fun _ _ _ h => h) (Or.inl ⟨by rfl, ?_⟩) ?_
  rotate_left
  · intro wq
    go_simp
    try with_reducible rfl
  simp only [Act.put, List.setIfInBounds_toArray, List.set_cons_zero, List.set_cons_succ]
  refine HT.take_at (i := 21) (v := ?_) rfl rfl (by kernel_rfl) (by kernel_rfl) (by kernel_rfl) (fun _ _ _ h => h) (Or.inl ⟨by rfl, ?_⟩) ?_
  rotate_left
  · intro wq
    go_simp
    try with_reducible rfl
  simp only [Act.put, List.setIfInBounds_toArray, List.set_cons_zero, List.set_cons_succ]
  refine HT.take_at (i := 22) (v := ?_) rfl rfl (by kernel_rfl) (by kernel_rfl) (by kernel_rfl) (fun _ _ _ h => h) (Or.inl ⟨by rfl, ?_⟩) ?_
  rotate_left
  · intro wq
    go_simp
    try with_reducible rfl
  simp only [Act.put, List.setIfInBounds_toArray, List.set_cons_zero, List.set_cons_succ]
  refine HT.take_at (i := 23) (v := ?_) rfl rfl (by kernel_rfl) (by kernel_rfl) (by kernel_rfl) (fun _ _ _ h => h) (Or.inl ⟨by rfl, ?_⟩) ?_
  rotate_left
  · intro wq
    go_simp
    try with_reducible rfl
  simp only [Act.put, List.setIfInBounds_toArray, List.set_cons_zero, List.set_cons_succ]
  refine HT.take_at (i := 24) (v := ?_) rfl rfl (by kernel_rfl) (by kernel_rfl) (by kernel_rfl) (fun _ _ _ h => h) (Or.inl ⟨by rfl, ?_⟩) ?_
  rotate_left
  · intro wq
    go_simp
    try with_reducible rfl
  simp only [Act.put, List.setIfInBounds_toArray, List.set_cons_zero, List.set_cons_succ]
  refine HT.take_at (i := 25) (v := ?_) rfl rfl (by kernel_rfl) (by kernel_rfl) (by kernel_rfl) (fun _ _ _ h => h) (Or.inl ⟨by rfl, ?_⟩) ?_
  rotate_left
  · intro wq
    go_simp
    try with_reducible rfl
  simp only [Act.put, List.setIfInBounds_toArray, List.set_cons_zero, List.set_cons_succ]
  refine HT.take_at (i := 26) (v := ?_) rfl rfl (by kernel_rfl) (by kernel_rfl) (by kernel_rfl) (fun _ _ _ h => h) (Or.inl ⟨by rfl, ?_⟩) ?_
  rotate_left
  · intro wq
    go_simp
    try with_reducible rfl
  simp only [Act.put, List.setIfInBounds_toArray, List.set_cons_zero, List.set_cons_succ]
  refine HT.take_at (i := 27) (v := ?_) rfl rfl (by kernel_rfl) (by kernel_rfl) (by kernel_rfl) (fun _ _ _ h => h) (Or.inl ⟨by rfl, ?_⟩) ?_
  rotate_left
  · intro wq
    go_simp
    try with_reducible rfl
  simp only [Act.put, List.setIfInBounds_toArray, List.set_cons_zero, List.set_cons_succ]
  refine HT.take_at (i := 28) (v := ?_) rfl rfl (by kernel_rfl) (by kernel_rfl) (by kernel_rfl) (fun _ _ _ h => h) (Or.inl ⟨by rfl, ?_⟩) ?_
  rotate_left
  · intro wq
    go_simp
    try with_reducible rfl
  simp only [Act.put, List.setIfInBounds_toArray, List.set_cons_zero, List.set_cons_succ]
  refine HT.take_at (i := 29) (v := ?_) rfl rfl (by kernel_rfl) (by kernel_rfl) (by kernel_rfl) (fun _ _ _ h => h) (Or.inl ⟨by rfl, ?_⟩) ?_
  rotate_left
  · intro wq
    go_simp
    try with_reducible rfl
  simp only [Act.put, List.setIfInBounds_toArray, List.set_cons_zero, List.set_cons_succ]
  refine HT.take_at (i := 30) (v := ?_) rfl rfl (by kernel_rfl) (by kernel_rfl) (by kernel_rfl) (fun _ _ _ h => h) (Or.inl ⟨by rfl, ?_⟩) ?_
  rotate_left
  · intro wq
    go_simp
    try with_reducible rfl
  simp only [Act.put, List.setIfInBounds_toArray, List.set_cons_zero, List.set_cons_succ]
  refine HT.wpAny_one (i := 31) (by kernel_rfl) rfl (fun K hK => ?_)
  go_simp
  refine hK _ _ ?_
  clear hK K
  refine HT.take_at (i := 32) (v := ?_) rfl rfl (by kernel_rfl) (by kernel_rfl) (by kernel_rfl) (fun _ _ _ h => h) (Or.inl ⟨by rfl, ?_⟩) ?_
  rotate_left
  · intro wq
    go_simp
    try with_reducible rfl
  simp only [Act.put, List.setIfInBounds_toArray, List.set_cons_zero, List.set_cons_succ]
  refine HT.take_at (i := 33) (v := ?_) rfl rfl (by kernel_rfl) (by kernel_rfl) (by kernel_rfl) (fun _ _ _ h => h) (Or.inl ⟨by rfl, ?_⟩) ?_
  rotate_left
  · intro wq
    go_simp
    try with_reducible rfl
  simp only [Act.put, List.setIfInBounds_toArray, List.set_cons_zero, List.set_cons_succ]
  refine HT.take_at (i := 34) (v := ?_) rfl rfl (by kernel_rfl) (by kernel_rfl) (by kernel_rfl) (fun _ _ _ h => h) (Or.inl ⟨by rfl, ?_⟩) ?_
  rotate_left
  · intro wq
    go_simp
    try with_reducible rfl
  simp only [Act.put, List.setIfInBounds_toArray, List.set_cons_zero, List.set_cons_succ]
  refine HT.take_at (i := 35) (v := ?_) rfl rfl (by kernel_rfl) (by kernel_rfl) (by kernel_rfl) (fun _ _ _ h => h) (Or.inl ⟨by rfl, ?_⟩) ?_
  rotate_left
  · intro wq
    go_simp
    try with_reducible rfl
  simp only [Act.put, List.setIfInBounds_toArray, List.set_cons_zero, List.set_cons_succ]
  refine HT.take_at (i := 36) (v := ?_) rfl rfl (by kernel_rfl) (by kernel_rfl) (by kernel_rfl) (fun _ _ _ h => h) (Or.inl ⟨by rfl, ?_⟩) ?_
  rotate_left
  · intro wq
    go_simp
    try with_reducible rfl
  simp only [Act.put, List.setIfInBounds_toArray, List.set_cons_zero, List.set_cons_succ]
  refine HT.take_at (i := 37) (v := ?_) rfl rfl (by kernel_rfl) (by kernel_rfl) (by kernel_rfl) (fun _ _ _ h => h) (Or.inl ⟨by rfl, ?_⟩) ?_
  rotate_left
  · intro wq
    go_simp
    try with_reducible rfl
  simp only [Act.put, List.setIfInBounds_toArray, List.set_cons_zero, List.set_cons_succ]
  refine HT.take_at (i := 38) (v := ?_) rfl rfl (by kernel_rfl) (by kernel_rfl) (by kernel_rfl) (fun _ _ _ h => h) (Or.inl ⟨by rfl, ?_⟩) ?_
  rotate_left
  · intro wq
    go_simp
    try with_reducible rfl
  simp only [Act.put, List.setIfInBounds_toArray, List.set_cons_zero, List.set_cons_succ]
  refine HT.take_at (i := 39) (v := ?_) rfl rfl (by kernel_rfl) (by kernel_rfl) (by kernel_rfl) (fun _ _ _ h => h) (Or.inl ⟨by rfl, ?_⟩) ?_
  rotate_left
  · intro wq
    go_simp
    try with_reducible rfl
  simp only [Act.put, List.setIfInBounds_toArray, List.set_cons_zero, List.set_cons_succ]
  refine HT.take_at (i := 40) (v := ?_) rfl rfl (by kernel_rfl) (by kernel_rfl) (by kernel_rfl) (fun _ _ _ h => h) (Or.inl ⟨by rfl, ?_⟩) ?_
  rotate_left
  · intro wq
    go_simp
    try with_reducible rfl
  simp only [Act.put, List.setIfInBounds_toArray, List.set_cons_zero, List.set_cons_succ]
  refine HT.take_at (i := 41) (v := ?_) rfl rfl (by kernel_rfl) (by kernel_rfl) (by kernel_rfl) (fun _ _ _ h => h) (Or.inl ⟨by rfl, ?_⟩) ?_
  rotate_left
  · intro wq
    go_simp
    try with_reducible rfl
  simp only [Act.put, List.setIfInBounds_toArray, List.set_cons_zero, List.set_cons_succ]
  refine HT.take_at (i := 42) (v := ?_) rfl rfl (by kernel_rfl) (by kernel_rfl) (by kernel_rfl) (fun _ _ _ h => h) (Or.inl ⟨by rfl, ?_⟩) ?_
  rotate_left
  · intro wq
    go_simp
    try with_reducible rfl
  simp only [Act.put, List.setIfInBounds_toArray, List.set_cons_zero, List.set_cons_succ]
  refine HT.take_at (i := 43) (v := ?_) rfl rfl (by kernel_rfl) (by kernel_rfl) (by kernel_rfl) (fun _ _ _ h => h) (Or.inl ⟨by rfl, ?_⟩) ?_
  rotate_left
  · intro wq
    go_simp
    try with_reducible rfl
  simp only [Act.put, List.setIfInBounds_toArray, List.set_cons_zero, List.set_cons_succ]
  refine HT.take_at (i := 44) (v := ?_) rfl rfl (by kernel_rfl) (by kernel_rfl) (by kernel_rfl) (fun _ _ _ h => h) (Or.inl ⟨by rfl, ?_⟩) ?_
  rotate_left
  · intro wq
    go_simp
    try with_reducible rfl
  simp only [Act.put, List.setIfInBounds_toArray, List.set_cons_zero, List.set_cons_succ]
  refine HT.take_at (i := 45) (v := ?_) rfl rfl (by kernel_rfl) (by kernel_rfl) (by kernel_rfl) (fun _ _ _ h => h) (Or.inl ⟨by rfl, ?_⟩) ?_
  rotate_left
  · intro wq
    go_simp
    try with_reducible rfl
  simp only [Act.put, List.setIfInBounds_toArray, List.set_cons_zero, List.set_cons_succ]
  refine HT.take_at (i := 46) (v := ?_) rfl rfl (by kernel_rfl) (by kernel_rfl) (by kernel_rfl) (fun _ _ _ h => h) (Or.inl ⟨by rfl, ?_⟩) ?_
  rotate_left
  · intro wq
    go_simp
    try with_reducible rfl
  simp only [Act.put, List.setIfInBounds_toArray, List.set_cons_zero, List.set_cons_succ]
  refine HT.take_at (i := 47) (v := ?_) rfl rfl (by kernel_rfl) (by kernel_rfl) (by kernel_rfl) (fun _ _ _ h => h) (Or.inl ⟨by rfl, ?_⟩) ?_
  rotate_left
  · intro wq
    go_simp
    try with_reducible rfl
  simp only [Act.put, List.setIfInBounds_toArray, List.set_cons_zero, List.set_cons_succ]
  refine HT.take_at (i := 48) (v := ?_) rfl rfl (by kernel_rfl) (by kernel_rfl) (by kernel_rfl) (fun _ _ _ h => h) (Or.inl ⟨by rfl, ?_⟩) ?_
  rotate_left
  · intro wq
    go_simp
    try with_reducible rfl
  simp only [Act.put, List.setIfInBounds_toArray, List.set_cons_zero, List.set_cons_succ]
  refine HT.take_at (i := 49) (v := ?_) rfl rfl (by kernel_rfl) (by kernel_rfl) (by kernel_rfl) (fun _ _ _ h => h) (Or.inl ⟨by rfl, ?_⟩) ?_
  rotate_left
  · intro wq
    go_simp
    try with_reducible rfl
  simp only [Act.put, List.setIfInBounds_toArray, List.set_cons_zero, List.set_cons_succ]
  refine HT.take_at (i := 50) (v := ?_) rfl rfl (by kernel_rfl) (by kernel_rfl) (by kernel_rfl) (fun _ _ _ h => h) (Or.inl ⟨by rfl, ?_⟩) ?_
  rotate_left
  · intro wq
    go_simp
    try with_reducible rfl
  simp only [Act.put, List.setIfInBounds_toArray, List.set_cons_zero, List.set_cons_succ]
  refine HT.wpAny_two (i := 51) (j := 52) (by kernel_rfl) rfl rfl (fun K hK => ?_) (fun K hK => ?_)
  · go_simp
    refine hK _ _ ?_
    clear hK K
    refine HT.wpAny_one (i := 52) (by kernel_rfl) rfl (fun K hK => ?_)
    go_simp
    refine hK _ _ ?_
    clear hK K
    refine HT.wpAny_one (i := 53) (by kernel_rfl) rfl (fun K hK => ?_)
    go_simp
    refine cCopy.mono ?_
    rintro e w2 ⟨e0, e1, e2, e3, rfl, hV2, hb2⟩
    have hV2 := IsV.stays (lo' := 0) (Stays.refl _ w2) (Nat.zero_le _) _ _ _ _ _ hV2
    have acc := acc.trans (hb2.mono acc.size)
    have hV3 := IsV.stays (Below.stays hb2 0) (Nat.le_refl 0) _ _ _ _ _ hVd
    simp only
    refine hK _ _ ?_
    clear hK K
    refine HT.wpAny_one (i := 54) (by kernel_rfl) rfl (fun K hK => ?_)
    go_simp
    refine (cSame _ _ _ _ _ hV3 hV2).mono ?_
    rintro e w3 ⟨rfl, hb3⟩
    have acc := acc.trans (hb3.mono acc.size)
    simp only
    refine hK _ _ ?_
    clear hK K
    refine HT.take_at (i := 55) (v := ?_) rfl rfl (by kernel_rfl) (by kernel_rfl) (by kernel_rfl) (fun _ _ _ h => h) (Or.inl ⟨by rfl, ?_⟩) ?_
    rotate_left
    · intro wq
      go_simp
      try with_reducible rfl
    simp only [Act.put, List.setIfInBounds_toArray, List.set_cons_zero, List.set_cons_succ]
    refine HT.take_at (i := 56) (v := ?_) rfl rfl (by kernel_rfl) (by kernel_rfl) (by kernel_rfl) (fun _ _ _ h => h) (Or.inl ⟨by rfl, ?_⟩) ?_
    rotate_left
    · intro wq
      go_simp
      try with_reducible rfl
    simp only [Act.put, List.setIfInBounds_toArray, List.set_cons_zero, List.set_cons_succ]
    refine HT.take_at (i := 57) (v := ?_) rfl rfl (by kernel_rfl) (by kernel_rfl) (by kernel_rfl) (fun _ _ _ h => h) (Or.inl ⟨by rfl, ?_⟩) ?_
    rotate_left
    · intro wq
      go_simp
      try with_reducible rfl
    simp only [Act.put, List.setIfInBounds_toArray, List.set_cons_zero, List.set_cons_succ]
    refine HT.wpAny_one (i := 58) (by kernel_rfl) rfl (fun K hK => ?_)
    go_simp
    refine (cMay _).mono ?_
    rintro e w4 ⟨rfl, hb4⟩
    have acc := acc.trans (hb4.mono acc.size)
    simp only
    refine hK _ _ ?_
    clear hK K
    refine HT.take_at (i := 59) (v := ?_) rfl rfl (by kernel_rfl) (by kernel_rfl) (by kernel_rfl) (fun _ _ _ h => h) (Or.inl ⟨by rfl, ?_⟩) ?_
    rotate_left
    · intro wq
      go_simp
      try with_reducible rfl
    simp only [Act.put, List.setIfInBounds_toArray, List.set_cons_zero, List.set_cons_succ]
    refine HT.take_at (i := 60) (v := ?_) rfl rfl (by kernel_rfl) (by kernel_rfl) (by kernel_rfl) (fun _ _ _ h => h) (Or.inl ⟨by rfl, ?_⟩) ?_
    rotate_left
    · intro wq
      go_simp
      try with_reducible rfl
    simp only [Act.put, List.setIfInBounds_toArray, List.set_cons_zero, List.set_cons_succ]
    refine HT.take_at (i := 61) (v := ?_) rfl rfl (by kernel_rfl) (by kernel_rfl) (by kernel_rfl) (fun _ _ _ h => h) (Or.inl ⟨by rfl, ?_⟩) ?_
    rotate_left
    · intro wq
      go_simp
      try with_reducible rfl
    simp only [Act.put, List.setIfInBounds_toArray, List.set_cons_zero, List.set_cons_succ]
    refine wpAny_done (by kernel_rfl) ?_ _
    go_wp2
    go_ret
    exact ⟨rfl, acc⟩
  · go_simp
    refine hK _ _ ?_
    clear hK K
    refine HT.wpAny_two (i := 51) (j := 53) (by kernel_rfl) rfl rfl (fun K hK => ?_) (fun K hK => ?_)
    · go_simp
      refine hK _ _ ?_
      clear hK K
      refine HT.wpAny_one (i := 53) (by kernel_rfl) rfl (fun K hK => ?_)
      go_simp
      refine cCopy.mono ?_
      rintro e w2 ⟨e0, e1, e2, e3, rfl, hV2, hb2⟩
      have hV2 := IsV.stays (lo' := 0) (Stays.refl _ w2) (Nat.zero_le _) _ _ _ _ _ hV2
      have acc := acc.trans (hb2.mono acc.size)
      have hV3 := IsV.stays (Below.stays hb2 0) (Nat.le_refl 0) _ _ _ _ _ hVd
      simp only
      refine hK _ _ ?_
      clear hK K
      refine HT.wpAny_one (i := 54) (by kernel_rfl) rfl (fun K hK => ?_)
      go_simp
      refine (cSame _ _ _ _ _ hV3 hV2).mono ?_
      rintro e w3 ⟨rfl, hb3⟩
      have acc := acc.trans (hb3.mono acc.size)
      simp only
      refine hK _ _ ?_
      clear hK K
      refine HT.take_at (i := 55) (v := ?_) rfl rfl (by kernel_rfl) (by kernel_rfl) (by kernel_rfl) (fun _ _ _ h => h) (Or.inl ⟨by rfl, ?_⟩) ?_
      rotate_left
      · intro wq
        go_simp
        try with_reducible rfl
      simp only [Act.put, List.setIfInBounds_toArray, List.set_cons_zero, List.set_cons_succ]
      refine HT.take_at (i := 56) (v := ?_) rfl rfl (by kernel_rfl) (by kernel_rfl) (by kernel_rfl) (fun _ _ _ h => h) (Or.inl ⟨by rfl, ?_⟩) ?_
      rotate_left
      · intro wq
        go_simp
        try with_reducible rfl
      simp only [Act.put, List.setIfInBounds_toArray, List.set_cons_zero, List.set_cons_succ]
      refine HT.take_at (i := 57) (v := ?_) rfl rfl (by kernel_rfl) (by kernel_rfl) (by kernel_rfl) (fun _ _ _ h => h) (Or.inl ⟨by rfl, ?_⟩) ?_
      rotate_left
      · intro wq
        go_simp
        try with_reducible rfl
      simp only [Act.put, List.setIfInBounds_toArray, List.set_cons_zero, List.set_cons_succ]
      refine HT.wpAny_one (i := 58) (by kernel_rfl) rfl (fun K hK => ?_)
      go_simp
      refine (cMay _).mono ?_
      rintro e w4 ⟨rfl, hb4⟩
      have acc := acc.trans (hb4.mono acc.size)
      simp only
      refine hK _ _ ?_
      clear hK K
      refine HT.take_at (i := 59) (v := ?_) rfl rfl (by kernel_rfl) (by kernel_rfl) (by kernel_rfl) (fun _ _ _ h => h) (Or.inl ⟨by rfl, ?_⟩) ?_
      rotate_left
      · intro wq
        go_simp
        try with_reducible rfl
      simp only [Act.put, List.setIfInBounds_toArray, List.set_cons_zero, List.set_cons_succ]
      refine HT.take_at (i := 60) (v := ?_) rfl rfl (by kernel_rfl) (by kernel_rfl) (by kernel_rfl) (fun _ _ _ h => h) (Or.inl ⟨by rfl, ?_⟩) ?_
      rotate_left
      · intro wq
        go_simp
        try with_reducible rfl
      simp only [Act.put, List.setIfInBounds_toArray, List.set_cons_zero, List.set_cons_succ]
      refine HT.take_at (i := 61) (v := ?_) rfl rfl (by kernel_rfl) (by kernel_rfl) (by kernel_rfl) (fun _ _ _ h => h) (Or.inl ⟨by rfl, ?_⟩) ?_
      rotate_left
      · intro wq
        go_simp
        try with_reducible rfl
      simp only [Act.put, List.setIfInBounds_toArray, List.set_cons_zero, List.set_cons_succ]
      refine wpAny_done (by kernel_rfl) ?_ _
      go_wp2
      go_ret
      exact ⟨rfl, acc⟩
    · go_simp
      refine cCopy.mono ?_
      rintro e w2 ⟨e0, e1, e2, e3, rfl, hV2, hb2⟩
      have hV2 := IsV.stays (lo' := 0) (Stays.refl _ w2) (Nat.zero_le _) _ _ _ _ _ hV2
      have acc := acc.trans (hb2.mono acc.size)
      have hV3 := IsV.stays (Below.stays hb2 0) (Nat.le_refl 0) _ _ _ _ _ hVd
      simp only
      refine hK _ _ ?_
      clear hK K
      have g0 := (hb2.cell (p := ⟨n1, 0, none⟩) hn1).trans c0
      have g1 := (hb2.cell (p := ⟨n1, 1, none⟩) hn1).trans c1
      have g2 := (hb2.cell (p := ⟨n1, 2, none⟩) hn1).trans c2
      have g3 := (hb2.cell (p := ⟨n1, 3, none⟩) hn1).trans c3
      refine HT.wpAny_one (i := 51) (by kernel_rfl) rfl (fun K hK => ?_)
      go_simp
      refine hK _ _ ?_
      clear hK K
      refine HT.wpAny_one (i := 54) (by kernel_rfl) rfl (fun K hK => ?_)
      go_simp
      refine (cSame _ _ _ _ _ hV3 hV2).mono ?_
      rintro e w3 ⟨rfl, hb3⟩
      have acc := acc.trans (hb3.mono acc.size)
      simp only
      refine hK _ _ ?_
      clear hK K
      refine HT.take_at (i := 55) (v := ?_) rfl rfl (by kernel_rfl) (by kernel_rfl) (by kernel_rfl) (fun _ _ _ h => h) (Or.inl ⟨by rfl, ?_⟩) ?_
      rotate_left
      · intro wq
        go_simp
        try with_reducible rfl
      simp only [Act.put, List.setIfInBounds_toArray, List.set_cons_zero, List.set_cons_succ]
      refine HT.take_at (i := 56) (v := ?_) rfl rfl (by kernel_rfl) (by kernel_rfl) (by kernel_rfl) (fun _ _ _ h => h) (Or.inl ⟨by rfl, ?_⟩) ?_
      rotate_left
      · intro wq
        go_simp
        try with_reducible rfl
      simp only [Act.put, List.setIfInBounds_toArray, List.set_cons_zero, List.set_cons_succ]
      refine HT.take_at (i := 57) (v := ?_) rfl rfl (by kernel_rfl) (by kernel_rfl) (by kernel_rfl) (fun _ _ _ h => h) (Or.inl ⟨by rfl, ?_⟩) ?_
      rotate_left
      · intro wq
        go_simp
        try with_reducible rfl
      simp only [Act.put, List.setIfInBounds_toArray, List.set_cons_zero, List.set_cons_succ]
      refine HT.wpAny_one (i := 58) (by kernel_rfl) rfl (fun K hK => ?_)
      go_simp
      refine (cMay _).mono ?_
      rintro e w4 ⟨rfl, hb4⟩
      have acc := acc.trans (hb4.mono acc.size)
      simp only
      refine hK _ _ ?_
      clear hK K
      refine HT.take_at (i := 59) (v := ?_) rfl rfl (by kernel_rfl) (by kernel_rfl) (by kernel_rfl) (fun _ _ _ h => h) (Or.inl ⟨by rfl, ?_⟩) ?_
      rotate_left
      · intro wq
        go_simp
        try with_reducible rfl
      simp only [Act.put, List.setIfInBounds_toArray, List.set_cons_zero, List.set_cons_succ]
      refine HT.take_at (i := 60) (v := ?_) rfl rfl (by kernel_rfl) (by kernel_rfl) (by kernel_rfl) (fun _ _ _ h => h) (Or.inl ⟨by rfl, ?_⟩) ?_
      rotate_left
      · intro wq
        go_simp
        try with_reducible rfl
      simp only [Act.put, List.setIfInBounds_toArray, List.set_cons_zero, List.set_cons_succ]
      refine HT.take_at (i := 61) (v := ?_) rfl rfl (by kernel_rfl) (by kernel_rfl) (by kernel_rfl) (fun _ _ _ h => h) (Or.inl ⟨by rfl, ?_⟩) ?_
      rotate_left
      · intro wq
        go_simp
        try with_reducible rfl
      simp only [Act.put, List.setIfInBounds_toArray, List.set_cons_zero, List.set_cons_succ]
      refine wpAny_done (by kernel_rfl) ?_ _
      go_wp2
      go_ret
      exact ⟨rfl, acc⟩
  -- END
end Go.Proofs.YtakdhfjlhkejdaaGreatDoor
