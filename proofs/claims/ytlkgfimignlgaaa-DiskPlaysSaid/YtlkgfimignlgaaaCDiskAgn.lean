/-
  CONTRACT of again: the first n loose operations are done on the files as they were synced.
-/
import Derived.Test.YtlkgfimignlgaaaCDiskDK
set_option linter.unusedSimpArgs false
set_option linter.unusedVariables false
set_option linter.unusedVariables false
set_option linter.unusedSimpArgs false
namespace Go.Proofs.Ytlkgfimignlgaaa
open Go.RowKit
theorem size_op : (Try.prog.info? 69).map (·.size) = some 1 := by kernel_rfl
theorem run_opHi {a : Option Addr} {n c : Nat} (h : Nat) (h2 : h ≤ c) (w : World) : (Instr.slice 58 (.slice a n c) none (some (.int .i64 (h : Int))) none).run Try.prog w = .ok (.slice a h c) w := by
  have hs : (sizeOf 69).run Try.prog w = .ok 1 w := by
    have := size_op
    cases hq : Try.prog.info? 69 with
    | none => simp [hq] at this
    | some x =>
      simp [hq] at this
      simp [sizeOf, typeInfo, hq, this]
  have e : (if c = 0 then a else Option.map (fun x => x.add 0) a) = a := by
    by_cases e : c = 0
    · rw [if_pos e]
    · rw [if_neg e]
      cases a <;> simp [Addr.add]
  simp [Instr.slice, Instr.sliceBounds, Instr.sliceBound, asIntOf, run_underlying Try.underlying58, hs, go_sem, h2, e]
theorem opvs_at : ∀ {w : World} {fs : List Value} {L : List Op} (n : Nat) (h : n < L.length), OpVs w fs L → ∃ f, fs[n]? = some f ∧ OpV w f L[n]
  | w, f :: fs, op :: L, 0, _, h => ⟨f, rfl, h.1⟩
  | w, f :: fs, op :: L, n + 1, hn, h => by
    obtain ⟨g, h1, h2⟩ := opvs_at (L := L) n (by simpa using hn) h.2
    exact ⟨g, h1, h2⟩
  | w, [], _ :: _, _, _, h => h.elim
theorem lv_at {w : World} {lv : Value} {fs : List Value} {L : List Op} (h : LV w lv fs L) (n : Nat) (hn : n < L.length) : ∃ g cap f, lv = .slice (some ⟨g, 0, none⟩) L.length cap ∧ L.length ≤ cap ∧ w.cell? ⟨g, n, none⟩ = some f ∧ OpV w f L[n] := by
  obtain ⟨f, h1, h2⟩ := opvs_at n hn h.ops
  rcases h.row.2 with ⟨_, h0⟩ | ⟨g, cap, cur, rfl, hb, hg, hcap, _⟩
  · omega
  · refine ⟨g, cap, f, rfl, hcap, ?_, h2⟩
    rw [World.ownsRow.cellAt h.row n (by omega)]
    exact h1
theorem lv_form {w : World} {lv : Value} {fs : List Value} {L : List Op} (h : LV w lv fs L) : ∃ a cap, lv = .slice a L.length cap ∧ L.length ≤ cap := by
  rcases h.row.2 with ⟨rfl, h0⟩ | ⟨g, cap, cur, rfl, hb, hg, hcap, _⟩
  · rw [h0]; exact ⟨none, 0, rfl, Nat.le_refl _⟩
  · exact ⟨_, _, rfl, hcap⟩
/-- what again comes to -/
def AgnEnd (w : World) (m2 : Nat) (E2 : List En) (L : List Op) (n : Nat) (w' : World) : Prop :=
  ∃ E', FM w' m2 E' ∧ datF E' = doAll (datF E2) (L.take n) ∧ Turn w w' (Foot m2 E2) ∧ ∀ j, Foot m2 E' j → Foot m2 E2 j ∨ w.heap.size ≤ j
theorem agn_step {w wr w' : World} {m2 i : Nat} {E2 E' : List En} {L : List Op} (hi : i < L.length) (hd : datF E' = doAll (datF E2) (L.take i)) (hT : Turn w wr (Foot m2 E2)) (hx : ∀ j, Foot m2 E' j → Foot m2 E2 j ∨ w.heap.size ≤ j)
    (he : doAll (datF E2) (L.take (i + 1)) = doF 16777217 (doAll (datF E2) (L.take i)) L[i]) (h : DoEnd wr m2 E' (doF 16777217 (datF E') L[i]) w') : AgnEnd w m2 E2 L (i + 1) w' := by
  obtain ⟨E'', h1, h2, h3, h4⟩ := h
  refine ⟨E'', h1, by rw [h2, hd, he], hT.then h3 fun j hj hf => ?_, fun j hj => ?_⟩
  · rcases hx j hf with h | h
    · exact h
    · omega
  · rcases h4 j hj with h | h
    · exact hx j h
    · exact .inr (Nat.le_trans hT.size h)
set_option maxRecDepth 10000000 in
set_option maxHeartbeats 4000000 in
theorem again_any (db m1 m2 : Nat) (room fuse : Int) (lv : Value) (E2 : List En) (fs : List Value) (L : List Op) (n : Nat) (w : World) (hD : DB w db room fuse m1 m2 lv) (hF : FM w m2 E2) (hL : LV w lv fs L) (hc : Chain room (datF E2) L) (hr : room ≤ 16777216) (hn : n ≤ L.length) (hlt : L.length ≤ 1000000) :
    Calls Try.prog 49 #[ptr db, .int .i64 (n : Nat)] w fun e w' => e = .returned (.tuple #[]) ∧ AgnEnd w m2 E2 L n w' := by
  obtain ⟨c0, c1, c2, c3, c4⟩ := hD.cells
  obtain ⟨av, cv, hav, hcv⟩ := lv_form hL
  have hsl := fun w => run_opHi (a := av) (n := L.length) (c := cv) n (by omega) w
  have hS : AgnEnd w m2 E2 L 0 w := ⟨E2, hF, rfl, Turn.refl _ _, fun j hj => .inl hj⟩
  have HAT := Lib.hid (lv_at hL)
  rw [hav] at c4
  unfold ptr
  go_enter Try.func49, Try.ntmps49
  go_wp2
  go_loopw [13] (fun v wr => ∃ i : Nat, v = .int .i64 i ∧ i ≤ n ∧ AgnEnd w m2 E2 L i wr) (fun v _ => n - (intOf v).toNat)
  case atStart => exact ⟨0, rfl, by omega, hS⟩
  case round =>
    clear hS c0 c1 c2 c3 c4
    obtain ⟨i, rfl, hi, hA⟩ := hrel
    by_cases hin : i < n
    · obtain ⟨E', hF', hd, hT, hx⟩ := hA
      have hiL : i < L.length := by omega
      obtain ⟨hfine, hok, he⟩ := hc.at' i hiL
      rw [← hd] at hfine hok
      have hsm := sm_of hfine hr
      have hD' := hT.db hF hD
      have hL' := hT.lv hF hL
      obtain ⟨g, cap, f, hlv, hcap, hcell, hop⟩ := lv_at hL' i hiL
      rw [hav] at hlv
      injection hlv with e1 e2 e3
      subst e1 e3
      obtain ⟨d0, d1, d2, d3, d4⟩ := hD'.cells
      have hini : (i : Int) < (n : Int) := by omega
      have hi0 : (0 : Int) ≤ (i : Int) := by omega
      have HSTEP : ∀ w', DoEnd wr m2 E' (doF 16777217 (datF E') L[i]) w' → AgnEnd w m2 E2 L (i + 1) w' := fun w' h => agn_step hiL hd hT hx he h
      have HST := Lib.hid HSTEP
      clear HSTEP he hd hx hsl
      cases hopc : L[i] with
      | app s d =>
        rw [hopc] at hop hok HST
        obtain ⟨b1, b2, rfl, h1, h2⟩ := hop
        have cC := do_app m2 E' s d b1 b2 16777217 wr hF' h1 h2 hok hsm (by omega)
        unfold ptr at cC hcell
        clear hopc hok h1 h2
        go_wp2_with (go_at_call 57; refine cC.mono ?_; rintro e w1 ⟨rfl, hE⟩)
        go_roundw
        case rel => exact ⟨i + 1, by go_num, by omega, HST.out _ hE⟩
        case measure => simp [intOf]; omega
      | cut s k =>
        rw [hopc] at hop hok HST
        obtain ⟨c, iv, rfl, h1, h2⟩ := hop
        have cC := do_und m2 E' (.cut s k) c iv 16777217 wr hF' h1 h2 hok hsm (by omega)
        unfold ptr at cC hcell
        clear hopc hok h1 h2
        go_wp2_with (go_at_call 69; refine cC.mono ?_; rintro e w1 ⟨rfl, hE⟩)
        go_roundw
        case rel => exact ⟨i + 1, by go_num, by omega, HST.out _ hE⟩
        case measure => simp [intOf]; omega
      | ren s t =>
        rw [hopc] at hop hok HST
        obtain ⟨c, iv, rfl, h1, h2⟩ := hop
        have cC := do_und m2 E' (.ren s t) c iv 16777217 wr hF' h1 h2 hok hsm (by omega)
        unfold ptr at cC hcell
        clear hopc hok h1 h2
        go_wp2_with (go_at_call 69; refine cC.mono ?_; rintro e w1 ⟨rfl, hE⟩)
        go_roundw
        case rel => exact ⟨i + 1, by go_num, by omega, HST.out _ hE⟩
        case measure => simp [intOf]; omega
      | rem s =>
        rw [hopc] at hop hok HST
        obtain ⟨c, iv, rfl, h1, h2⟩ := hop
        have cC := do_und m2 E' (.rem s) c iv 16777217 wr hF' h1 h2 hok hsm (by omega)
        unfold ptr at cC hcell
        clear hopc hok h1 h2
        go_wp2_with (go_at_call 69; refine cC.mono ?_; rintro e w1 ⟨rfl, hE⟩)
        go_roundw
        case rel => exact ⟨i + 1, by go_num, by omega, HST.out _ hE⟩
        case measure => simp [intOf]; omega
    · have hin' : ¬ (i : Int) < (n : Int) := by omega
      obtain rfl : i = n := by omega
      go_wp2
      exact bodyPost_end (results_none rfl _ _ _) rfl ⟨rfl, hA⟩
end Go.Proofs.Ytlkgfimignlgaaa
