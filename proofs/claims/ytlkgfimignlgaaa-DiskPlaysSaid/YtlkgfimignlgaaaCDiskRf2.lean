/-
  THE DOCUMENT'S OWN DISK: rows of files that are owned. CONTRACT of without.
-/
import Derived.Test.YtlkgfimignlgaaaCDiskRf
set_option linter.unusedSimpArgs false
set_option linter.unusedVariables false
set_option linter.unusedVariables false
set_option linter.unusedSimpArgs false
namespace Go.Proofs.Ytlkgfimignlgaaa
open Go.RowKit
def fileC (p : ByteArray × List UInt8) : List Value := [.string p.1, .string ⟨p.2.toArray⟩]
def OwnF (w : World) (B : Nat) (v : Value) (F : Fs) : Prop := w.ownsRow B 64 2 v F.length (F.flatMap fileC)
theorem infoFile : (Try.prog.info? 64).map (fun i => (i.zero, i.size, i.bytes)) = some (some (.agg #[.string ⟨#[]⟩, .string ⟨#[]⟩]), 2, 32) := by kernel_rfl
theorem OwnF.nil (w : World) (B : Nat) : OwnF w B (.slice none 0 0) [] := World.ownsRow_nil _ _ _ _
theorem OwnF.keep {w w' : World} {B : Nat} {v : Value} {F : Fs} (h : OwnF w B v F) (hh : ∀ g, v.ownBlock = some g → w'.heap[g]? = w.heap[g]?) : OwnF w' B v F := own_keep h hh
theorem fileC_at (F : Fs) (j : Nat) (p : ByteArray × List UInt8) (h : F[j]? = some p) : (F.flatMap fileC)[j * 2]? = some (.string p.1) ∧ (F.flatMap fileC)[j * 2 + 1]? = some (.string ⟨p.2.toArray⟩) := by
  induction F generalizing j with
  | nil => simp at h
  | cons q r ih =>
    cases j with
    | zero =>
      simp only [List.getElem?_cons_zero, Option.some.injEq] at h
      subst h
      exact ⟨rfl, rfl⟩
    | succ j =>
      have := ih j (by simpa using h)
      rw [show (j + 1) * 2 = j * 2 + 2 by omega]
      exact this
theorem OwnF.form {w : World} {B : Nat} {v : Value} {F : Fs} (h : OwnF w B v F) : ∃ a c, v = .slice a F.length c ∧ F.length ≤ c ∧ RowF w a F := by
  rcases h.2 with ⟨e, h0⟩ | ⟨g, cap, cur, e, hb, hg, hcap, _⟩
  · exact ⟨none, 0, by rw [e, h0], by omega, fun j p hp => by have := (List.getElem?_eq_some_iff.1 hp).1; omega⟩
  · subst e
    refine ⟨_, _, rfl, hcap, fun j p hp => ⟨g, 0, rfl, (World.ownsRow.lt h g rfl).2, ?_⟩⟩
    have hj := (List.getElem?_eq_some_iff.1 hp).1
    have h0 := World.ownsRow.cellAt h (j * 2) (by omega)
    have h1 := World.ownsRow.cellAt h (j * 2 + 1) (by omega)
    obtain ⟨f0, f1⟩ := fileC_at F j p hp
    rw [Nat.zero_add]
    exact ⟨h0.trans f0, h1.trans f1⟩
theorem OwnF.snoc {w : World} {B : Nat} {v : Value} {F : Fs} {p : ByteArray × List UInt8} (h : w.ownsRow B 64 2 v (F.length + 1) (F.flatMap fileC ++ [.string p.1, .string ⟨p.2.toArray⟩])) : OwnF w B v (F ++ [p]) := by
  unfold OwnF
  rw [List.length_append, List.flatMap_append]
  exact h
theorem del_take {F : Fs} {i : Nat} {p : ByteArray × List UInt8} (h : F[i]? = some p) (s : ByteArray) : delF (F.take (i + 1)) s = delF (F.take i) s ++ (if eqF s p then [] else [p]) := by
  obtain ⟨hl, e⟩ := List.getElem?_eq_some_iff.1 h
  unfold delF
  rw [List.take_succ_eq_append_getElem hl, e, List.filter_append]
  congr 1
  rw [List.filter_cons]
  cases eqF s p <;> simp
set_option maxRecDepth 10000000 in
set_option maxHeartbeats 2000000 in
theorem without_any (F : Fs) (a : Option Addr) (c : Nat) (s : ByteArray) (w : World) (h : RowF w a F) (hn : F.length ≤ 1000000) :
    Calls Try.prog 68 #[.slice a F.length c, .string s] w fun e w' => ∃ v, e = .returned v ∧ OwnF w' w.heap.size v (delF F s) ∧ Below w.heap.size w w' := by
  have HF := Lib.hid h
  obtain ⟨i0, hi0, hz0, hz1, hz2⟩ := info_parts infoFile
  clear h
  have acc : Below w.heap.size w w := Below.refl _ _
  go_enter Try.func68, Try.ntmps68
  go_wp2
  go_loopw [5, 6] (fun v5 v wr => ∃ (i : Nat) (G : Fs), v = .int .i64 i ∧ i ≤ F.length ∧ G = delF (F.take i) s ∧ OwnF wr w.heap.size v5 G ∧ Below w.heap.size w wr) (fun _ v _ => F.length - (intOf v).toNat)
  case atStart => exact ⟨0, [], rfl, Nat.zero_le _, rfl, OwnF.nil _ _, acc⟩
  case round =>
    clear acc
    obtain ⟨i, G, rfl, hi, hG, hO, acc⟩ := hrel
    have HG := Lib.hid hG
    have hGl : G.length ≤ 1000000 := by
      rw [hG]
      have := (len_delF (F.take i) s).1
      rw [List.length_take] at this
      omega
    clear hG
    by_cases hlt : i < F.length
    · obtain ⟨p, hp⟩ : ∃ p, F[i]? = some p := ⟨_, List.getElem?_eq_getElem hlt⟩
      obtain ⟨b, o, rfl, hb, h0, h1⟩ := HF.out i p hp
      have d0 := (acc.cell hb).trans h0
      have d1 := (acc.cell hb).trans h1
      have hki : (i : Int) < (F.length : Int) := by omega
      have hk0 : (0 : Int) ≤ (i : Int) := by omega
      have hraw := eqF_raw s p
      have HT := Lib.hid (del_take hp s)
      obtain ⟨p1, p2⟩ := p
      simp only at h0 h1 d0 d1 hraw
      cases he : eqF s (p1, p2)
      · rw [he] at hraw HT
        have hne : (p1.toList != s.toList) = true := by simp [bne, hraw]
        obtain ⟨x2, hx2⟩ : ∃ x : ByteArray, ⟨p2.toArray⟩ = x := ⟨_, rfl⟩
        rw [hx2] at d1
        have HX := Lib.hid hx2
        clear he hp hlt h0 h1 hx2
        go_wp2_with (at_builtin; refine wpList_append_lies _ rfl _ _ _ rfl w.heap.size 64 i0 _ 2 32 Try.underlying36 hi0 hz0 hz1 hz2 rfl (by omega) _ G.length (G.flatMap fileC) rfl (World.ownsRow.alloc hO _) ⟨wr.heap.size, 0, none⟩ 1 1 [.string p1, .string x2] rfl rfl (World.news_of_block (cs := #[Value.string p1, Value.string x2]) (t := 64) (fr := (0, 0)) (heap_alloc_new wr _)) (by simp [Value.oneCell']) (by omega) (by unfold maxLen; omega) (by omega) (by rw [World.size_alloc]; exact Nat.le_succ_of_le acc.size) (wr.heap.size + 1) (by simp) ?_; intro g2 cap2 w11 hown3 hgrow hat hglt2)
        have hO2 : OwnF w11 w.heap.size _ (G ++ [(p1, p2)]) := OwnF.snoc (by rw [HX.out]; exact hown3)
        have hB2 := (acc.alloc acc.size (.cells #[Value.string p1, Value.string x2] 64)).grown hgrow (by rw [World.size_alloc]; exact Nat.le_succ_of_le acc.size) (fun k hk => (World.ownsRow.lt hO k hk).1)
        go_roundw
        case rel => exact ⟨i + 1, _, by go_num, by omega, by rw [HT.out, HG.out]; rfl, hO2, hB2⟩
        case measure => simp [intOf]; omega
      · rw [he] at hraw HT
        have hne : (p1.toList != s.toList) = false := by simp [bne, hraw]
        clear he hp hlt h0 h1
        go_wp2
        go_roundw
        case rel => exact ⟨i + 1, G, by go_num, by omega, by rw [HT.out, HG.out]; simp, hO, acc⟩
        case measure => simp [intOf]; omega
    · have hki : ¬ (i : Int) < (F.length : Int) := by omega
      have hG2 := HG.out
      rw [List.take_of_length_le (by omega)] at hG2
      subst hG2
      clear HG hlt
      go_wp2
      go_ret
      exact ⟨_, rfl, hO, acc⟩
end Go.Proofs.Ytlkgfimignlgaaa
