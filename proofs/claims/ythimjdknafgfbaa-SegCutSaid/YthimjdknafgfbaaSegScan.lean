/-
  CONTRACTS of the document's own Scan and Same (codicilref07). No conditions but the texts' sizes.
-/
import Derived.Test.YthimjdknafgfbaaSegRefR
import Derived.Deep.AppendLies
set_option linter.unusedVariables false
namespace Go.Proofs.Ythimjdknafgfbaa
open Go.RowKit

theorem infoText : (Try.prog.info? 9).map (fun i => (i.zero, i.size, i.bytes)) = some (some (.string ByteArray.empty), 1, 16) := by kernel_rfl
theorem seg_info {t : TypeId} {z : Value} {n b : Nat} (h : (Try.prog.info? t).map (fun i => (i.zero, i.size, i.bytes)) = some (some z, n, b)) : ∃ i, Try.prog.info? t = some i ∧ i.zero = some z ∧ i.size = n ∧ i.bytes = b := by
  cases hi : Try.prog.info? t with
  | none => simp [hi] at h
  | some i =>
    simp [hi] at h
    exact ⟨i, rfl, h.1, h.2.1, h.2.2⟩
def valT (L : List (List UInt8)) : List Value := L.map fun t => .string (bOf t)
theorem valT_len (L : List (List UInt8)) : (valT L).length = L.length := by simp [valT]
/-- a row of texts of the call's own -/
def OwnT (w : World) (B : Nat) (L : List (List UInt8)) (v : Value) : Prop := w.ownsRow B 9 1 v L.length (valT L)
theorem OwnT.nil (w : World) (B : Nat) : OwnT w B [] (.slice none 0 0) := ⟨rfl, .inl ⟨rfl, rfl⟩⟩
theorem OwnT.lt {w : World} {B : Nat} {L : List (List UInt8)} {v : Value} (h : OwnT w B L v) : ∀ k, v.ownBlock = some k → B ≤ k ∧ k < w.heap.size := by
  intro k hk
  rcases h.2 with ⟨rfl, _⟩ | ⟨g, cap, cur, rfl, hb, hg, _⟩
  · cases hk
  · have : g = k := by simpa [Value.ownBlock] using hk
    subst this
    exact ⟨hb, (Array.getElem?_eq_some_iff.1 hg).1⟩
theorem OwnT.blocks {w w' : World} {B : Nat} {L : List (List UInt8)} {v : Value} (h : OwnT w B L v) (hb : ∀ k, v.ownBlock = some k → w'.heap[k]? = w.heap[k]?) : OwnT w' B L v := by
  refine ⟨h.1, ?_⟩
  rcases h.2 with h0 | ⟨g, cap, cur, rfl, h1, hg, h3⟩
  · exact .inl h0
  · exact .inr ⟨g, cap, cur, rfl, h1, (hb g rfl).trans hg, h3⟩
theorem OwnT.keep {w w' : World} {B : Nat} {L : List (List UInt8)} {v : Value} (h : OwnT w B L v) (hb : Below w.heap.size w w') : OwnT w' B L v :=
  h.blocks fun k hk => hb.block k (h.lt k hk).2
theorem OwnT.form {w : World} {B : Nat} {L : List (List UInt8)} {v : Value} (h : OwnT w B L v) : ∃ a c, v = .slice a L.length c ∧ (∀ j, j < L.length → ∃ b, a = some ⟨b, 0, none⟩ ∧ b < w.heap.size ∧ w.cell? ⟨b, j, none⟩ = some (.string (bOf (L.getD j [])))) := by
  rcases h.2 with ⟨rfl, h0⟩ | ⟨g, cap, cur, rfl, hb, hg, _⟩
  · exact ⟨none, 0, by rw [h0], fun j hj => by omega⟩
  · refine ⟨_, _, rfl, fun j hj => ⟨g, rfl, (Array.getElem?_eq_some_iff.1 hg).1, ?_⟩⟩
    have := World.ownsRow.cellAt h j (by omega)
    rw [this]
    unfold valT
    simp [List.getElem?_map, List.getD, List.getElem?_eq_getElem hj]
theorem OwnT.snoc {w : World} {B : Nat} {L : List (List UInt8)} {t : List UInt8} {v : Value} (h : w.ownsRow B 9 1 v (L.length + 1) (valT L ++ [.string (bOf t)])) : OwnT w B (L ++ [t]) v := by
  unfold OwnT valT at *
  rw [List.length_append, List.map_append]
  exact h
def ScanI (s : ByteArray) (w : World) (v5 v6 : Value) (wr : World) (L : List (List UInt8)) (g : Nat) : Prop :=
  v6 = .int .i64 (g : Nat) ∧ g ≤ s.size ∧ 12 * L.length ≤ g ∧ OwnT wr w.heap.size L v5 ∧ Below w.heap.size w wr ∧
    scanL s.data.toList = (L ++ (scanL (s.data.toList.drop g)).1, g + (scanL (s.data.toList.drop g)).2.1, (scanL (s.data.toList.drop g)).2.2)
theorem ScanI.ok {s : ByteArray} {L : List (List UInt8)} {g : Nat} (h : scanL s.data.toList = (L ++ (scanL (s.data.toList.drop g)).1, g + (scanL (s.data.toList.drop g)).2.1, (scanL (s.data.toList.drop g)).2.2)) (he : (readL (s.data.toList.drop g)).2.2 = 0) :
    scanL s.data.toList = (L ++ [(readL (s.data.toList.drop g)).1] ++ (scanL (s.data.toList.drop (g + (readL (s.data.toList.drop g)).2.1))).1, g + (readL (s.data.toList.drop g)).2.1 + (scanL (s.data.toList.drop (g + (readL (s.data.toList.drop g)).2.1))).2.1, (scanL (s.data.toList.drop (g + (readL (s.data.toList.drop g)).2.1))).2.2) := by
  rw [h, scan_ok he, List.drop_drop]
  simp only [List.append_assoc, List.singleton_append, Nat.add_assoc]
theorem ScanI.bad {s : ByteArray} {L : List (List UInt8)} {g : Nat} (h : scanL s.data.toList = (L ++ (scanL (s.data.toList.drop g)).1, g + (scanL (s.data.toList.drop g)).2.1, (scanL (s.data.toList.drop g)).2.2)) (h0 : g < s.size) (he : (readL (s.data.toList.drop g)).2.2 ≠ 0) :
    scanL s.data.toList = (L, g, (readL (s.data.toList.drop g)).2.2) := by
  have hne : s.data.toList.drop g ≠ [] := by
    intro e
    have := congrArg List.length e
    rw [List.length_drop, ← Lib.size_eq] at this
    simp at this
    omega
  rw [h, scan_bad hne he]
  simp
theorem ScanI.done {s : ByteArray} {L : List (List UInt8)} {g : Nat} (h : scanL s.data.toList = (L ++ (scanL (s.data.toList.drop g)).1, g + (scanL (s.data.toList.drop g)).2.1, (scanL (s.data.toList.drop g)).2.2)) (h0 : g = s.size) :
    scanL s.data.toList = (L, g, 0) := by
  have hne : s.data.toList.drop g = [] := List.drop_eq_nil_of_le (by rw [← Lib.size_eq]; omega)
  rw [h, hne, scan_nil]
  simp
def scanV (l : List UInt8) (v : Value) : Ending := .returned (.tuple #[v, .int .i64 ((scanL l).2.1 : Nat), .int .i64 (scanL l).2.2])
theorem scanV_of {l : List UInt8} {v : Value} {L : List (List UInt8)} {n : Nat} {e : Int} (h : scanL l = (L, n, e)) : scanV l v = .returned (.tuple #[v, .int .i64 (n : Nat), .int .i64 e]) := by unfold scanV; rw [h]
set_option maxHeartbeats 4000000 in
set_option maxRecDepth 10000000 in
theorem refScan_any (s : ByteArray) (w : World) (hs : s.size ≤ 100000000) :
    Calls Try.prog 13 #[.string s] w fun e w' => ∃ v, e = scanV s.data.toList v ∧ OwnT w' w.heap.size (scanL s.data.toList).1 v ∧ Below w.heap.size w w' := by
  obtain ⟨i0, hi0, hz0, hz1, hz2⟩ := seg_info infoText
  go_enter Try.func13, Try.ntmps13
  go_wp2
  go_loopw [5, 6] (fun v5 v6 wr => ∃ L g, ScanI s w v5 v6 wr L g) (fun _ v6 _ => s.size - (intOf v6).toNat)
  case atStart => exact ⟨[], 0, rfl, by omega, by simp, OwnT.nil _ _, Below.refl _ _, by simp⟩
  case round =>
    obtain ⟨L, g, rfl, hg, hL, hO, hB, hS⟩ := hrel
    by_cases hlt : g < s.size
    · have hd : (g : Int) < (s.size : Int) := by omega
      have g0 : (0 : Int) ≤ (g : Int) := by omega
      have cR := fun w => refRead_any (s.extract g s.size) w (by rw [ext_size s g _ (Nat.le_refl _)]; omega)
      have el : (s.extract g s.size).data.toList = s.data.toList.drop g := by
        rw [ext_list, List.take_of_length_le]
        rw [List.length_drop, ← Lib.size_eq]
        omega
      rw [el] at cR
      unfold readV at cR
      by_cases he : (readL (s.data.toList.drop g)).2.2 = 0
      · have HS := Lib.hid (ScanI.ok hS he)
        have hr := read_ok he
        rw [List.length_drop, ← Lib.size_eq] at hr
        rw [he] at cR
        generalize readL (s.data.toList.drop g) = r at *
        obtain ⟨t, n, e⟩ := r
        obtain ⟨h12, hn, hn3⟩ := hr
        simp only at h12 hn HS cR hn3
        clear hS he el hn3
        go_wp2_with (first
          | (go_at_call 11; refine (cR _).mono ?_; rintro e w1 ⟨rfl, hb⟩; have hO1 := hO.keep (hb.mono (Nat.le_refl _)); have hB1 := hB.trans (hb.mono hB.size))
          | (at_builtin; refine wpList_append_lies _ rfl _ _ _ rfl w.heap.size 9 i0 _ 1 16 Try.underlying29 hi0 hz0 hz1 hz2 rfl (by omega) _ L.length (valT L) rfl (World.ownsRow.alloc hO1 _) ⟨w1.heap.size, 0, none⟩ 1 1 [.string (bOf t)] rfl rfl (World.news_of_block (cs := #[Value.string (bOf t)]) (t := 9) (fr := (0, 0)) (heap_alloc_new w1 _)) (by simp [Value.oneCell']) (by omega) (by unfold maxLen; omega) (by omega) (by rw [World.size_alloc]; exact Nat.le_succ_of_le hB1.size) (w1.heap.size + 1) (by simp) ?_; intro g2 cap2 w11 hown3 hgrow hat hglt2))
        have hO2 := OwnT.snoc hown3
        have hB2 := (hB1.alloc hB1.size (.cells #[Value.string (bOf t)] 9)).grown hgrow (by rw [World.size_alloc]; exact Nat.le_succ_of_le hB1.size) (fun k hk => (hO1.lt k hk).1)
        go_roundw
        case rel => exact ⟨L ++ [t], g + n, by go_num, by omega, by rw [List.length_append, List.length_singleton]; omega, hO2, hB2, HS.out⟩
        case measure => simp [intOf]; omega
      · have HS := Lib.hid (ScanI.bad hS hlt he)
        generalize readL (s.data.toList.drop g) = r at *
        obtain ⟨t, n, e⟩ := r
        simp only at HS cR he
        have he0 : (e == 0) = false := beq_false_of_ne he
        have hen : (e != 0) = true := by simp [bne, he0]
        clear hS el
        go_wp2_with (go_at_call 11; refine (cR _).mono ?_; rintro e w1 ⟨rfl, hb⟩; have hO1 := hO.keep (hb.mono (Nat.le_refl _)); have hB1 := hB.trans (hb.mono hB.size))
        go_ret3
        refine ⟨_, (scanV_of HS.out).symm, ?_, hB1⟩
        rw [HS.out]
        exact hO1
    · have HS := Lib.hid (ScanI.done hS (by omega))
      have hd : ¬ (g : Int) < (s.size : Int) := by omega
      clear hS hlt
      go_wp2
      go_ret3
      refine ⟨_, (scanV_of HS.out).symm, ?_, hB⟩
      rw [HS.out]
      exact hO
end Go.Proofs.Ythimjdknafgfbaa
