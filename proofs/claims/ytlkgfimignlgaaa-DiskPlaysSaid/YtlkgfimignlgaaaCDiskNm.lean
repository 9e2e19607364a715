/-
  CONTRACTS of Names, Read, Left, Loose, Fuse, over a disk's state.
-/
import Derived.Test.YtlkgfimignlgaaaCDiskCr
import Derived.Test.YtlkgfimignlgaaaCDiskIter
set_option linter.unusedSimpArgs false
set_option linter.unusedVariables false
set_option linter.unusedVariables false
set_option linter.unusedSimpArgs false
namespace Go.Proofs.Ytlkgfimignlgaaa
open Go.RowKit Go.Maps Go.Sort Go.Shelf
def namesF (F : Fs) : List (List UInt8) := F.map fun p => p.1.data.toList
theorem keys_dat (E : List En) : strKeys (datE E) = namesF (datF E) := by
  unfold strKeys datE namesF datF
  simp only [List.map_map]
  rfl
/-- a row of names -/
def RowN (w : World) (B : Nat) (v : Value) (L : List (List UInt8)) : Prop := w.ownsRow B 9 1 v L.length (L.map encStr)
theorem row_base {w : World} {B B' : Nat} {e : TypeId} {size n : Nat} {v : Value} {xs : List Value} (h : w.ownsRow B e size v n xs) (hB : B' ≤ B) : w.ownsRow B' e size v n xs := by
  refine ⟨h.1, ?_⟩
  rcases h.2 with h0 | ⟨g, cap, cur, e, h1, h2⟩
  · exact .inl h0
  · exact .inr ⟨g, cap, cur, e, Nat.le_trans hB h1, h2⟩
set_option maxRecDepth 10000000 in
set_option maxHeartbeats 4000000 in
theorem names_any (db : Nat) (st : Ds) (D : Nat → Prop) (w : World) (h : DK w db st D) :
    Calls Try.prog 24 #[ptr db] w fun e w' => ∃ v L, e = .returned v ∧ L.Perm (namesF st.now) ∧ L.Pairwise (fun x y => x ≤ y) ∧ RowN w' w.heap.size v L ∧ Below w.heap.size w w' := by
  obtain ⟨m1, m2, lv, fs, E1, E2, h⟩ := h
  have cM := made_any db m1 m2 st.room st.fuse _ w h.hdb
  obtain ⟨_, _, c2, _, _⟩ := h.hdb.cells
  have hfine := h.chain.last
  have hlen : E1.length ≤ 64 := by rw [← dat_len, h.d1]; exact hfine.2
  have cK := callsIn_wide.1 (mapsKeysK (some m1) w)
  have hsz : Maps.size (datE E1) = E1.length := dat_size E1
  have cS := callsIn_wide.1 (sortedKeysK m1 E1.length (datE E1) slotE w h.f1.map (by rw [hsz]; unfold maxLen; omega) (by rw [hsz]; omega))
  have HK := Lib.hid (keys_dat E1)
  have HD := Lib.hid h.d1
  unfold ptr at cM ⊢
  go_enter Try.func24, Try.ntmps24
  go_wp2_with (first
    | (go_at_call 38; refine cM.mono ?_; rintro e w1 ⟨rfl, rfl⟩)
    | (go_at_call 51; refine cK.mono ?_; rintro e w1 ⟨rfl, rfl⟩)
    | (go_at_call 50; refine cS.mono ?_; rintro e w1 ⟨v, ss, rfl, hS, hrow, hnil, hb⟩))
  go_ret
  rw [HK.out, HD.out] at hS
  refine ⟨v, ss.mergeSort (fun x y => decide (x ≤ y)), rfl, (List.mergeSort_perm ss _).trans hS, ?_, ?_, ((Below.refl _ _).alloc (Nat.le_refl _) _).trans (hb.mono (by simp))⟩
  · have hs := List.pairwise_mergeSort (le := fun x y : List UInt8 => decide (x ≤ y)) (fun a b c h1 h2 => decide_eq_true (List.le_trans (of_decide_eq_true h1) (of_decide_eq_true h2))) (fun a b => by
      rcases List.le_total a b with h | h
      · simp [h]
      · simp [h]) ss
    exact hs.imp fun h => of_decide_eq_true h
  · unfold RowN
    rw [List.length_mergeSort]
    exact row_base hrow (by simp)
/-! ### What only reads, over a state -/
theorem readD_any (db : Nat) (st : Ds) (D : Nat → Prop) (s : ByteArray) (w : World) (h : DK w db st D) (hs : s.size ≤ maxLen) :
    Calls Try.prog 25 #[ptr db, .string s] w fun e w' => e = .returned (.tuple #[.string (readS st.fuse st.now s), .int .i64 (readE st.fuse st.now s)]) ∧ w' = w := by
  obtain ⟨m1, m2, lv, fs, E1, E2, h⟩ := h
  have := read_any db m1 m2 st.room st.fuse lv E1 s w h.hdb h.f1 hs
  rw [h.d1] at this
  exact this
theorem leftD_any (db : Nat) (st : Ds) (D : Nat → Prop) (w : World) (h : DK w db st D) :
    Calls Try.prog 14 #[ptr db] w fun e w' => e = .returned (.int .i64 (st.room - (sumF st.now : Nat))) ∧ Below w.heap.size w w' := by
  obtain ⟨m1, m2, lv, fs, E1, E2, h⟩ := h
  have hsum : sumE E1 = sumF st.now := by rw [← dat_sumF, h.d1]
  have hf := h.chain.last.1
  have hr := h.room
  have hf' : (sumF st.now : Int) ≤ st.room := hf
  have := left_any db m1 m2 st.room st.fuse lv E1 w h.hdb h.f1 hr.1 hr.2 (by omega)
  rw [hsum] at this
  exact this
theorem looseD_any (db : Nat) (st : Ds) (D : Nat → Prop) (w : World) (h : DK w db st D) :
    Calls Try.prog 16 #[ptr db] w fun e w' => e = .returned (.int .i64 (st.L.length : Nat)) ∧ w' = w := by
  obtain ⟨m1, m2, lv, fs, E1, E2, h⟩ := h
  obtain ⟨av, cv, rfl, hcv⟩ := lv_form h.hlv
  exact loose_any db m1 m2 st.room st.fuse av st.L.length cv w h.hdb
theorem fuseD_any (db : Nat) (st : Ds) (D : Nat → Prop) (n : Int) (w : World) (h : DK w db st D) (hn : n ≤ 9223372036854775807) :
    Calls Try.prog 27 #[ptr db, .int .i64 n] w (DoneD w db D (0, { st with fuse := max n (-1) })) := by
  have hlt : ∀ j, D j → j < w.heap.size := fun j hj => h.lt hj
  obtain ⟨m1, m2, lv, fs, E1, E2, h⟩ := h
  refine (fuse_any db m1 m2 st.room st.fuse n lv w h.hdb).mono ?_
  rintro e w' ⟨rfl, hD, hT⟩
  exact ⟨rfl, ext_self ⟨_, _, _, _, _, _, h.fused (by omega) hD hT⟩ hlt hT.size, hT.sub fun j hj => hj ▸ h.in0⟩
/-- a disk that New has made -/
def New0 (room : Int) : Ds := { room := room, fuse := -1, S := [], L := [] }
theorem newD_any (room : Int) (w : World) (h : roomB room = true) :
    Calls Try.prog 10 #[.int .i64 room] w fun e w' => e = .returned (.tuple #[ptr (w.heap.size + 2), .int .i64 0]) ∧ DK w' (w.heap.size + 2) (New0 room) (NewB w w') ∧ Below w.heap.size w w' := by
  refine (new_ok room w h).mono ?_
  rintro e w' ⟨rfl, hD, h1, h2, hb, hs⟩
  unfold roomB at h
  rw [Bool.and_eq_true, decide_eq_true_eq, decide_eq_true_eq] at h
  refine ⟨rfl, ⟨w.heap.size, w.heap.size + 1, .slice none 0 0, [], [], [], hD, h1, h2, rfl, rfl, LV.none _, ?_, ?_, ?_, ?_, ?_, trivial, ⟨h.1, Nat.zero_le _⟩, h, ⟨by show (-1 : Int) ≤ -1; omega, by show (-1 : Int) ≤ 9223372036854775807; omega⟩, fun j hj => hj.2⟩, hb⟩
  · rintro j (rfl | ⟨x, hx, _⟩) (h3 | ⟨y, hy, _⟩)
    · omega
    · cases hy
    · cases hx
    · cases hx
  · exact ⟨by omega, by omega⟩
  · rintro j (rfl | ⟨x, hx, _⟩)
    · exact ⟨by omega, by omega⟩
    · cases hx
  · rintro j (rfl | ⟨x, hx, _⟩)
    · exact ⟨by omega, by omega⟩
    · cases hx
  · intro j hj
    cases hj
end Go.Proofs.Ytlkgfimignlgaaa
