/-
  BOTH DISKS, 33 BY 33 (codicillaw06): CONTRACT of play. (gen_rt.py writes it.)
-/
import Derived.Test.YtlkgfimignlgaaaCDiskRs
set_option linter.unusedSimpArgs false
set_option linter.unusedVariables false
set_option linter.unusedVariables false
set_option linter.unusedSimpArgs false
namespace Go.Proofs.Ytlkgfimignlgaaa
open Go.RowKit
/-- what a step comes to -/
def PlEnd (w0 : World) (db rb : Nat) (st : Ds) (e : Ending) (w' : World) : Prop := e = .returned (.bool true) ∧ ∃ st', BX w0 w' db rb st' st' [] ∧ SortF st'.S ∧ st'.L.length ≤ st.L.length + 1
theorem BX.fiR {w0 w : World} {db rb : Nat} {sd sr : Ds} {V : List Value} (h : BX w0 w db rb sd sr V) {st : Ds} (hI : FI st) : FI st := hI
theorem sort_app {st : Ds} {s d : ByteArray} (h : SortF st.S) : SortF (appS st s d).2.S := by rw [app_S]; exact h
theorem sort_cut {st : Ds} {s : ByteArray} {n : Int} (h : SortF st.S) : SortF (cutS st s n).2.S := by unfold cutS; split; exact h; split; exact h; split; exact h; exact h
theorem sort_ren {st : Ds} {s d : ByteArray} (h : SortF st.S) : SortF (renS st s d).2.S := by unfold renS; split; exact h; split; exact h; split; exact h; exact h
theorem sort_rem {st : Ds} {s : ByteArray} (h : SortF st.S) : SortF (remS st s).2.S := by unfold remS; split; exact h; split; exact h; exact h
theorem sort_sync {st : Ds} (h : SortF st.S) : SortF (syncS st).2.S := by unfold syncS; split; exact h; exact SortF.all h
theorem sort_crash {st : Ds} {c b : Int} (h : SortF st.S) : SortF (crashS st c b).2.S := by
  show SortF (crashF st c b)
  unfold crashF
  split
  · split
    · exact (SortF.all h).does _ _
    · exact SortF.all h
  · exact SortF.all h
theorem sort_alt {st : Ds} {s : ByteArray} {c : Int} {b : UInt8} (h : SortF st.S) : SortF (altS st s c b).2.S := by unfold altS; split; exact h; split; exact h; split; exact h; exact SortF.alt _ _ h
theorem len_app (st : Ds) (s d : ByteArray) : (appS st s d).2.L.length ≤ st.L.length + 1 := by unfold appS; split; exact Nat.le_succ _; split; exact Nat.le_succ _; split; exact Nat.le_succ _; simp
theorem len_cut (st : Ds) (s : ByteArray) (n : Int) : (cutS st s n).2.L.length ≤ st.L.length + 1 := by unfold cutS; split; exact Nat.le_succ _; split; exact Nat.le_succ _; split; exact Nat.le_succ _; simp
theorem len_ren (st : Ds) (s d : ByteArray) : (renS st s d).2.L.length ≤ st.L.length + 1 := by unfold renS; split; exact Nat.le_succ _; split; exact Nat.le_succ _; split; exact Nat.le_succ _; simp
theorem len_rem (st : Ds) (s : ByteArray) : (remS st s).2.L.length ≤ st.L.length + 1 := by unfold remS; split; exact Nat.le_succ _; split; exact Nat.le_succ _; simp
theorem len_sync (st : Ds) : (syncS st).2.L.length ≤ st.L.length + 1 := by unfold syncS; split; exact Nat.le_succ _; simp
theorem len_alt (st : Ds) (s : ByteArray) (c : Int) (b : UInt8) : (altS st s c b).2.L.length ≤ st.L.length + 1 := by unfold altS; split; exact Nat.le_succ _; split; exact Nat.le_succ _; split; exact Nat.le_succ _; exact Nat.le_succ _
def u8m (m : Int) : UInt8 := UInt8.ofNat (m % 256).toNat
theorem u8m_wrap (m : Int) : IntKind.u8.wrap m = (((u8m m).toNat : Nat) : Int) := by
  unfold u8m
  rw [UInt8.toNat_ofNat']
  show m % 256 = _
  omega
theorem cell1 {w w' : World} {V : List Value} {b o : Nat} {v : Value} (h : KeepV (.slice (some ⟨b, 0, none⟩) 0 0 :: V) w w') (hc : w.cell? ⟨b, o, none⟩ = some v) : w'.cell? ⟨b, o, none⟩ = some v := (cell_heap (h _ (List.mem_cons_self ..) b rfl)).trans hc

set_option maxRecDepth 10000000 in
set_option maxHeartbeats 4000000 in
theorem play_app (w0 w : World) (db rb : Nat) (st : Ds) (sA sB : ByteArray) (n m : Int) (hX : BX w0 w db rb st st []) (hS : SortF st.S) (hl : st.L.length ≤ 1000) (hz : sA.size + sB.size ≤ 4096) (hn : n ≤ 9223372036854775807) :
    Calls Try.prog 12 #[ptr db, ptr rb, .agg #[.int .i64 0, .string sA, .string sB, .int .i64 n, .int .i64 m]] w (PlEnd w0 db rb st) := by
  have hI := hX.fi (by omega)
  have HI := Lib.hid hI
  have HS := Lib.hid hS
  have hbw : Below w.heap.size w (w.alloc (.cells #[.int .i64 0, .string sA, .string sB, .int .i64 n, .int .i64 m] 33)) := (Below.refl _ _).alloc (Nat.le_refl _) _
  have hsz : (w.alloc (.cells #[.int .i64 0, .string sA, .string sB, .int .i64 n, .int .i64 m] 33)).heap.size = w.heap.size + 1 := by simp
  obtain ⟨hX1, _⟩ := hX.push (v := .slice (some ⟨w.heap.size, 0, none⟩) 0 0) hbw (fun j hj => by cases hj; exact ⟨Nat.le_refl _, by rw [hsz]; exact Nat.lt_succ_self _⟩)
  obtain ⟨hXd, _⟩ := hX1.below (drew_bel _)
  have q0 := (cellNew w #[.int .i64 0, .string sA, .string sB, .int .i64 n, .int .i64 m] 33 0).trans (show _ = some (Value.int .i64 0) from rfl)
  have q1 := (cellNew w #[.int .i64 0, .string sA, .string sB, .int .i64 n, .int .i64 m] 33 1).trans (show _ = some (Value.string sA) from rfl)
  have q2 := (cellNew w #[.int .i64 0, .string sA, .string sB, .int .i64 n, .int .i64 m] 33 2).trans (show _ = some (Value.string sB) from rfl)
  have q3 := (cellNew w #[.int .i64 0, .string sA, .string sB, .int .i64 n, .int .i64 m] 33 3).trans (show _ = some (Value.int .i64 n) from rfl)
  have q4 := (cellNew w #[.int .i64 0, .string sA, .string sB, .int .i64 n, .int .i64 m] 33 4).trans (show _ = some (Value.int .i64 m) from rfl)
  clear hX hI hS hbw hsz
  obtain ⟨r, hr⟩ : ∃ r, appS st sA sB = r := ⟨_, rfl⟩
  have hsr : SortF r.2.S := by rw [← hr]; exact sort_app HS.out
  have hlr : r.2.L.length ≤ st.L.length + 1 := by rw [← hr]; exact len_app _ _ _
  have cD := hXd.disk (fun D hD => append_any db st D sA sB _ hD (by omega) (by omega) (by omega))
  have cR := fun (w' : World) (h : BX w0 w' db rb r.2 st [.slice (some ⟨w.heap.size, 0, none⟩) 0 0]) => h.ref (fun R hR => rapp_any rb st R sA sB _ hR HI.out (by omega) (by omega))
  rw [hr] at cD
  simp only [hr] at cR
  have HSR := Lib.hid hsr
  have HLR := Lib.hid hlr
  clear hr hsr hlr hX1 hXd
  unfold ptr at cD cR ⊢
  obtain ⟨re, st'⟩ := r
  simp only at cD cR
  go_enter Try.func12, Try.ntmps12
  go_upto_region 3 with fail
  have hS0 : (w.alloc (.cells #[.int .i64 0, .string sA, .string sB, .int .i64 n, .int .i64 m] 33)).drew.cell? ⟨w.heap.size, 1, none⟩ = some (.string sA) ∧ (w.alloc (.cells #[.int .i64 0, .string sA, .string sB, .int .i64 n, .int .i64 m] 33)).drew.cell? ⟨w.heap.size, 2, none⟩ = some (.string sB) ∧ (w.alloc (.cells #[.int .i64 0, .string sA, .string sB, .int .i64 n, .int .i64 m] 33)).drew.cell? ⟨w.heap.size, 3, none⟩ = some (.int .i64 n) ∧ (w.alloc (.cells #[.int .i64 0, .string sA, .string sB, .int .i64 n, .int .i64 m] 33)).drew.cell? ⟨w.heap.size, 4, none⟩ = some (.int .i64 m) := ⟨q1, q2, q3, q4⟩
  refine wp_region_any (by kernel_rfl) ?_
  change wpAny _ _ _ _ 14 _ _ (World.drew _)
  generalize (w.alloc (.cells #[.int .i64 0, .string sA, .string sB, .int .i64 n, .int .i64 m] 33)).drew = wd at *
  clear q0 q1 q2 q3 q4
  refine HT.wpAny_of_G (k := 11) (S := fun w' => w'.cell? ⟨w.heap.size, 1, none⟩ = some (.string sA) ∧ w'.cell? ⟨w.heap.size, 2, none⟩ = some (.string sB) ∧ w'.cell? ⟨w.heap.size, 3, none⟩ = some (.int .i64 n) ∧ w'.cell? ⟨w.heap.size, 4, none⟩ = some (.int .i64 m)) _ _ _ _ ?_
  refine HT.takeG_at (i := 0) (v := ?_) rfl rfl (by kernel_rfl) (by kernel_rfl) (by kernel_rfl) (by kernel_rfl) (by kernel_rfl) (by kernel_rfl) (fun _ _ _ h => h) hS0 (Or.inl ⟨by rfl, ?_⟩) ?_
  rotate_left
  · intro wq hwq
    obtain ⟨y1, y2, y3, y4⟩ := hwq
    go_simp
    try with_reducible rfl
  simp only [Act.put, List.setIfInBounds_toArray, List.set_cons_zero, List.set_cons_succ]
  refine HT.takeG_at (i := 1) (v := ?_) rfl rfl (by kernel_rfl) (by kernel_rfl) (by kernel_rfl) (by kernel_rfl) (by kernel_rfl) (by kernel_rfl) (fun _ _ _ h => h) hS0 (Or.inl ⟨by rfl, ?_⟩) ?_
  rotate_left
  · intro wq hwq
    obtain ⟨y1, y2, y3, y4⟩ := hwq
    go_simp
    try with_reducible rfl
  simp only [Act.put, List.setIfInBounds_toArray, List.set_cons_zero, List.set_cons_succ]
  refine HT.takeG_at (i := 2) (v := ?_) rfl rfl (by kernel_rfl) (by kernel_rfl) (by kernel_rfl) (by kernel_rfl) (by kernel_rfl) (by kernel_rfl) (fun _ _ _ h => h) hS0 (Or.inl ⟨by rfl, ?_⟩) ?_
  rotate_left
  · intro wq hwq
    obtain ⟨y1, y2, y3, y4⟩ := hwq
    go_simp
    try with_reducible rfl
  simp only [Act.put, List.setIfInBounds_toArray, List.set_cons_zero, List.set_cons_succ]
  refine HT.takeG_at (i := 3) (v := ?_) rfl rfl (by kernel_rfl) (by kernel_rfl) (by kernel_rfl) (by kernel_rfl) (by kernel_rfl) (by kernel_rfl) (fun _ _ _ h => h) hS0 (Or.inl ⟨by rfl, ?_⟩) ?_
  rotate_left
  · intro wq hwq
    obtain ⟨y1, y2, y3, y4⟩ := hwq
    go_simp
    try with_reducible rfl
  simp only [Act.put, List.setIfInBounds_toArray, List.set_cons_zero, List.set_cons_succ]
  refine HT.takeG_at (i := 4) (v := ?_) rfl rfl (by kernel_rfl) (by kernel_rfl) (by kernel_rfl) (by kernel_rfl) (by kernel_rfl) (by kernel_rfl) (fun _ _ _ h => h) hS0 (Or.inl ⟨by rfl, ?_⟩) ?_
  rotate_left
  · intro wq hwq
    obtain ⟨y1, y2, y3, y4⟩ := hwq
    go_simp
    try with_reducible rfl
  simp only [Act.put, List.setIfInBounds_toArray, List.set_cons_zero, List.set_cons_succ]
  refine HT.takeG_at (i := 6) (v := ?_) rfl rfl (by kernel_rfl) (by kernel_rfl) (by kernel_rfl) (by kernel_rfl) (by kernel_rfl) (by kernel_rfl) (fun _ _ _ h => h) hS0 (Or.inl ⟨by rfl, ?_⟩) ?_
  rotate_left
  · intro wq hwq
    obtain ⟨y1, y2, y3, y4⟩ := hwq
    go_simp
    try with_reducible rfl
  simp only [Act.put, List.setIfInBounds_toArray, List.set_cons_zero, List.set_cons_succ]
  refine HT.takeG_at (i := 7) (v := ?_) rfl rfl (by kernel_rfl) (by kernel_rfl) (by kernel_rfl) (by kernel_rfl) (by kernel_rfl) (by kernel_rfl) (fun _ _ _ h => h) hS0 (Or.inl ⟨by rfl, ?_⟩) ?_
  rotate_left
  · intro wq hwq
    obtain ⟨y1, y2, y3, y4⟩ := hwq
    go_simp
    try with_reducible rfl
  simp only [Act.put, List.setIfInBounds_toArray, List.set_cons_zero, List.set_cons_succ]
  refine HT.takeG_at (i := 8) (v := ?_) rfl rfl (by kernel_rfl) (by kernel_rfl) (by kernel_rfl) (by kernel_rfl) (by kernel_rfl) (by kernel_rfl) (fun _ _ _ h => h) hS0 (Or.inl ⟨by rfl, ?_⟩) ?_
  rotate_left
  · intro wq hwq
    obtain ⟨y1, y2, y3, y4⟩ := hwq
    go_simp
    try with_reducible rfl
  simp only [Act.put, List.setIfInBounds_toArray, List.set_cons_zero, List.set_cons_succ]
  refine HT.takeG_at (i := 9) (v := ?_) rfl rfl (by kernel_rfl) (by kernel_rfl) (by kernel_rfl) (by kernel_rfl) (by kernel_rfl) (by kernel_rfl) (fun _ _ _ h => h) hS0 (Or.inl ⟨by rfl, ?_⟩) ?_
  rotate_left
  · intro wq hwq
    obtain ⟨y1, y2, y3, y4⟩ := hwq
    go_simp
    try with_reducible rfl
  simp only [Act.put, List.setIfInBounds_toArray, List.set_cons_zero, List.set_cons_succ]
  refine HT.takeG_at (i := 10) (v := ?_) rfl rfl (by kernel_rfl) (by kernel_rfl) (by kernel_rfl) (by kernel_rfl) (by kernel_rfl) (by kernel_rfl) (fun _ _ _ h => h) hS0 (Or.inl ⟨by rfl, ?_⟩) ?_
  rotate_left
  · intro wq hwq
    obtain ⟨y1, y2, y3, y4⟩ := hwq
    go_simp
    try with_reducible rfl
  simp only [Act.put, List.setIfInBounds_toArray, List.set_cons_zero, List.set_cons_succ]
  refine HT.wpAnyG_one (i := 5) (by kernel_rfl) rfl (fun KK hKK => ?_)
  go_simp
  refine cD.mono ?_
  rintro e w4 ⟨rfl, hX4, hK4⟩
  have hS4 : w4.cell? ⟨w.heap.size, 1, none⟩ = some (.string sA) ∧ w4.cell? ⟨w.heap.size, 2, none⟩ = some (.string sB) ∧ w4.cell? ⟨w.heap.size, 3, none⟩ = some (.int .i64 n) ∧ w4.cell? ⟨w.heap.size, 4, none⟩ = some (.int .i64 m) := ⟨cell1 hK4 hS0.1, cell1 hK4 hS0.2.1, cell1 hK4 hS0.2.2.1, cell1 hK4 hS0.2.2.2⟩
  simp only
  refine hKK _ _ hS4 ?_
  clear hKK KK
  refine HT.wpAnyG_turn (k := 11) (by kernel_rfl) rfl (fun KK hKK => ?_)
  go_simp
  refine (cR _ hX4).mono ?_
  rintro e w5 ⟨rfl, hX5, hK5⟩
  simp only
  refine hKK _ _ ?_
  clear hKK KK
  refine HT.take_at (i := 12) (v := ?_) rfl rfl (by kernel_rfl) (by kernel_rfl) (by kernel_rfl) (fun _ _ _ h => h) (Or.inl ⟨by rfl, ?_⟩) ?_
  rotate_left
  · intro wq
    go_simp
    try with_reducible rfl
  simp only [Act.put, List.setIfInBounds_toArray, List.set_cons_zero, List.set_cons_succ]
  refine HT.take_at (i := 13) (v := ?_) rfl rfl (by kernel_rfl) (by kernel_rfl) (by kernel_rfl) (fun _ _ _ h => h) (Or.inl ⟨by rfl, ?_⟩) ?_
  rotate_left
  · intro wq
    go_simp
    try with_reducible rfl
  simp only [Act.put, List.setIfInBounds_toArray, List.set_cons_zero, List.set_cons_succ]
  refine wpAny_done (by kernel_rfl) ?_ _
  go_wp2
  go_ret
  exact ⟨rfl, _, hX5.sub (fun v hv => by simp at hv), HSR.out, HLR.out⟩

set_option maxRecDepth 10000000 in
set_option maxHeartbeats 4000000 in
theorem play_cut (w0 w : World) (db rb : Nat) (st : Ds) (sA sB : ByteArray) (n m : Int) (hX : BX w0 w db rb st st []) (hS : SortF st.S) (hl : st.L.length ≤ 1000) (hz : sA.size + sB.size ≤ 4096) (hn : n ≤ 9223372036854775807) :
    Calls Try.prog 12 #[ptr db, ptr rb, .agg #[.int .i64 1, .string sA, .string sB, .int .i64 n, .int .i64 m]] w (PlEnd w0 db rb st) := by
  have hI := hX.fi (by omega)
  have HI := Lib.hid hI
  have HS := Lib.hid hS
  have hbw : Below w.heap.size w (w.alloc (.cells #[.int .i64 1, .string sA, .string sB, .int .i64 n, .int .i64 m] 33)) := (Below.refl _ _).alloc (Nat.le_refl _) _
  have hsz : (w.alloc (.cells #[.int .i64 1, .string sA, .string sB, .int .i64 n, .int .i64 m] 33)).heap.size = w.heap.size + 1 := by simp
  obtain ⟨hX1, _⟩ := hX.push (v := .slice (some ⟨w.heap.size, 0, none⟩) 0 0) hbw (fun j hj => by cases hj; exact ⟨Nat.le_refl _, by rw [hsz]; exact Nat.lt_succ_self _⟩)
  obtain ⟨hXd, _⟩ := hX1.below (drew_bel _)
  have q0 := (cellNew w #[.int .i64 1, .string sA, .string sB, .int .i64 n, .int .i64 m] 33 0).trans (show _ = some (Value.int .i64 1) from rfl)
  have q1 := (cellNew w #[.int .i64 1, .string sA, .string sB, .int .i64 n, .int .i64 m] 33 1).trans (show _ = some (Value.string sA) from rfl)
  have q2 := (cellNew w #[.int .i64 1, .string sA, .string sB, .int .i64 n, .int .i64 m] 33 2).trans (show _ = some (Value.string sB) from rfl)
  have q3 := (cellNew w #[.int .i64 1, .string sA, .string sB, .int .i64 n, .int .i64 m] 33 3).trans (show _ = some (Value.int .i64 n) from rfl)
  have q4 := (cellNew w #[.int .i64 1, .string sA, .string sB, .int .i64 n, .int .i64 m] 33 4).trans (show _ = some (Value.int .i64 m) from rfl)
  clear hX hI hS hbw hsz
  obtain ⟨r, hr⟩ : ∃ r, cutS st sA n = r := ⟨_, rfl⟩
  have hsr : SortF r.2.S := by rw [← hr]; exact sort_cut HS.out
  have hlr : r.2.L.length ≤ st.L.length + 1 := by rw [← hr]; exact len_cut _ _ _
  have cD := hXd.disk (fun D hD => cutD_any db st D sA n _ hD (by omega) (by omega))
  have cR := fun (w' : World) (h : BX w0 w' db rb r.2 st [.slice (some ⟨w.heap.size, 0, none⟩) 0 0]) => h.ref (fun R hR => rcut_any rb st R sA n _ hR HI.out (by omega))
  rw [hr] at cD
  simp only [hr] at cR
  have HSR := Lib.hid hsr
  have HLR := Lib.hid hlr
  clear hr hsr hlr hX1 hXd
  unfold ptr at cD cR ⊢
  obtain ⟨re, st'⟩ := r
  simp only at cD cR
  go_enter Try.func12, Try.ntmps12
  go_upto_region 5 with fail
  have hS0 : (w.alloc (.cells #[.int .i64 1, .string sA, .string sB, .int .i64 n, .int .i64 m] 33)).drew.cell? ⟨w.heap.size, 1, none⟩ = some (.string sA) ∧ (w.alloc (.cells #[.int .i64 1, .string sA, .string sB, .int .i64 n, .int .i64 m] 33)).drew.cell? ⟨w.heap.size, 2, none⟩ = some (.string sB) ∧ (w.alloc (.cells #[.int .i64 1, .string sA, .string sB, .int .i64 n, .int .i64 m] 33)).drew.cell? ⟨w.heap.size, 3, none⟩ = some (.int .i64 n) ∧ (w.alloc (.cells #[.int .i64 1, .string sA, .string sB, .int .i64 n, .int .i64 m] 33)).drew.cell? ⟨w.heap.size, 4, none⟩ = some (.int .i64 m) := ⟨q1, q2, q3, q4⟩
  refine wp_region_any (by kernel_rfl) ?_
  change wpAny _ _ _ _ 14 _ _ (World.drew _)
  generalize (w.alloc (.cells #[.int .i64 1, .string sA, .string sB, .int .i64 n, .int .i64 m] 33)).drew = wd at *
  clear q0 q1 q2 q3 q4
  refine HT.wpAny_of_G (k := 11) (S := fun w' => w'.cell? ⟨w.heap.size, 1, none⟩ = some (.string sA) ∧ w'.cell? ⟨w.heap.size, 2, none⟩ = some (.string sB) ∧ w'.cell? ⟨w.heap.size, 3, none⟩ = some (.int .i64 n) ∧ w'.cell? ⟨w.heap.size, 4, none⟩ = some (.int .i64 m)) _ _ _ _ ?_
  refine HT.takeG_at (i := 0) (v := ?_) rfl rfl (by kernel_rfl) (by kernel_rfl) (by kernel_rfl) (by kernel_rfl) (by kernel_rfl) (by kernel_rfl) (fun _ _ _ h => h) hS0 (Or.inl ⟨by rfl, ?_⟩) ?_
  rotate_left
  · intro wq hwq
    obtain ⟨y1, y2, y3, y4⟩ := hwq
    go_simp
    try with_reducible rfl
  simp only [Act.put, List.setIfInBounds_toArray, List.set_cons_zero, List.set_cons_succ]
  refine HT.takeG_at (i := 1) (v := ?_) rfl rfl (by kernel_rfl) (by kernel_rfl) (by kernel_rfl) (by kernel_rfl) (by kernel_rfl) (by kernel_rfl) (fun _ _ _ h => h) hS0 (Or.inl ⟨by rfl, ?_⟩) ?_
  rotate_left
  · intro wq hwq
    obtain ⟨y1, y2, y3, y4⟩ := hwq
    go_simp
    try with_reducible rfl
  simp only [Act.put, List.setIfInBounds_toArray, List.set_cons_zero, List.set_cons_succ]
  refine HT.takeG_at (i := 2) (v := ?_) rfl rfl (by kernel_rfl) (by kernel_rfl) (by kernel_rfl) (by kernel_rfl) (by kernel_rfl) (by kernel_rfl) (fun _ _ _ h => h) hS0 (Or.inl ⟨by rfl, ?_⟩) ?_
  rotate_left
  · intro wq hwq
    obtain ⟨y1, y2, y3, y4⟩ := hwq
    go_simp
    try with_reducible rfl
  simp only [Act.put, List.setIfInBounds_toArray, List.set_cons_zero, List.set_cons_succ]
  refine HT.takeG_at (i := 3) (v := ?_) rfl rfl (by kernel_rfl) (by kernel_rfl) (by kernel_rfl) (by kernel_rfl) (by kernel_rfl) (by kernel_rfl) (fun _ _ _ h => h) hS0 (Or.inl ⟨by rfl, ?_⟩) ?_
  rotate_left
  · intro wq hwq
    obtain ⟨y1, y2, y3, y4⟩ := hwq
    go_simp
    try with_reducible rfl
  simp only [Act.put, List.setIfInBounds_toArray, List.set_cons_zero, List.set_cons_succ]
  refine HT.takeG_at (i := 4) (v := ?_) rfl rfl (by kernel_rfl) (by kernel_rfl) (by kernel_rfl) (by kernel_rfl) (by kernel_rfl) (by kernel_rfl) (fun _ _ _ h => h) hS0 (Or.inl ⟨by rfl, ?_⟩) ?_
  rotate_left
  · intro wq hwq
    obtain ⟨y1, y2, y3, y4⟩ := hwq
    go_simp
    try with_reducible rfl
  simp only [Act.put, List.setIfInBounds_toArray, List.set_cons_zero, List.set_cons_succ]
  refine HT.takeG_at (i := 6) (v := ?_) rfl rfl (by kernel_rfl) (by kernel_rfl) (by kernel_rfl) (by kernel_rfl) (by kernel_rfl) (by kernel_rfl) (fun _ _ _ h => h) hS0 (Or.inl ⟨by rfl, ?_⟩) ?_
  rotate_left
  · intro wq hwq
    obtain ⟨y1, y2, y3, y4⟩ := hwq
    go_simp
    try with_reducible rfl
  simp only [Act.put, List.setIfInBounds_toArray, List.set_cons_zero, List.set_cons_succ]
  refine HT.takeG_at (i := 7) (v := ?_) rfl rfl (by kernel_rfl) (by kernel_rfl) (by kernel_rfl) (by kernel_rfl) (by kernel_rfl) (by kernel_rfl) (fun _ _ _ h => h) hS0 (Or.inl ⟨by rfl, ?_⟩) ?_
  rotate_left
  · intro wq hwq
    obtain ⟨y1, y2, y3, y4⟩ := hwq
    go_simp
    try with_reducible rfl
  simp only [Act.put, List.setIfInBounds_toArray, List.set_cons_zero, List.set_cons_succ]
  refine HT.takeG_at (i := 8) (v := ?_) rfl rfl (by kernel_rfl) (by kernel_rfl) (by kernel_rfl) (by kernel_rfl) (by kernel_rfl) (by kernel_rfl) (fun _ _ _ h => h) hS0 (Or.inl ⟨by rfl, ?_⟩) ?_
  rotate_left
  · intro wq hwq
    obtain ⟨y1, y2, y3, y4⟩ := hwq
    go_simp
    try with_reducible rfl
  simp only [Act.put, List.setIfInBounds_toArray, List.set_cons_zero, List.set_cons_succ]
  refine HT.takeG_at (i := 9) (v := ?_) rfl rfl (by kernel_rfl) (by kernel_rfl) (by kernel_rfl) (by kernel_rfl) (by kernel_rfl) (by kernel_rfl) (fun _ _ _ h => h) hS0 (Or.inl ⟨by rfl, ?_⟩) ?_
  rotate_left
  · intro wq hwq
    obtain ⟨y1, y2, y3, y4⟩ := hwq
    go_simp
    try with_reducible rfl
  simp only [Act.put, List.setIfInBounds_toArray, List.set_cons_zero, List.set_cons_succ]
  refine HT.takeG_at (i := 10) (v := ?_) rfl rfl (by kernel_rfl) (by kernel_rfl) (by kernel_rfl) (by kernel_rfl) (by kernel_rfl) (by kernel_rfl) (fun _ _ _ h => h) hS0 (Or.inl ⟨by rfl, ?_⟩) ?_
  rotate_left
  · intro wq hwq
    obtain ⟨y1, y2, y3, y4⟩ := hwq
    go_simp
    try with_reducible rfl
  simp only [Act.put, List.setIfInBounds_toArray, List.set_cons_zero, List.set_cons_succ]
  refine HT.wpAnyG_one (i := 5) (by kernel_rfl) rfl (fun KK hKK => ?_)
  go_simp
  refine cD.mono ?_
  rintro e w4 ⟨rfl, hX4, hK4⟩
  have hS4 : w4.cell? ⟨w.heap.size, 1, none⟩ = some (.string sA) ∧ w4.cell? ⟨w.heap.size, 2, none⟩ = some (.string sB) ∧ w4.cell? ⟨w.heap.size, 3, none⟩ = some (.int .i64 n) ∧ w4.cell? ⟨w.heap.size, 4, none⟩ = some (.int .i64 m) := ⟨cell1 hK4 hS0.1, cell1 hK4 hS0.2.1, cell1 hK4 hS0.2.2.1, cell1 hK4 hS0.2.2.2⟩
  simp only
  refine hKK _ _ hS4 ?_
  clear hKK KK
  refine HT.wpAnyG_turn (k := 11) (by kernel_rfl) rfl (fun KK hKK => ?_)
  go_simp
  refine (cR _ hX4).mono ?_
  rintro e w5 ⟨rfl, hX5, hK5⟩
  simp only
  refine hKK _ _ ?_
  clear hKK KK
  refine HT.take_at (i := 12) (v := ?_) rfl rfl (by kernel_rfl) (by kernel_rfl) (by kernel_rfl) (fun _ _ _ h => h) (Or.inl ⟨by rfl, ?_⟩) ?_
  rotate_left
  · intro wq
    go_simp
    try with_reducible rfl
  simp only [Act.put, List.setIfInBounds_toArray, List.set_cons_zero, List.set_cons_succ]
  refine HT.take_at (i := 13) (v := ?_) rfl rfl (by kernel_rfl) (by kernel_rfl) (by kernel_rfl) (fun _ _ _ h => h) (Or.inl ⟨by rfl, ?_⟩) ?_
  rotate_left
  · intro wq
    go_simp
    try with_reducible rfl
  simp only [Act.put, List.setIfInBounds_toArray, List.set_cons_zero, List.set_cons_succ]
  refine wpAny_done (by kernel_rfl) ?_ _
  go_wp2
  go_ret
  exact ⟨rfl, _, hX5.sub (fun v hv => by simp at hv), HSR.out, HLR.out⟩

set_option maxRecDepth 10000000 in
set_option maxHeartbeats 4000000 in
theorem play_ren (w0 w : World) (db rb : Nat) (st : Ds) (sA sB : ByteArray) (n m : Int) (hX : BX w0 w db rb st st []) (hS : SortF st.S) (hl : st.L.length ≤ 1000) (hz : sA.size + sB.size ≤ 4096) (hn : n ≤ 9223372036854775807) :
    Calls Try.prog 12 #[ptr db, ptr rb, .agg #[.int .i64 2, .string sA, .string sB, .int .i64 n, .int .i64 m]] w (PlEnd w0 db rb st) := by
  have hI := hX.fi (by omega)
  have HI := Lib.hid hI
  have HS := Lib.hid hS
  have hbw : Below w.heap.size w (w.alloc (.cells #[.int .i64 2, .string sA, .string sB, .int .i64 n, .int .i64 m] 33)) := (Below.refl _ _).alloc (Nat.le_refl _) _
  have hsz : (w.alloc (.cells #[.int .i64 2, .string sA, .string sB, .int .i64 n, .int .i64 m] 33)).heap.size = w.heap.size + 1 := by simp
  obtain ⟨hX1, _⟩ := hX.push (v := .slice (some ⟨w.heap.size, 0, none⟩) 0 0) hbw (fun j hj => by cases hj; exact ⟨Nat.le_refl _, by rw [hsz]; exact Nat.lt_succ_self _⟩)
  obtain ⟨hXd, _⟩ := hX1.below (drew_bel _)
  have q0 := (cellNew w #[.int .i64 2, .string sA, .string sB, .int .i64 n, .int .i64 m] 33 0).trans (show _ = some (Value.int .i64 2) from rfl)
  have q1 := (cellNew w #[.int .i64 2, .string sA, .string sB, .int .i64 n, .int .i64 m] 33 1).trans (show _ = some (Value.string sA) from rfl)
  have q2 := (cellNew w #[.int .i64 2, .string sA, .string sB, .int .i64 n, .int .i64 m] 33 2).trans (show _ = some (Value.string sB) from rfl)
  have q3 := (cellNew w #[.int .i64 2, .string sA, .string sB, .int .i64 n, .int .i64 m] 33 3).trans (show _ = some (Value.int .i64 n) from rfl)
  have q4 := (cellNew w #[.int .i64 2, .string sA, .string sB, .int .i64 n, .int .i64 m] 33 4).trans (show _ = some (Value.int .i64 m) from rfl)
  clear hX hI hS hbw hsz
  obtain ⟨r, hr⟩ : ∃ r, renS st sA sB = r := ⟨_, rfl⟩
  have hsr : SortF r.2.S := by rw [← hr]; exact sort_ren HS.out
  have hlr : r.2.L.length ≤ st.L.length + 1 := by rw [← hr]; exact len_ren _ _ _
  have cD := hXd.disk (fun D hD => renD_any db st D sA sB _ hD (by omega) (by omega) (by omega))
  have cR := fun (w' : World) (h : BX w0 w' db rb r.2 st [.slice (some ⟨w.heap.size, 0, none⟩) 0 0]) => h.ref (fun R hR => rren_any rb st R sA sB _ hR HI.out (by omega) (by omega))
  rw [hr] at cD
  simp only [hr] at cR
  have HSR := Lib.hid hsr
  have HLR := Lib.hid hlr
  clear hr hsr hlr hX1 hXd
  unfold ptr at cD cR ⊢
  obtain ⟨re, st'⟩ := r
  simp only at cD cR
  go_enter Try.func12, Try.ntmps12
  go_upto_region 7 with fail
  have hS0 : (w.alloc (.cells #[.int .i64 2, .string sA, .string sB, .int .i64 n, .int .i64 m] 33)).drew.cell? ⟨w.heap.size, 1, none⟩ = some (.string sA) ∧ (w.alloc (.cells #[.int .i64 2, .string sA, .string sB, .int .i64 n, .int .i64 m] 33)).drew.cell? ⟨w.heap.size, 2, none⟩ = some (.string sB) ∧ (w.alloc (.cells #[.int .i64 2, .string sA, .string sB, .int .i64 n, .int .i64 m] 33)).drew.cell? ⟨w.heap.size, 3, none⟩ = some (.int .i64 n) ∧ (w.alloc (.cells #[.int .i64 2, .string sA, .string sB, .int .i64 n, .int .i64 m] 33)).drew.cell? ⟨w.heap.size, 4, none⟩ = some (.int .i64 m) := ⟨q1, q2, q3, q4⟩
  refine wp_region_any (by kernel_rfl) ?_
  change wpAny _ _ _ _ 14 _ _ (World.drew _)
  generalize (w.alloc (.cells #[.int .i64 2, .string sA, .string sB, .int .i64 n, .int .i64 m] 33)).drew = wd at *
  clear q0 q1 q2 q3 q4
  refine HT.wpAny_of_G (k := 11) (S := fun w' => w'.cell? ⟨w.heap.size, 1, none⟩ = some (.string sA) ∧ w'.cell? ⟨w.heap.size, 2, none⟩ = some (.string sB) ∧ w'.cell? ⟨w.heap.size, 3, none⟩ = some (.int .i64 n) ∧ w'.cell? ⟨w.heap.size, 4, none⟩ = some (.int .i64 m)) _ _ _ _ ?_
  refine HT.takeG_at (i := 0) (v := ?_) rfl rfl (by kernel_rfl) (by kernel_rfl) (by kernel_rfl) (by kernel_rfl) (by kernel_rfl) (by kernel_rfl) (fun _ _ _ h => h) hS0 (Or.inl ⟨by rfl, ?_⟩) ?_
  rotate_left
  · intro wq hwq
    obtain ⟨y1, y2, y3, y4⟩ := hwq
    go_simp
    try with_reducible rfl
  simp only [Act.put, List.setIfInBounds_toArray, List.set_cons_zero, List.set_cons_succ]
  refine HT.takeG_at (i := 1) (v := ?_) rfl rfl (by kernel_rfl) (by kernel_rfl) (by kernel_rfl) (by kernel_rfl) (by kernel_rfl) (by kernel_rfl) (fun _ _ _ h => h) hS0 (Or.inl ⟨by rfl, ?_⟩) ?_
  rotate_left
  · intro wq hwq
    obtain ⟨y1, y2, y3, y4⟩ := hwq
    go_simp
    try with_reducible rfl
  simp only [Act.put, List.setIfInBounds_toArray, List.set_cons_zero, List.set_cons_succ]
  refine HT.takeG_at (i := 2) (v := ?_) rfl rfl (by kernel_rfl) (by kernel_rfl) (by kernel_rfl) (by kernel_rfl) (by kernel_rfl) (by kernel_rfl) (fun _ _ _ h => h) hS0 (Or.inl ⟨by rfl, ?_⟩) ?_
  rotate_left
  · intro wq hwq
    obtain ⟨y1, y2, y3, y4⟩ := hwq
    go_simp
    try with_reducible rfl
  simp only [Act.put, List.setIfInBounds_toArray, List.set_cons_zero, List.set_cons_succ]
  refine HT.takeG_at (i := 3) (v := ?_) rfl rfl (by kernel_rfl) (by kernel_rfl) (by kernel_rfl) (by kernel_rfl) (by kernel_rfl) (by kernel_rfl) (fun _ _ _ h => h) hS0 (Or.inl ⟨by rfl, ?_⟩) ?_
  rotate_left
  · intro wq hwq
    obtain ⟨y1, y2, y3, y4⟩ := hwq
    go_simp
    try with_reducible rfl
  simp only [Act.put, List.setIfInBounds_toArray, List.set_cons_zero, List.set_cons_succ]
  refine HT.takeG_at (i := 4) (v := ?_) rfl rfl (by kernel_rfl) (by kernel_rfl) (by kernel_rfl) (by kernel_rfl) (by kernel_rfl) (by kernel_rfl) (fun _ _ _ h => h) hS0 (Or.inl ⟨by rfl, ?_⟩) ?_
  rotate_left
  · intro wq hwq
    obtain ⟨y1, y2, y3, y4⟩ := hwq
    go_simp
    try with_reducible rfl
  simp only [Act.put, List.setIfInBounds_toArray, List.set_cons_zero, List.set_cons_succ]
  refine HT.takeG_at (i := 6) (v := ?_) rfl rfl (by kernel_rfl) (by kernel_rfl) (by kernel_rfl) (by kernel_rfl) (by kernel_rfl) (by kernel_rfl) (fun _ _ _ h => h) hS0 (Or.inl ⟨by rfl, ?_⟩) ?_
  rotate_left
  · intro wq hwq
    obtain ⟨y1, y2, y3, y4⟩ := hwq
    go_simp
    try with_reducible rfl
  simp only [Act.put, List.setIfInBounds_toArray, List.set_cons_zero, List.set_cons_succ]
  refine HT.takeG_at (i := 7) (v := ?_) rfl rfl (by kernel_rfl) (by kernel_rfl) (by kernel_rfl) (by kernel_rfl) (by kernel_rfl) (by kernel_rfl) (fun _ _ _ h => h) hS0 (Or.inl ⟨by rfl, ?_⟩) ?_
  rotate_left
  · intro wq hwq
    obtain ⟨y1, y2, y3, y4⟩ := hwq
    go_simp
    try with_reducible rfl
  simp only [Act.put, List.setIfInBounds_toArray, List.set_cons_zero, List.set_cons_succ]
  refine HT.takeG_at (i := 8) (v := ?_) rfl rfl (by kernel_rfl) (by kernel_rfl) (by kernel_rfl) (by kernel_rfl) (by kernel_rfl) (by kernel_rfl) (fun _ _ _ h => h) hS0 (Or.inl ⟨by rfl, ?_⟩) ?_
  rotate_left
  · intro wq hwq
    obtain ⟨y1, y2, y3, y4⟩ := hwq
    go_simp
    try with_reducible rfl
  simp only [Act.put, List.setIfInBounds_toArray, List.set_cons_zero, List.set_cons_succ]
  refine HT.takeG_at (i := 9) (v := ?_) rfl rfl (by kernel_rfl) (by kernel_rfl) (by kernel_rfl) (by kernel_rfl) (by kernel_rfl) (by kernel_rfl) (fun _ _ _ h => h) hS0 (Or.inl ⟨by rfl, ?_⟩) ?_
  rotate_left
  · intro wq hwq
    obtain ⟨y1, y2, y3, y4⟩ := hwq
    go_simp
    try with_reducible rfl
  simp only [Act.put, List.setIfInBounds_toArray, List.set_cons_zero, List.set_cons_succ]
  refine HT.takeG_at (i := 10) (v := ?_) rfl rfl (by kernel_rfl) (by kernel_rfl) (by kernel_rfl) (by kernel_rfl) (by kernel_rfl) (by kernel_rfl) (fun _ _ _ h => h) hS0 (Or.inl ⟨by rfl, ?_⟩) ?_
  rotate_left
  · intro wq hwq
    obtain ⟨y1, y2, y3, y4⟩ := hwq
    go_simp
    try with_reducible rfl
  simp only [Act.put, List.setIfInBounds_toArray, List.set_cons_zero, List.set_cons_succ]
  refine HT.wpAnyG_one (i := 5) (by kernel_rfl) rfl (fun KK hKK => ?_)
  go_simp
  refine cD.mono ?_
  rintro e w4 ⟨rfl, hX4, hK4⟩
  have hS4 : w4.cell? ⟨w.heap.size, 1, none⟩ = some (.string sA) ∧ w4.cell? ⟨w.heap.size, 2, none⟩ = some (.string sB) ∧ w4.cell? ⟨w.heap.size, 3, none⟩ = some (.int .i64 n) ∧ w4.cell? ⟨w.heap.size, 4, none⟩ = some (.int .i64 m) := ⟨cell1 hK4 hS0.1, cell1 hK4 hS0.2.1, cell1 hK4 hS0.2.2.1, cell1 hK4 hS0.2.2.2⟩
  simp only
  refine hKK _ _ hS4 ?_
  clear hKK KK
  refine HT.wpAnyG_turn (k := 11) (by kernel_rfl) rfl (fun KK hKK => ?_)
  go_simp
  refine (cR _ hX4).mono ?_
  rintro e w5 ⟨rfl, hX5, hK5⟩
  simp only
  refine hKK _ _ ?_
  clear hKK KK
  refine HT.take_at (i := 12) (v := ?_) rfl rfl (by kernel_rfl) (by kernel_rfl) (by kernel_rfl) (fun _ _ _ h => h) (Or.inl ⟨by rfl, ?_⟩) ?_
  rotate_left
  · intro wq
    go_simp
    try with_reducible rfl
  simp only [Act.put, List.setIfInBounds_toArray, List.set_cons_zero, List.set_cons_succ]
  refine HT.take_at (i := 13) (v := ?_) rfl rfl (by kernel_rfl) (by kernel_rfl) (by kernel_rfl) (fun _ _ _ h => h) (Or.inl ⟨by rfl, ?_⟩) ?_
  rotate_left
  · intro wq
    go_simp
    try with_reducible rfl
  simp only [Act.put, List.setIfInBounds_toArray, List.set_cons_zero, List.set_cons_succ]
  refine wpAny_done (by kernel_rfl) ?_ _
  go_wp2
  go_ret
  exact ⟨rfl, _, hX5.sub (fun v hv => by simp at hv), HSR.out, HLR.out⟩

set_option maxRecDepth 10000000 in
set_option maxHeartbeats 4000000 in
theorem play_rem (w0 w : World) (db rb : Nat) (st : Ds) (sA sB : ByteArray) (n m : Int) (hX : BX w0 w db rb st st []) (hS : SortF st.S) (hl : st.L.length ≤ 1000) (hz : sA.size + sB.size ≤ 4096) (hn : n ≤ 9223372036854775807) :
    Calls Try.prog 12 #[ptr db, ptr rb, .agg #[.int .i64 3, .string sA, .string sB, .int .i64 n, .int .i64 m]] w (PlEnd w0 db rb st) := by
  have hI := hX.fi (by omega)
  have HI := Lib.hid hI
  have HS := Lib.hid hS
  have hbw : Below w.heap.size w (w.alloc (.cells #[.int .i64 3, .string sA, .string sB, .int .i64 n, .int .i64 m] 33)) := (Below.refl _ _).alloc (Nat.le_refl _) _
  have hsz : (w.alloc (.cells #[.int .i64 3, .string sA, .string sB, .int .i64 n, .int .i64 m] 33)).heap.size = w.heap.size + 1 := by simp
  obtain ⟨hX1, _⟩ := hX.push (v := .slice (some ⟨w.heap.size, 0, none⟩) 0 0) hbw (fun j hj => by cases hj; exact ⟨Nat.le_refl _, by rw [hsz]; exact Nat.lt_succ_self _⟩)
  obtain ⟨hXd, _⟩ := hX1.below (drew_bel _)
  have q0 := (cellNew w #[.int .i64 3, .string sA, .string sB, .int .i64 n, .int .i64 m] 33 0).trans (show _ = some (Value.int .i64 3) from rfl)
  have q1 := (cellNew w #[.int .i64 3, .string sA, .string sB, .int .i64 n, .int .i64 m] 33 1).trans (show _ = some (Value.string sA) from rfl)
  have q2 := (cellNew w #[.int .i64 3, .string sA, .string sB, .int .i64 n, .int .i64 m] 33 2).trans (show _ = some (Value.string sB) from rfl)
  have q3 := (cellNew w #[.int .i64 3, .string sA, .string sB, .int .i64 n, .int .i64 m] 33 3).trans (show _ = some (Value.int .i64 n) from rfl)
  have q4 := (cellNew w #[.int .i64 3, .string sA, .string sB, .int .i64 n, .int .i64 m] 33 4).trans (show _ = some (Value.int .i64 m) from rfl)
  clear hX hI hS hbw hsz
  obtain ⟨r, hr⟩ : ∃ r, remS st sA = r := ⟨_, rfl⟩
  have hsr : SortF r.2.S := by rw [← hr]; exact sort_rem HS.out
  have hlr : r.2.L.length ≤ st.L.length + 1 := by rw [← hr]; exact len_rem _ _
  have cD := hXd.disk (fun D hD => remD_any db st D sA _ hD (by omega) (by omega))
  have cR := fun (w' : World) (h : BX w0 w' db rb r.2 st [.slice (some ⟨w.heap.size, 0, none⟩) 0 0]) => h.ref (fun R hR => rrem_any rb st R sA _ hR HI.out (by omega))
  rw [hr] at cD
  simp only [hr] at cR
  have HSR := Lib.hid hsr
  have HLR := Lib.hid hlr
  clear hr hsr hlr hX1 hXd
  unfold ptr at cD cR ⊢
  obtain ⟨re, st'⟩ := r
  simp only at cD cR
  go_enter Try.func12, Try.ntmps12
  go_upto_region 9 with fail
  have hS0 : (w.alloc (.cells #[.int .i64 3, .string sA, .string sB, .int .i64 n, .int .i64 m] 33)).drew.cell? ⟨w.heap.size, 1, none⟩ = some (.string sA) ∧ (w.alloc (.cells #[.int .i64 3, .string sA, .string sB, .int .i64 n, .int .i64 m] 33)).drew.cell? ⟨w.heap.size, 2, none⟩ = some (.string sB) ∧ (w.alloc (.cells #[.int .i64 3, .string sA, .string sB, .int .i64 n, .int .i64 m] 33)).drew.cell? ⟨w.heap.size, 3, none⟩ = some (.int .i64 n) ∧ (w.alloc (.cells #[.int .i64 3, .string sA, .string sB, .int .i64 n, .int .i64 m] 33)).drew.cell? ⟨w.heap.size, 4, none⟩ = some (.int .i64 m) := ⟨q1, q2, q3, q4⟩
  refine wp_region_any (by kernel_rfl) ?_
  change wpAny _ _ _ _ 10 _ _ (World.drew _)
  generalize (w.alloc (.cells #[.int .i64 3, .string sA, .string sB, .int .i64 n, .int .i64 m] 33)).drew = wd at *
  clear q0 q1 q2 q3 q4
  refine HT.wpAny_of_G (k := 7) (S := fun w' => w'.cell? ⟨w.heap.size, 1, none⟩ = some (.string sA) ∧ w'.cell? ⟨w.heap.size, 2, none⟩ = some (.string sB) ∧ w'.cell? ⟨w.heap.size, 3, none⟩ = some (.int .i64 n) ∧ w'.cell? ⟨w.heap.size, 4, none⟩ = some (.int .i64 m)) _ _ _ _ ?_
  refine HT.takeG_at (i := 0) (v := ?_) rfl rfl (by kernel_rfl) (by kernel_rfl) (by kernel_rfl) (by kernel_rfl) (by kernel_rfl) (by kernel_rfl) (fun _ _ _ h => h) hS0 (Or.inl ⟨by rfl, ?_⟩) ?_
  rotate_left
  · intro wq hwq
    obtain ⟨y1, y2, y3, y4⟩ := hwq
    go_simp
    try with_reducible rfl
  simp only [Act.put, List.setIfInBounds_toArray, List.set_cons_zero, List.set_cons_succ]
  refine HT.takeG_at (i := 1) (v := ?_) rfl rfl (by kernel_rfl) (by kernel_rfl) (by kernel_rfl) (by kernel_rfl) (by kernel_rfl) (by kernel_rfl) (fun _ _ _ h => h) hS0 (Or.inl ⟨by rfl, ?_⟩) ?_
  rotate_left
  · intro wq hwq
    obtain ⟨y1, y2, y3, y4⟩ := hwq
    go_simp
    try with_reducible rfl
  simp only [Act.put, List.setIfInBounds_toArray, List.set_cons_zero, List.set_cons_succ]
  refine HT.takeG_at (i := 2) (v := ?_) rfl rfl (by kernel_rfl) (by kernel_rfl) (by kernel_rfl) (by kernel_rfl) (by kernel_rfl) (by kernel_rfl) (fun _ _ _ h => h) hS0 (Or.inl ⟨by rfl, ?_⟩) ?_
  rotate_left
  · intro wq hwq
    obtain ⟨y1, y2, y3, y4⟩ := hwq
    go_simp
    try with_reducible rfl
  simp only [Act.put, List.setIfInBounds_toArray, List.set_cons_zero, List.set_cons_succ]
  refine HT.takeG_at (i := 4) (v := ?_) rfl rfl (by kernel_rfl) (by kernel_rfl) (by kernel_rfl) (by kernel_rfl) (by kernel_rfl) (by kernel_rfl) (fun _ _ _ h => h) hS0 (Or.inl ⟨by rfl, ?_⟩) ?_
  rotate_left
  · intro wq hwq
    obtain ⟨y1, y2, y3, y4⟩ := hwq
    go_simp
    try with_reducible rfl
  simp only [Act.put, List.setIfInBounds_toArray, List.set_cons_zero, List.set_cons_succ]
  refine HT.takeG_at (i := 5) (v := ?_) rfl rfl (by kernel_rfl) (by kernel_rfl) (by kernel_rfl) (by kernel_rfl) (by kernel_rfl) (by kernel_rfl) (fun _ _ _ h => h) hS0 (Or.inl ⟨by rfl, ?_⟩) ?_
  rotate_left
  · intro wq hwq
    obtain ⟨y1, y2, y3, y4⟩ := hwq
    go_simp
    try with_reducible rfl
  simp only [Act.put, List.setIfInBounds_toArray, List.set_cons_zero, List.set_cons_succ]
  refine HT.takeG_at (i := 6) (v := ?_) rfl rfl (by kernel_rfl) (by kernel_rfl) (by kernel_rfl) (by kernel_rfl) (by kernel_rfl) (by kernel_rfl) (fun _ _ _ h => h) hS0 (Or.inl ⟨by rfl, ?_⟩) ?_
  rotate_left
  · intro wq hwq
    obtain ⟨y1, y2, y3, y4⟩ := hwq
    go_simp
    try with_reducible rfl
  simp only [Act.put, List.setIfInBounds_toArray, List.set_cons_zero, List.set_cons_succ]
  refine HT.wpAnyG_one (i := 3) (by kernel_rfl) rfl (fun KK hKK => ?_)
  go_simp
  refine cD.mono ?_
  rintro e w4 ⟨rfl, hX4, hK4⟩
  have hS4 : w4.cell? ⟨w.heap.size, 1, none⟩ = some (.string sA) ∧ w4.cell? ⟨w.heap.size, 2, none⟩ = some (.string sB) ∧ w4.cell? ⟨w.heap.size, 3, none⟩ = some (.int .i64 n) ∧ w4.cell? ⟨w.heap.size, 4, none⟩ = some (.int .i64 m) := ⟨cell1 hK4 hS0.1, cell1 hK4 hS0.2.1, cell1 hK4 hS0.2.2.1, cell1 hK4 hS0.2.2.2⟩
  simp only
  refine hKK _ _ hS4 ?_
  clear hKK KK
  refine HT.wpAnyG_turn (k := 7) (by kernel_rfl) rfl (fun KK hKK => ?_)
  go_simp
  refine (cR _ hX4).mono ?_
  rintro e w5 ⟨rfl, hX5, hK5⟩
  simp only
  refine hKK _ _ ?_
  clear hKK KK
  refine HT.take_at (i := 8) (v := ?_) rfl rfl (by kernel_rfl) (by kernel_rfl) (by kernel_rfl) (fun _ _ _ h => h) (Or.inl ⟨by rfl, ?_⟩) ?_
  rotate_left
  · intro wq
    go_simp
    try with_reducible rfl
  simp only [Act.put, List.setIfInBounds_toArray, List.set_cons_zero, List.set_cons_succ]
  refine HT.take_at (i := 9) (v := ?_) rfl rfl (by kernel_rfl) (by kernel_rfl) (by kernel_rfl) (fun _ _ _ h => h) (Or.inl ⟨by rfl, ?_⟩) ?_
  rotate_left
  · intro wq
    go_simp
    try with_reducible rfl
  simp only [Act.put, List.setIfInBounds_toArray, List.set_cons_zero, List.set_cons_succ]
  refine wpAny_done (by kernel_rfl) ?_ _
  go_wp2
  go_ret
  exact ⟨rfl, _, hX5.sub (fun v hv => by simp at hv), HSR.out, HLR.out⟩

set_option maxRecDepth 10000000 in
set_option maxHeartbeats 4000000 in
theorem play_sync (w0 w : World) (db rb : Nat) (st : Ds) (sA sB : ByteArray) (n m : Int) (hX : BX w0 w db rb st st []) (hS : SortF st.S) (hl : st.L.length ≤ 1000) (hz : sA.size + sB.size ≤ 4096) (hn : n ≤ 9223372036854775807) :
    Calls Try.prog 12 #[ptr db, ptr rb, .agg #[.int .i64 4, .string sA, .string sB, .int .i64 n, .int .i64 m]] w (PlEnd w0 db rb st) := by
  have hI := hX.fi (by omega)
  have HI := Lib.hid hI
  have HS := Lib.hid hS
  have hbw : Below w.heap.size w (w.alloc (.cells #[.int .i64 4, .string sA, .string sB, .int .i64 n, .int .i64 m] 33)) := (Below.refl _ _).alloc (Nat.le_refl _) _
  have hsz : (w.alloc (.cells #[.int .i64 4, .string sA, .string sB, .int .i64 n, .int .i64 m] 33)).heap.size = w.heap.size + 1 := by simp
  obtain ⟨hX1, _⟩ := hX.push (v := .slice (some ⟨w.heap.size, 0, none⟩) 0 0) hbw (fun j hj => by cases hj; exact ⟨Nat.le_refl _, by rw [hsz]; exact Nat.lt_succ_self _⟩)
  obtain ⟨hXd, _⟩ := hX1.below (drew_bel _)
  have q0 := (cellNew w #[.int .i64 4, .string sA, .string sB, .int .i64 n, .int .i64 m] 33 0).trans (show _ = some (Value.int .i64 4) from rfl)
  have q1 := (cellNew w #[.int .i64 4, .string sA, .string sB, .int .i64 n, .int .i64 m] 33 1).trans (show _ = some (Value.string sA) from rfl)
  have q2 := (cellNew w #[.int .i64 4, .string sA, .string sB, .int .i64 n, .int .i64 m] 33 2).trans (show _ = some (Value.string sB) from rfl)
  have q3 := (cellNew w #[.int .i64 4, .string sA, .string sB, .int .i64 n, .int .i64 m] 33 3).trans (show _ = some (Value.int .i64 n) from rfl)
  have q4 := (cellNew w #[.int .i64 4, .string sA, .string sB, .int .i64 n, .int .i64 m] 33 4).trans (show _ = some (Value.int .i64 m) from rfl)
  clear hX hI hS hbw hsz
  obtain ⟨r, hr⟩ : ∃ r, syncS st = r := ⟨_, rfl⟩
  have hsr : SortF r.2.S := by rw [← hr]; exact sort_sync HS.out
  have hlr : r.2.L.length ≤ st.L.length + 1 := by rw [← hr]; exact len_sync _
  have cD := hX1.disk (fun D hD => sync_any db st D _ hD (by omega))
  have cR := fun (w' : World) (h : BX w0 w' db rb r.2 st [.slice (some ⟨w.heap.size, 0, none⟩) 0 0]) => h.ref (fun R hR => rsync_any rb st R _ hR HI.out)
  rw [hr] at cD
  simp only [hr] at cR
  have HSR := Lib.hid hsr
  have HLR := Lib.hid hlr
  clear hr hsr hlr hX1 hXd
  unfold ptr at cD cR ⊢
  obtain ⟨re, st'⟩ := r
  simp only at cD cR
  go_enter Try.func12, Try.ntmps12
  go_wp2_with (first
    | (go_at_call 23; refine cD.mono ?_; rintro _ w4 ⟨rfl, hX4, hK4⟩)
    | (go_at_call 33; refine (cR _ hX4).mono ?_; rintro _ w5 ⟨rfl, hX5, hK5⟩))
  go_ret
  exact ⟨rfl, _, hX5.sub (fun v hv => by simp at hv), HSR.out, HLR.out⟩

set_option maxRecDepth 10000000 in
set_option maxHeartbeats 4000000 in
theorem play_fuse (w0 w : World) (db rb : Nat) (st : Ds) (sA sB : ByteArray) (n m : Int) (hX : BX w0 w db rb st st []) (hS : SortF st.S) (hl : st.L.length ≤ 1000) (hz : sA.size + sB.size ≤ 4096) (hn : n ≤ 9223372036854775807) :
    Calls Try.prog 12 #[ptr db, ptr rb, .agg #[.int .i64 5, .string sA, .string sB, .int .i64 n, .int .i64 m]] w (PlEnd w0 db rb st) := by
  have hI := hX.fi (by omega)
  have HI := Lib.hid hI
  have HS := Lib.hid hS
  have hbw : Below w.heap.size w (w.alloc (.cells #[.int .i64 5, .string sA, .string sB, .int .i64 n, .int .i64 m] 33)) := (Below.refl _ _).alloc (Nat.le_refl _) _
  have hsz : (w.alloc (.cells #[.int .i64 5, .string sA, .string sB, .int .i64 n, .int .i64 m] 33)).heap.size = w.heap.size + 1 := by simp
  obtain ⟨hX1, _⟩ := hX.push (v := .slice (some ⟨w.heap.size, 0, none⟩) 0 0) hbw (fun j hj => by cases hj; exact ⟨Nat.le_refl _, by rw [hsz]; exact Nat.lt_succ_self _⟩)
  obtain ⟨hXd, _⟩ := hX1.below (drew_bel _)
  have q0 := (cellNew w #[.int .i64 5, .string sA, .string sB, .int .i64 n, .int .i64 m] 33 0).trans (show _ = some (Value.int .i64 5) from rfl)
  have q1 := (cellNew w #[.int .i64 5, .string sA, .string sB, .int .i64 n, .int .i64 m] 33 1).trans (show _ = some (Value.string sA) from rfl)
  have q2 := (cellNew w #[.int .i64 5, .string sA, .string sB, .int .i64 n, .int .i64 m] 33 2).trans (show _ = some (Value.string sB) from rfl)
  have q3 := (cellNew w #[.int .i64 5, .string sA, .string sB, .int .i64 n, .int .i64 m] 33 3).trans (show _ = some (Value.int .i64 n) from rfl)
  have q4 := (cellNew w #[.int .i64 5, .string sA, .string sB, .int .i64 n, .int .i64 m] 33 4).trans (show _ = some (Value.int .i64 m) from rfl)
  clear hX hI hS hbw hsz
  obtain ⟨hX2, hK2, c3, f3⟩ := hX1.rfuse (max n (-1))
  have t3 := cell1 hK2 (o := 3) q3
  have hX3 := hX2.sub (V' := []) (fun v hv => by simp at hv)
  have cD := hX3.disk (fun D hD => fuseD_any db st D n _ hD hn)
  have HL := Lib.hid hl
  clear hX1 hXd hX2 hK2 hX3 hl
  unfold ptr at cD ⊢
  go_enter Try.func12, Try.ntmps12
  go_upto_region 14 with fail
  clear q0 q1 q2 q3 q4 c3 f3
  generalize (w.alloc (.cells #[.int .i64 5, .string sA, .string sB, .int .i64 n, .int .i64 m] 33)).setCell ⟨rb, 3, none⟩ (.int .i64 (max n (-1))) = w3 at *
  go_wp2_with (go_at_call 27; refine cD.mono ?_; rintro _ w4 ⟨rfl, hX4, hK4⟩)
  go_ret
  exact ⟨rfl, _, hX4, HS.out, Nat.le_succ _⟩

set_option maxRecDepth 10000000 in
set_option maxHeartbeats 4000000 in
theorem play_crash (w0 w : World) (db rb : Nat) (st : Ds) (sA sB : ByteArray) (n m : Int) (hX : BX w0 w db rb st st []) (hS : SortF st.S) (hl : st.L.length ≤ 1000) (hz : sA.size + sB.size ≤ 4096) (hn : n ≤ 9223372036854775807) :
    Calls Try.prog 12 #[ptr db, ptr rb, .agg #[.int .i64 6, .string sA, .string sB, .int .i64 n, .int .i64 m]] w (PlEnd w0 db rb st) := by
  have hI := hX.fi (by omega)
  have HI := Lib.hid hI
  have HS := Lib.hid hS
  have hbw : Below w.heap.size w (w.alloc (.cells #[.int .i64 6, .string sA, .string sB, .int .i64 n, .int .i64 m] 33)) := (Below.refl _ _).alloc (Nat.le_refl _) _
  have hsz : (w.alloc (.cells #[.int .i64 6, .string sA, .string sB, .int .i64 n, .int .i64 m] 33)).heap.size = w.heap.size + 1 := by simp
  obtain ⟨hX1, _⟩ := hX.push (v := .slice (some ⟨w.heap.size, 0, none⟩) 0 0) hbw (fun j hj => by cases hj; exact ⟨Nat.le_refl _, by rw [hsz]; exact Nat.lt_succ_self _⟩)
  obtain ⟨hXd, _⟩ := hX1.below (drew_bel _)
  have q0 := (cellNew w #[.int .i64 6, .string sA, .string sB, .int .i64 n, .int .i64 m] 33 0).trans (show _ = some (Value.int .i64 6) from rfl)
  have q1 := (cellNew w #[.int .i64 6, .string sA, .string sB, .int .i64 n, .int .i64 m] 33 1).trans (show _ = some (Value.string sA) from rfl)
  have q2 := (cellNew w #[.int .i64 6, .string sA, .string sB, .int .i64 n, .int .i64 m] 33 2).trans (show _ = some (Value.string sB) from rfl)
  have q3 := (cellNew w #[.int .i64 6, .string sA, .string sB, .int .i64 n, .int .i64 m] 33 3).trans (show _ = some (Value.int .i64 n) from rfl)
  have q4 := (cellNew w #[.int .i64 6, .string sA, .string sB, .int .i64 n, .int .i64 m] 33 4).trans (show _ = some (Value.int .i64 m) from rfl)
  clear hX hI hS hbw hsz
  have cR := hX1.refT (fun R hR => rcrash_any rb st R n m _ hR HI.out)
  have cD := fun (w' : World) (h : BX w0 w' db rb st (crashS st n m).2 [.slice (some ⟨w.heap.size, 0, none⟩) 0 0]) => h.disk (fun D hD => crash_any db st D n m _ hD (by omega))
  have HSR : Hid (SortF (crashS st n m).2.S) := Lib.hid (sort_crash HS.out)
  have HLR : Hid ((crashS st n m).2.L.length ≤ st.L.length + 1) := Lib.hid (Nat.zero_le _)
  have hcr : (crashS st n m).1 = 0 := rfl
  rw [hcr] at cD
  generalize (crashS st n m).2 = st' at *
  clear hX1 hXd hcr
  unfold ptr at cD cR ⊢
  go_enter Try.func12, Try.ntmps12
  go_wp2_with (first
    | (go_at_call 34; refine cR.mono ?_; rintro _ w4 ⟨rfl, hX4, hK4⟩; have t3 := cell1 hK4 (o := 3) q3; have t4 := cell1 hK4 (o := 4) q4)
    | (go_at_call 26; refine (cD _ hX4).mono ?_; rintro _ w5 ⟨rfl, hX5, hK5⟩))
  go_ret
  exact ⟨rfl, _, hX5.sub (fun v hv => by simp at hv), HSR.out, HLR.out⟩

set_option maxRecDepth 10000000 in
set_option maxHeartbeats 4000000 in
theorem play_none (w0 w : World) (db rb : Nat) (st : Ds) (op : Int) (sA sB : ByteArray) (n m : Int) (hX : BX w0 w db rb st st []) (hS : SortF st.S) (hl : st.L.length ≤ 1000) (hz : sA.size + sB.size ≤ 4096) (hn : n ≤ 9223372036854775807) (hop : (op == 0) = false ∧ (op == 1) = false ∧ (op == 2) = false ∧ (op == 3) = false ∧ (op == 4) = false ∧ (op == 5) = false ∧ (op == 6) = false ∧ (op == 7) = false) :
    Calls Try.prog 12 #[ptr db, ptr rb, .agg #[.int .i64 op, .string sA, .string sB, .int .i64 n, .int .i64 m]] w (PlEnd w0 db rb st) := by
  have hI := hX.fi (by omega)
  have HI := Lib.hid hI
  have HS := Lib.hid hS
  have hbw : Below w.heap.size w (w.alloc (.cells #[.int .i64 op, .string sA, .string sB, .int .i64 n, .int .i64 m] 33)) := (Below.refl _ _).alloc (Nat.le_refl _) _
  have hsz : (w.alloc (.cells #[.int .i64 op, .string sA, .string sB, .int .i64 n, .int .i64 m] 33)).heap.size = w.heap.size + 1 := by simp
  obtain ⟨hX1, _⟩ := hX.push (v := .slice (some ⟨w.heap.size, 0, none⟩) 0 0) hbw (fun j hj => by cases hj; exact ⟨Nat.le_refl _, by rw [hsz]; exact Nat.lt_succ_self _⟩)
  obtain ⟨hXd, _⟩ := hX1.below (drew_bel _)
  have q0 := (cellNew w #[.int .i64 op, .string sA, .string sB, .int .i64 n, .int .i64 m] 33 0).trans (show _ = some (Value.int .i64 op) from rfl)
  have q1 := (cellNew w #[.int .i64 op, .string sA, .string sB, .int .i64 n, .int .i64 m] 33 1).trans (show _ = some (Value.string sA) from rfl)
  have q2 := (cellNew w #[.int .i64 op, .string sA, .string sB, .int .i64 n, .int .i64 m] 33 2).trans (show _ = some (Value.string sB) from rfl)
  have q3 := (cellNew w #[.int .i64 op, .string sA, .string sB, .int .i64 n, .int .i64 m] 33 3).trans (show _ = some (Value.int .i64 n) from rfl)
  have q4 := (cellNew w #[.int .i64 op, .string sA, .string sB, .int .i64 n, .int .i64 m] 33 4).trans (show _ = some (Value.int .i64 m) from rfl)
  clear hX hI hS hbw hsz
  obtain ⟨o0, o1, o2, o3, o4, o5, o6, o7⟩ := hop
  have hX2 := Lib.hid (hX1.sub (V' := []) (fun v hv => by simp at hv))
  clear hX1 hXd
  go_enter Try.func12, Try.ntmps12
  go_wp2
  go_ret
  exact ⟨rfl, _, hX2.out, HS.out, Nat.le_succ _⟩

end Go.Proofs.Ytlkgfimignlgaaa
