/-
  BOTH DISKS, 33 BY 33 (codicillaw06): CONTRACT of play, at Alter. (gen_rt.py writes it.)
-/
import Derived.Test.YtlkgfimignlgaaaCDiskRt
import Derived.Test.YtlkgfimignlgaaaCHeldT
set_option linter.unusedSimpArgs false
set_option linter.unusedVariables false
set_option linter.unusedVariables false
set_option linter.unusedSimpArgs false
namespace Go.Proofs.Ytlkgfimignlgaaa
open Go.RowKit
namespace HT
section
variable {P : Program} {ops : Array Oper} {Q : Exit → Act → World → Prop} {md : Region.Mode} {S : World → Prop}
/-- take number i first, as takeG_at: k waits for it within f steps -/
theorem takeF_at (f : Nat) {k i : Nat} {d : Tmp} {oi : Oper} {v : Value} {fuel : Nat} {listed : Array Bool} {a : Act} {w : World} (hi : ops[i]? = some oi) (hd : oi.dst = some d)
    (hs : Region.noSelect ops = true) (hf : Region.free md ops listed i = true) (hr : (Region.ready md ops listed).contains i = true) (hw : waitsT md ops f k i = true) (hcl : closedB md ops listed = true) (hk : (!listed.getD k true && !(i == k)) = true)
    (hQ : ∀ c a w, Q (.panic c) (a.put oi.dst v) w → Q (.panic c) a w) (hS : S w) (hy : YieldsIf P ops S oi v a)
    (h : wpAnyG P md ops Q k S fuel (listed.setIfInBounds i true) (a.put (some d) v) w) : wpAnyG P md ops Q k S (fuel + 1) listed a w :=
  wpAnyG_first hi (Region.noSelect_spec hs) hQ hw fuel listed a w (Region.free_spec hi hf) (by simpa using hr) (closedB_spec hcl) hy (by simp at hk; simpa using hk.1) (by simp at hk; exact hk.2) hS (by rw [hd]; exact h)
end
end HT

set_option maxRecDepth 10000000 in
set_option maxHeartbeats 40000000 in
theorem play_alt (w0 w : World) (db rb : Nat) (st : Ds) (sA sB : ByteArray) (n m : Int) (hX : BX w0 w db rb st st []) (hS : SortF st.S) (hl : st.L.length ≤ 1000) (hz : sA.size + sB.size ≤ 4096) (hn : n ≤ 9223372036854775807) :
    Calls Try.prog 12 #[ptr db, ptr rb, .agg #[.int .i64 7, .string sA, .string sB, .int .i64 n, .int .i64 m]] w (PlEnd w0 db rb st) := by
  have hI := hX.fi (by omega)
  have HI := Lib.hid hI
  have HS := Lib.hid hS
  have hbw : Below w.heap.size w (w.alloc (.cells #[.int .i64 7, .string sA, .string sB, .int .i64 n, .int .i64 m] 33)) := (Below.refl _ _).alloc (Nat.le_refl _) _
  have hsz : (w.alloc (.cells #[.int .i64 7, .string sA, .string sB, .int .i64 n, .int .i64 m] 33)).heap.size = w.heap.size + 1 := by simp
  obtain ⟨hX1, _⟩ := hX.push (v := .slice (some ⟨w.heap.size, 0, none⟩) 0 0) hbw (fun j hj => by cases hj; exact ⟨Nat.le_refl _, by rw [hsz]; exact Nat.lt_succ_self _⟩)
  obtain ⟨hXd, _⟩ := hX1.below (drew_bel _)
  have q0 := (cellNew w #[.int .i64 7, .string sA, .string sB, .int .i64 n, .int .i64 m] 33 0).trans (show _ = some (Value.int .i64 7) from rfl)
  have q1 := (cellNew w #[.int .i64 7, .string sA, .string sB, .int .i64 n, .int .i64 m] 33 1).trans (show _ = some (Value.string sA) from rfl)
  have q2 := (cellNew w #[.int .i64 7, .string sA, .string sB, .int .i64 n, .int .i64 m] 33 2).trans (show _ = some (Value.string sB) from rfl)
  have q3 := (cellNew w #[.int .i64 7, .string sA, .string sB, .int .i64 n, .int .i64 m] 33 3).trans (show _ = some (Value.int .i64 n) from rfl)
  have q4 := (cellNew w #[.int .i64 7, .string sA, .string sB, .int .i64 n, .int .i64 m] 33 4).trans (show _ = some (Value.int .i64 m) from rfl)
  clear hX hI hS hbw hsz
  obtain ⟨r, hr⟩ : ∃ r, altS st sA n (u8m m) = r := ⟨_, rfl⟩
  have hsr : SortF r.2.S := by rw [← hr]; exact sort_alt HS.out
  have hlr : r.2.L.length ≤ st.L.length + 1 := by rw [← hr]; exact len_alt _ _ _ _
  have cD := hXd.disk (fun D hD => alter_any db st D sA n (u8m m) _ hD (by omega) (by omega))
  have cR := fun (w' : World) (h : BX w0 w' db rb r.2 st [.slice (some ⟨w.heap.size, 0, none⟩) 0 0]) => h.ref (fun R hR => ralt_any rb st R sA n (u8m m) _ hR HI.out HS.out (by omega))
  rw [hr] at cD
  simp only [hr] at cR
  have HSR := Lib.hid hsr
  have HLR := Lib.hid hlr
  clear hr hsr hlr hX1 hXd
  unfold ptr at cD cR ⊢
  obtain ⟨re, st'⟩ := r
  simp only at cD cR
  have hw8 := u8m_wrap m
  have hw9 : m % 256 = (((u8m m).toNat : Nat) : Int) := u8m_wrap m
  generalize u8m m = ub at *
  go_enter Try.func12, Try.ntmps12
  go_upto_region 19 with fail
  have hS0 : (w.alloc (.cells #[.int .i64 7, .string sA, .string sB, .int .i64 n, .int .i64 m] 33)).drew.cell? ⟨w.heap.size, 1, none⟩ = some (.string sA) ∧ (w.alloc (.cells #[.int .i64 7, .string sA, .string sB, .int .i64 n, .int .i64 m] 33)).drew.cell? ⟨w.heap.size, 2, none⟩ = some (.string sB) ∧ (w.alloc (.cells #[.int .i64 7, .string sA, .string sB, .int .i64 n, .int .i64 m] 33)).drew.cell? ⟨w.heap.size, 3, none⟩ = some (.int .i64 n) ∧ (w.alloc (.cells #[.int .i64 7, .string sA, .string sB, .int .i64 n, .int .i64 m] 33)).drew.cell? ⟨w.heap.size, 4, none⟩ = some (.int .i64 m) := ⟨q1, q2, q3, q4⟩
  refine wp_region_any (by kernel_rfl) ?_
  change wpAny _ _ _ _ 20 _ _ (World.drew _)
  generalize (w.alloc (.cells #[.int .i64 7, .string sA, .string sB, .int .i64 n, .int .i64 m] 33)).drew = wd at *
  clear q0 q1 q2 q3 q4
  refine HT.wpAny_of_G (k := 17) (S := fun w' => w'.cell? ⟨w.heap.size, 1, none⟩ = some (.string sA) ∧ w'.cell? ⟨w.heap.size, 2, none⟩ = some (.string sB) ∧ w'.cell? ⟨w.heap.size, 3, none⟩ = some (.int .i64 n) ∧ w'.cell? ⟨w.heap.size, 4, none⟩ = some (.int .i64 m)) _ _ _ _ ?_
  refine HT.takeF_at 7 (i := 0) (v := ?_) rfl rfl (by kernel_rfl) (by kernel_rfl) (by kernel_rfl) (by kernel_rfl) (by kernel_rfl) (by kernel_rfl) (fun _ _ _ h => h) hS0 (Or.inl ⟨by rfl, ?_⟩) ?_
  rotate_left
  · intro wq hwq
    obtain ⟨y1, y2, y3, y4⟩ := hwq
    go_simp
    try with_reducible rfl
  simp only [Act.put, List.setIfInBounds_toArray, List.set_cons_zero, List.set_cons_succ]
  refine HT.takeF_at 7 (i := 1) (v := ?_) rfl rfl (by kernel_rfl) (by kernel_rfl) (by kernel_rfl) (by kernel_rfl) (by kernel_rfl) (by kernel_rfl) (fun _ _ _ h => h) hS0 (Or.inl ⟨by rfl, ?_⟩) ?_
  rotate_left
  · intro wq hwq
    obtain ⟨y1, y2, y3, y4⟩ := hwq
    go_simp
    try with_reducible rfl
  simp only [Act.put, List.setIfInBounds_toArray, List.set_cons_zero, List.set_cons_succ]
  refine HT.takeF_at 7 (i := 2) (v := ?_) rfl rfl (by kernel_rfl) (by kernel_rfl) (by kernel_rfl) (by kernel_rfl) (by kernel_rfl) (by kernel_rfl) (fun _ _ _ h => h) hS0 (Or.inl ⟨by rfl, ?_⟩) ?_
  rotate_left
  · intro wq hwq
    obtain ⟨y1, y2, y3, y4⟩ := hwq
    go_simp
    try with_reducible rfl
  simp only [Act.put, List.setIfInBounds_toArray, List.set_cons_zero, List.set_cons_succ]
  refine HT.takeF_at 7 (i := 3) (v := ?_) rfl rfl (by kernel_rfl) (by kernel_rfl) (by kernel_rfl) (by kernel_rfl) (by kernel_rfl) (by kernel_rfl) (fun _ _ _ h => h) hS0 (Or.inl ⟨by rfl, ?_⟩) ?_
  rotate_left
  · intro wq hwq
    obtain ⟨y1, y2, y3, y4⟩ := hwq
    go_simp
    try with_reducible rfl
  simp only [Act.put, List.setIfInBounds_toArray, List.set_cons_zero, List.set_cons_succ]
  refine HT.takeF_at 7 (i := 4) (v := ?_) rfl rfl (by kernel_rfl) (by kernel_rfl) (by kernel_rfl) (by kernel_rfl) (by kernel_rfl) (by kernel_rfl) (fun _ _ _ h => h) hS0 (Or.inl ⟨by rfl, ?_⟩) ?_
  rotate_left
  · intro wq hwq
    obtain ⟨y1, y2, y3, y4⟩ := hwq
    go_simp
    try with_reducible rfl
  simp only [Act.put, List.setIfInBounds_toArray, List.set_cons_zero, List.set_cons_succ]
  refine HT.takeF_at 7 (i := 5) (v := ?_) rfl rfl (by kernel_rfl) (by kernel_rfl) (by kernel_rfl) (by kernel_rfl) (by kernel_rfl) (by kernel_rfl) (fun _ _ _ h => h) hS0 (Or.inl ⟨by rfl, ?_⟩) ?_
  rotate_left
  · intro wq hwq
    obtain ⟨y1, y2, y3, y4⟩ := hwq
    go_simp
    try with_reducible rfl
  simp only [Act.put, List.setIfInBounds_toArray, List.set_cons_zero, List.set_cons_succ]
  refine HT.takeF_at 7 (i := 6) (v := ?_) rfl rfl (by kernel_rfl) (by kernel_rfl) (by kernel_rfl) (by kernel_rfl) (by kernel_rfl) (by kernel_rfl) (fun _ _ _ h => h) hS0 (Or.inl ⟨by rfl, ?_⟩) ?_
  rotate_left
  · intro wq hwq
    obtain ⟨y1, y2, y3, y4⟩ := hwq
    go_simp
    try with_reducible rfl
  simp only [Act.put, List.setIfInBounds_toArray, List.set_cons_zero, List.set_cons_succ]
  refine HT.takeF_at 7 (i := 7) (v := ?_) rfl rfl (by kernel_rfl) (by kernel_rfl) (by kernel_rfl) (by kernel_rfl) (by kernel_rfl) (by kernel_rfl) (fun _ _ _ h => h) hS0 (Or.inl ⟨by rfl, ?_⟩) ?_
  rotate_left
  · intro wq hwq
    obtain ⟨y1, y2, y3, y4⟩ := hwq
    go_simp
    try with_reducible rfl
  simp only [Act.put, List.setIfInBounds_toArray, List.set_cons_zero, List.set_cons_succ]
  refine HT.takeF_at 7 (i := 9) (v := ?_) rfl rfl (by kernel_rfl) (by kernel_rfl) (by kernel_rfl) (by kernel_rfl) (by kernel_rfl) (by kernel_rfl) (fun _ _ _ h => h) hS0 (Or.inl ⟨by rfl, ?_⟩) ?_
  rotate_left
  · intro wq hwq
    obtain ⟨y1, y2, y3, y4⟩ := hwq
    go_simp
    try with_reducible rfl
  simp only [Act.put, List.setIfInBounds_toArray, List.set_cons_zero, List.set_cons_succ]
  refine HT.takeF_at 7 (i := 10) (v := ?_) rfl rfl (by kernel_rfl) (by kernel_rfl) (by kernel_rfl) (by kernel_rfl) (by kernel_rfl) (by kernel_rfl) (fun _ _ _ h => h) hS0 (Or.inl ⟨by rfl, ?_⟩) ?_
  rotate_left
  · intro wq hwq
    obtain ⟨y1, y2, y3, y4⟩ := hwq
    go_simp
    try with_reducible rfl
  simp only [Act.put, List.setIfInBounds_toArray, List.set_cons_zero, List.set_cons_succ]
  refine HT.takeF_at 7 (i := 11) (v := ?_) rfl rfl (by kernel_rfl) (by kernel_rfl) (by kernel_rfl) (by kernel_rfl) (by kernel_rfl) (by kernel_rfl) (fun _ _ _ h => h) hS0 (Or.inl ⟨by rfl, ?_⟩) ?_
  rotate_left
  · intro wq hwq
    obtain ⟨y1, y2, y3, y4⟩ := hwq
    go_simp
    try with_reducible rfl
  simp only [Act.put, List.setIfInBounds_toArray, List.set_cons_zero, List.set_cons_succ]
  refine HT.takeF_at 7 (i := 12) (v := ?_) rfl rfl (by kernel_rfl) (by kernel_rfl) (by kernel_rfl) (by kernel_rfl) (by kernel_rfl) (by kernel_rfl) (fun _ _ _ h => h) hS0 (Or.inl ⟨by rfl, ?_⟩) ?_
  rotate_left
  · intro wq hwq
    obtain ⟨y1, y2, y3, y4⟩ := hwq
    go_simp
    try with_reducible rfl
  simp only [Act.put, List.setIfInBounds_toArray, List.set_cons_zero, List.set_cons_succ]
  refine HT.takeF_at 7 (i := 13) (v := ?_) rfl rfl (by kernel_rfl) (by kernel_rfl) (by kernel_rfl) (by kernel_rfl) (by kernel_rfl) (by kernel_rfl) (fun _ _ _ h => h) hS0 (Or.inl ⟨by rfl, ?_⟩) ?_
  rotate_left
  · intro wq hwq
    obtain ⟨y1, y2, y3, y4⟩ := hwq
    go_simp
    try with_reducible rfl
  simp only [Act.put, List.setIfInBounds_toArray, List.set_cons_zero, List.set_cons_succ]
  refine HT.takeF_at 7 (i := 14) (v := ?_) rfl rfl (by kernel_rfl) (by kernel_rfl) (by kernel_rfl) (by kernel_rfl) (by kernel_rfl) (by kernel_rfl) (fun _ _ _ h => h) hS0 (Or.inl ⟨by rfl, ?_⟩) ?_
  rotate_left
  · intro wq hwq
    obtain ⟨y1, y2, y3, y4⟩ := hwq
    go_simp
    try with_reducible rfl
  simp only [Act.put, List.setIfInBounds_toArray, List.set_cons_zero, List.set_cons_succ]
  refine HT.takeF_at 7 (i := 15) (v := ?_) rfl rfl (by kernel_rfl) (by kernel_rfl) (by kernel_rfl) (by kernel_rfl) (by kernel_rfl) (by kernel_rfl) (fun _ _ _ h => h) hS0 (Or.inl ⟨by rfl, ?_⟩) ?_
  rotate_left
  · intro wq hwq
    obtain ⟨y1, y2, y3, y4⟩ := hwq
    go_simp
    try with_reducible rfl
  simp only [Act.put, List.setIfInBounds_toArray, List.set_cons_zero, List.set_cons_succ]
  refine HT.takeF_at 7 (i := 16) (v := ?_) rfl rfl (by kernel_rfl) (by kernel_rfl) (by kernel_rfl) (by kernel_rfl) (by kernel_rfl) (by kernel_rfl) (fun _ _ _ h => h) hS0 (Or.inl ⟨by rfl, ?_⟩) ?_
  rotate_left
  · intro wq hwq
    obtain ⟨y1, y2, y3, y4⟩ := hwq
    go_simp
    try with_reducible rfl
  simp only [Act.put, List.setIfInBounds_toArray, List.set_cons_zero, List.set_cons_succ]
  refine HT.wpAnyG_one (i := 8) (by kernel_rfl) rfl (fun KK hKK => ?_)
  go_simp
  refine cD.mono ?_
  rintro e w4 ⟨rfl, hX4, hK4⟩
  have hS4 : w4.cell? ⟨w.heap.size, 1, none⟩ = some (.string sA) ∧ w4.cell? ⟨w.heap.size, 2, none⟩ = some (.string sB) ∧ w4.cell? ⟨w.heap.size, 3, none⟩ = some (.int .i64 n) ∧ w4.cell? ⟨w.heap.size, 4, none⟩ = some (.int .i64 m) := ⟨cell1 hK4 hS0.1, cell1 hK4 hS0.2.1, cell1 hK4 hS0.2.2.1, cell1 hK4 hS0.2.2.2⟩
  simp only
  refine hKK _ _ hS4 ?_
  clear hKK KK
  refine HT.wpAnyG_turn (k := 17) (by kernel_rfl) rfl (fun KK hKK => ?_)
  go_simp
  refine (cR _ hX4).mono ?_
  rintro e w5 ⟨rfl, hX5, hK5⟩
  simp only
  refine hKK _ _ ?_
  clear hKK KK
  refine HT.take_at (i := 18) (v := ?_) rfl rfl (by kernel_rfl) (by kernel_rfl) (by kernel_rfl) (fun _ _ _ h => h) (Or.inl ⟨by rfl, ?_⟩) ?_
  rotate_left
  · intro wq
    go_simp
    try with_reducible rfl
  simp only [Act.put, List.setIfInBounds_toArray, List.set_cons_zero, List.set_cons_succ]
  refine HT.take_at (i := 19) (v := ?_) rfl rfl (by kernel_rfl) (by kernel_rfl) (by kernel_rfl) (fun _ _ _ h => h) (Or.inl ⟨by rfl, ?_⟩) ?_
  rotate_left
  · intro wq
    go_simp
    try with_reducible rfl
  simp only [Act.put, List.setIfInBounds_toArray, List.set_cons_zero, List.set_cons_succ]
  refine wpAny_done (by kernel_rfl) ?_ _
  go_wp2
  go_ret
  exact ⟨rfl, _, hX5.sub (fun v hv => by simp at hv), HSR.out, HLR.out⟩

end Go.Proofs.Ytlkgfimignlgaaa
