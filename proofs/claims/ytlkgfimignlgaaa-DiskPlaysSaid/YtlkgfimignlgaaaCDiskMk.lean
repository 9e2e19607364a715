/-
  What calls on a disk come to: a call spent; an operation done. CONTRACTS of the makers of operations (where their captured variables lie), of strings.Clone.
-/
import Derived.Test.YtlkgfimignlgaaaCDiskAgn
set_option linter.unusedSimpArgs false
set_option linter.unusedVariables false
set_option linter.unusedVariables false
set_option linter.unusedSimpArgs false
namespace Go.Proofs.Ytlkgfimignlgaaa
open Go.RowKit
def NewB (w w' : World) (j : Nat) : Prop := w.heap.size ≤ j ∧ j < w'.heap.size
theorem Cap.lt {w : World} {b : Nat} {t : TypeId} {v : Value} (h : Cap w b t v) : b < w.heap.size := (Array.getElem?_eq_some_iff.1 h).1
theorem opD_app {w : World} {D : Nat → Prop} {b1 b2 : Nat} {s d : ByteArray} (h1 : Cap w b1 9 (.string s)) (h2 : Cap w b2 9 (.string d)) (k1 : D b1) (k2 : D b2) : OpD w D (.func (.func 57) #[] #[ptr b1, ptr b2]) (.app s d) := by
  refine ⟨[b1, b2], fun b hb => ?_, fun w' hw => ⟨b1, b2, rfl, h1.ofEq (hw b1 (by simp)), h2.ofEq (hw b2 (by simp))⟩⟩
  simp only [List.mem_cons, List.not_mem_nil, or_false] at hb
  rcases hb with rfl | rfl
  · exact ⟨k1, _, _, h1, by decide, by decide⟩
  · exact ⟨k2, _, _, h2, by decide, by decide⟩
theorem opD_cut {w : World} {D : Nat → Prop} {c b1 b2 n : Nat} {s : ByteArray} (h0 : Cap w c 88 (.func (.func 60) #[] #[ptr b1, ptr b2])) (h1 : Cap w b1 9 (.string s)) (h2 : Cap w b2 3 (.int .i64 (n : Nat))) (k0 : D c) (k1 : D b1) (k2 : D b2) : OpD w D (.func (.func 69) #[] #[ptr c]) (.cut s n) := by
  refine ⟨[c, b1, b2], fun b hb => ?_, fun w' hw => ⟨c, _, rfl, h0.ofEq (hw c (by simp)), b1, b2, rfl, h1.ofEq (hw b1 (by simp)), h2.ofEq (hw b2 (by simp))⟩⟩
  simp only [List.mem_cons, List.not_mem_nil, or_false] at hb
  rcases hb with rfl | rfl | rfl
  · exact ⟨k0, _, _, h0, by decide, by decide⟩
  · exact ⟨k1, _, _, h1, by decide, by decide⟩
  · exact ⟨k2, _, _, h2, by decide, by decide⟩
theorem opD_ren {w : World} {D : Nat → Prop} {c b1 b2 : Nat} {s t : ByteArray} (h0 : Cap w c 88 (.func (.func 62) #[] #[ptr b1, ptr b2])) (h1 : Cap w b1 9 (.string s)) (h2 : Cap w b2 9 (.string t)) (k0 : D c) (k1 : D b1) (k2 : D b2) : OpD w D (.func (.func 69) #[] #[ptr c]) (.ren s t) := by
  refine ⟨[c, b1, b2], fun b hb => ?_, fun w' hw => ⟨c, _, rfl, h0.ofEq (hw c (by simp)), b1, b2, rfl, h1.ofEq (hw b1 (by simp)), h2.ofEq (hw b2 (by simp))⟩⟩
  simp only [List.mem_cons, List.not_mem_nil, or_false] at hb
  rcases hb with rfl | rfl | rfl
  · exact ⟨k0, _, _, h0, by decide, by decide⟩
  · exact ⟨k1, _, _, h1, by decide, by decide⟩
  · exact ⟨k2, _, _, h2, by decide, by decide⟩
theorem opD_rem {w : World} {D : Nat → Prop} {c b1 : Nat} {s : ByteArray} (h0 : Cap w c 88 (.func (.func 63) #[] #[ptr b1])) (h1 : Cap w b1 9 (.string s)) (k0 : D c) (k1 : D b1) : OpD w D (.func (.func 69) #[] #[ptr c]) (.rem s) := by
  refine ⟨[c, b1], fun b hb => ?_, fun w' hw => ⟨c, _, rfl, h0.ofEq (hw c (by simp)), b1, rfl, h1.ofEq (hw b1 (by simp))⟩⟩
  simp only [List.mem_cons, List.not_mem_nil, or_false] at hb
  rcases hb with rfl | rfl
  · exact ⟨k0, _, _, h0, by decide, by decide⟩
  · exact ⟨k1, _, _, h1, by decide, by decide⟩
theorem nApp_any (s d : ByteArray) (w : World) :
    Calls Try.prog 44 #[.string s, .string d] w fun e w' => ∃ fv, e = .returned fv ∧ OpD w' (NewB w w') fv (.app s d) ∧ Below w.heap.size w w' := by
  have hmf : ∀ (fn : Fn) (first cap : Array Value) (w : World), (Instr.makeFunc fn first cap).run Try.prog w = .ok (.func fn first cap) w := fun _ _ _ _ => rfl
  have hc1 : Cap ((w.alloc (.cells #[.string s] 9)).alloc (.cells #[.string d] 9)) w.heap.size 9 (.string s) := (Cap.new w _ _).alloc _
  have hc2 : Cap ((w.alloc (.cells #[.string s] 9)).alloc (.cells #[.string d] 9)) (w.heap.size + 1) 9 (.string d) := by
    have := Cap.new (w.alloc (.cells #[.string s] 9)) 9 (.string d)
    rw [World.size_alloc] at this
    exact this
  have hb : Below w.heap.size w ((w.alloc (.cells #[.string s] 9)).alloc (.cells #[.string d] 9)) := ((Below.refl _ w).alloc (Nat.le_refl _) _).alloc (by simp) _
  go_enter Try.func44, Try.ntmps44
  go_wp2_with fail
  go_ret
  exact ⟨_, rfl, opD_app hc1 hc2 ⟨by omega, hc1.lt⟩ ⟨by omega, hc2.lt⟩, hb⟩
theorem nCut_any (s : ByteArray) (n : Nat) (w : World) :
    Calls Try.prog 46 #[.string s, .int .i64 (n : Nat)] w fun e w' => ∃ fv, e = .returned fv ∧ OpD w' (NewB w w') fv (.cut s n) ∧ Below w.heap.size w w' := by
  have hmf : ∀ (fn : Fn) (first cap : Array Value) (w : World), (Instr.makeFunc fn first cap).run Try.prog w = .ok (.func fn first cap) w := fun _ _ _ _ => rfl
  have hc1 : Cap ((w.alloc (.cells #[.string s] 9)).alloc (.cells #[.int .i64 (n : Nat)] 3)) w.heap.size 9 (.string s) := (Cap.new w _ _).alloc _
  have hc2 : Cap ((w.alloc (.cells #[.string s] 9)).alloc (.cells #[.int .i64 (n : Nat)] 3)) (w.heap.size + 1) 3 (.int .i64 (n : Nat)) := by
    have := Cap.new (w.alloc (.cells #[.string s] 9)) 3 (.int .i64 (n : Nat))
    rw [World.size_alloc] at this
    exact this
  have hb : Below w.heap.size w ((w.alloc (.cells #[.string s] 9)).alloc (.cells #[.int .i64 (n : Nat)] 3)) := ((Below.refl _ w).alloc (Nat.le_refl _) _).alloc (by simp) _
  go_enter Try.func46, Try.ntmps46
  go_wp2_with (go_at_call 59; refine (und_any _ _ _).mono ?_; rintro e w1 ⟨rfl, hc, hb1⟩)
  rw [World.size_alloc, World.size_alloc] at hc
  go_ret
  have hs := hb1.size
  rw [World.size_alloc, World.size_alloc] at hs
  exact ⟨_, rfl, opD_cut hc (hc1.below hb1) (hc2.below hb1) ⟨by omega, hc.lt⟩ ⟨by omega, (hc1.below hb1).lt⟩ ⟨by omega, (hc2.below hb1).lt⟩, hb.trans (hb1.mono hb.size)⟩
theorem nRen_any (s t : ByteArray) (w : World) :
    Calls Try.prog 47 #[.string s, .string t] w fun e w' => ∃ fv, e = .returned fv ∧ OpD w' (NewB w w') fv (.ren s t) ∧ Below w.heap.size w w' := by
  have hmf : ∀ (fn : Fn) (first cap : Array Value) (w : World), (Instr.makeFunc fn first cap).run Try.prog w = .ok (.func fn first cap) w := fun _ _ _ _ => rfl
  have hc1 : Cap ((w.alloc (.cells #[.string s] 9)).alloc (.cells #[.string t] 9)) w.heap.size 9 (.string s) := (Cap.new w _ _).alloc _
  have hc2 : Cap ((w.alloc (.cells #[.string s] 9)).alloc (.cells #[.string t] 9)) (w.heap.size + 1) 9 (.string t) := by
    have := Cap.new (w.alloc (.cells #[.string s] 9)) 9 (.string t)
    rw [World.size_alloc] at this
    exact this
  have hb : Below w.heap.size w ((w.alloc (.cells #[.string s] 9)).alloc (.cells #[.string t] 9)) := ((Below.refl _ w).alloc (Nat.le_refl _) _).alloc (by simp) _
  go_enter Try.func47, Try.ntmps47
  go_wp2_with (go_at_call 59; refine (und_any _ _ _).mono ?_; rintro e w1 ⟨rfl, hc, hb1⟩)
  rw [World.size_alloc, World.size_alloc] at hc
  go_ret
  have hs := hb1.size
  rw [World.size_alloc, World.size_alloc] at hs
  exact ⟨_, rfl, opD_ren hc (hc1.below hb1) (hc2.below hb1) ⟨by omega, hc.lt⟩ ⟨by omega, (hc1.below hb1).lt⟩ ⟨by omega, (hc2.below hb1).lt⟩, hb.trans (hb1.mono hb.size)⟩
theorem nRem_any (s : ByteArray) (w : World) :
    Calls Try.prog 48 #[.string s] w fun e w' => ∃ fv, e = .returned fv ∧ OpD w' (NewB w w') fv (.rem s) ∧ Below w.heap.size w w' := by
  have hmf : ∀ (fn : Fn) (first cap : Array Value) (w : World), (Instr.makeFunc fn first cap).run Try.prog w = .ok (.func fn first cap) w := fun _ _ _ _ => rfl
  have hc1 := Cap.new w 9 (.string s)
  have hb : Below w.heap.size w (w.alloc (.cells #[.string s] 9)) := (Below.refl _ w).alloc (Nat.le_refl _) _
  go_enter Try.func48, Try.ntmps48
  go_wp2_with (go_at_call 59; refine (und_any _ _ _).mono ?_; rintro e w1 ⟨rfl, hc, hb1⟩)
  rw [World.size_alloc] at hc
  go_ret
  have hs := hb1.size
  rw [World.size_alloc] at hs
  exact ⟨_, rfl, opD_rem hc (hc1.below hb1) ⟨by omega, hc.lt⟩ ⟨by omega, (hc1.below hb1).lt⟩, hb.trans (hb1.mono hb.size)⟩
theorem clone_any (s : ByteArray) (w : World) (hs : s.size ≤ 1000000000) :
    Calls Try.prog 45 #[.string s] w fun e w' => e = .returned (.string s) ∧ Below w.heap.size w w' := by
  have cC := fun w => Try.stringslite_Clone s w (by omega)
  go_enter Try.func45, Try.ntmps45
  go_wp2_with (go_at_call 58; refine (cC _).mono ?_; rintro e w1 ⟨rfl, hb⟩)
  go_ret
  exact ⟨rfl, hb⟩
def Ds.spent (st : Ds) : Ds := { st with fuse := spendF st.fuse }
section
variable {w wa w' : World} {db m1 m2 : Nat} {st : Ds} {D : Nat → Prop} {lv f : Value} {fs : List Value} {E1 E2 : List En} {op : Op}
theorem foot_lt {m : Nat} {E : List En} (h : FM w m E) {j : Nat} (hj : Foot m E j) : j < w.heap.size := by
  rcases hj with rfl | ⟨x, hx, hg⟩
  · exact h.lt
  · exact (h.rows x hx).lt hg
theorem spendF_rng {fuse : Int} (h : -1 ≤ fuse ∧ fuse ≤ 9223372036854775807) : -1 ≤ spendF fuse ∧ spendF fuse ≤ 9223372036854775807 := by
  unfold spendF
  split <;> omega
/-- the disk's own block alone has turned, in its fuse -/
theorem DP.fused (h : DP w db st D m1 m2 lv fs E1 E2) {fu : Int} (hfu : -1 ≤ fu ∧ fu ≤ 9223372036854775807) (hD : DB w' db st.room fu m1 m2 lv) (hT : Turn w w' (fun j => j = db)) : DP w' db { st with fuse := fu } D m1 m2 lv fs E1 E2 := by
  have n1 : ∀ j, Foot m1 E1 j → j ≠ db := fun j hj e => cells_foot h.f1 h.hdb (by decide) (e ▸ hj)
  have n2 : ∀ j, Foot m2 E2 j → j ≠ db := fun j hj e => cells_foot h.f2 h.hdb (by decide) (e ▸ hj)
  have n3 : ∀ j, lv.ownBlock = some j → j ≠ db := fun j hj e => db_lv h.hdb h.hlv (e ▸ hj)
  have hk : ∀ b t v, D b → Cap w b t v → t ≠ 5 → t ≠ 69 → w'.heap[b]? = w.heap[b]? := fun b t v hd hc _ _ => hT.block b (h.lt b hd) (cap_db h.hdb hc)
  have hops : OpDs w' D fs st.L := h.ops.on (fun _ h => h) hk
  exact ⟨hD, h.f1.keep (hT.block _ h.f1.lt (n1 _ (.inl rfl))) (fun x hx g hg => hT.block _ ((h.f1.rows x hx).lt hg) (n1 _ (.inr ⟨x, hx, hg⟩))),
    h.f2.keep (hT.block _ h.f2.lt (n2 _ (.inl rfl))) (fun x hx g hg => hT.block _ ((h.f2.rows x hx).lt hg) (n2 _ (.inr ⟨x, hx, hg⟩))), h.d1, h.d2,
    ⟨own_keep h.hlv.row fun g hg => hT.block _ (World.ownsRow.lt h.hlv.row g hg).2 (n3 _ hg), hops.ops⟩, h.apart, h.in0, h.in1, h.in2, h.in3, hops, h.chain, h.room, hfu, fun j hj => Nat.lt_of_lt_of_le (h.lt j hj) hT.size⟩
theorem DP.spend (h : DP w db st D m1 m2 lv fs E1 E2) (hD : DB w' db st.room (spendF st.fuse) m1 m2 lv) (hT : Turn w w' (fun j => j = db)) : DP w' db st.spent D m1 m2 lv fs E1 E2 :=
  h.fused (spendF_rng h.fuse) hD hT
/-- an operation was done, and is loose -/
theorem DP.perf {w0 : World} (h : DP wa db st D m1 m2 lv fs E1 E2) (hlt : ∀ j, D j → j < w0.heap.size) (hT0 : Turn w0 wa D) (hop : OpD wa (NewB w0 wa) f op) (hok : okF st.now op) (hf : FineF st.room (doF 16777217 st.now op))
    (hp : PerfEnd wa db m1 m2 st.room st.fuse lv E1 fs st.L f op w') : DK w' db { st with L := st.L ++ [op] } (Ext D w0 w') ∧ Turn w0 w' D := by
  obtain ⟨E', lv', hD', hF', hd', hL', hT, hfx, hlx⟩ := hp
  have hs0 := hT0.size
  have hs1 := hT.size
  have nA2 : ∀ j, Foot m2 E2 j → ¬ (Foot m1 E1 j ∨ j = db ∨ lv.ownBlock = some j) := by
    rintro j hj (h1 | h1 | h1)
    · exact h.apart j h1 hj
    · exact cells_foot h.f2 h.hdb (by decide) (h1 ▸ hj)
    · exact lv_foot h.f2 h.hlv h1 hj
  have nAc : ∀ b t v, Cap wa b t v → t ≠ 5 → t ≠ 69 → wa.heap.size ≤ b ∨ w'.heap[b]? = wa.heap[b]? := fun b t v hc h1 h2 => .inr (hT.block b hc.lt (by
    rintro (h3 | h3 | h3)
    · exact cap_foot h.f1 hc h1 h3
    · exact cap_db h.hdb hc h3
    · exact cap_lv h.hlv hc h2 h3))
  have hkc : ∀ b t v, Cap wa b t v → t ≠ 5 → t ≠ 69 → w'.heap[b]? = wa.heap[b]? := fun b t v hc h1 h2 => by
    rcases nAc b t v hc h1 h2 with h3 | h3
    · have := hc.lt; omega
    · exact h3
  have hops : OpDs w' (Ext D w0 w') (fs ++ [f]) (st.L ++ [op]) := OpDs.snoc (h.ops.on (fun j hj => .inl hj) fun b t v _ hc h1 h2 => hkc b t v hc h1 h2)
    (hop.on (fun j hj => .inr ⟨hj.1, Nat.lt_of_lt_of_le hj.2 hs1⟩) fun b t v _ hc h1 h2 => hkc b t v hc h1 h2)
  refine ⟨⟨m1, m2, lv', fs ++ [f], E', E2, hD', hF', h.f2.keep (hT.block _ h.f2.lt (nA2 _ (.inl rfl))) (fun x hx g hg => hT.block _ ((h.f2.rows x hx).lt hg) (nA2 _ (.inr ⟨x, hx, hg⟩))), ?_, h.d2, hL', ?_, .inl h.in0, ?_, fun j hj => .inl (h.in2 j hj), ?_, hops, ?_, h.room, h.fuse, ?_⟩, ?_⟩
  · rw [hd', h.d1]
    exact (doAll_snoc st.L st.S op).symm
  · intro j hj hj2
    rcases hfx j hj with h1 | h1
    · exact h.apart j h1 hj2
    · have := hlt j (h.in2 j hj2); omega
  · intro j hj
    rcases hfx j hj with h1 | h1
    · exact .inl (h.in1 j h1)
    · exact .inr ⟨by omega, foot_lt hF' hj⟩
  · intro j hj
    rcases hlx j hj with h1 | h1
    · exact .inl (h.in3 j h1)
    · exact .inr ⟨by omega, (World.ownsRow.lt hL'.row j hj).2⟩
  · exact Chain.snoc h.chain hok hf
  · rintro j (h1 | h1)
    · have := hlt j h1; omega
    · exact h1.2
  · refine hT0.then hT fun j hj => ?_
    rintro (h1 | h1 | h1)
    · exact h.in1 j h1
    · exact h1 ▸ h.in0
    · exact h.in3 j h1
theorem DK.ext {D' : Nat → Prop} (h : DK w db st D) (hD : ∀ j, D j → D' j) (hlt : ∀ j, D' j → j < w.heap.size) : DK w db st D' := by
  obtain ⟨m1, m2, lv, fs, E1, E2, h⟩ := h
  exact ⟨m1, m2, lv, fs, E1, E2, h.hdb, h.f1, h.f2, h.d1, h.d2, h.hlv, h.apart, hD _ h.in0, fun j hj => hD j (h.in1 j hj), fun j hj => hD j (h.in2 j hj), fun j hj => hD j (h.in3 j hj), h.ops.on hD fun _ _ _ _ _ _ _ => rfl, h.chain, h.room, h.fuse, hlt⟩
end
end Go.Proofs.Ytlkgfimignlgaaa
