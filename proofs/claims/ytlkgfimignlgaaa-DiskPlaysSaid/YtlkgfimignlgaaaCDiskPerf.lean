/-
  CONTRACT of perform: an operation is done on the files, and is loose. (gen_perf.py writes it.)
-/
import Derived.Test.YtlkgfimignlgaaaCDiskLoose
set_option linter.unusedSimpArgs false
set_option linter.unusedVariables false
set_option linter.unusedVariables false
set_option linter.unusedSimpArgs false
namespace Go.Proofs.Ytlkgfimignlgaaa
open Go.RowKit
theorem lv_row {w w' : World} {lv : Value} {fs : List Value} {L : List Op} (h : LV w lv fs L) (hb : Below w.heap.size w w') : w'.ownsRow 0 69 1 lv L.length fs :=
  own_keep h.row fun g hg => hb.block g (World.ownsRow.lt h.row g hg).2
section
variable {w w1 w2 wa : World} {db m1 m2 g cap : Nat} {room fuse : Int} {lv f : Value} {fs : List Value} {L : List Op} {op : Op} {E E' : List En}
theorem db_lv (hD : DB w db room fuse m1 m2 lv) (hL : LV w lv fs L) : lv.ownBlock ≠ some db := by
  intro e
  rcases hL.row.2 with ⟨hn, _⟩ | ⟨g', cap, cur, hv, _, hgc, _⟩
  · rw [hn] at e; cases e
  · rw [hv] at e
    cases e
    unfold DB at hD
    rw [hgc] at hD
    cases hD
theorem perf_db (hD : DB w1 db room fuse m1 m2 lv) (hL : LV w1 lv fs L) (hb : Below w1.heap.size w1 wa) (hg : wa.grownBy w2 lv.ownBlock) : DB w2 db room fuse m1 m2 lv :=
  hD.on ((hg.block db (Nat.lt_of_lt_of_le hD.lt hb.size) (fun e => db_lv hD hL e.symm)).trans (hb.block db hD.lt))
/-- what perform comes to -/
def PerfEnd (w : World) (db m1 m2 : Nat) (room fuse : Int) (lv : Value) (E : List En) (fs : List Value) (L : List Op) (f : Value) (op : Op) (w' : World) : Prop :=
  ∃ E' lv', DB w' db room fuse m1 m2 lv' ∧ FM w' m1 E' ∧ datF E' = doF 16777217 (datF E) op ∧ LV w' lv' (fs ++ [f]) (L ++ [op]) ∧ Turn w w' (fun j => Foot m1 E j ∨ j = db ∨ lv.ownBlock = some j) ∧
    (∀ j, Foot m1 E' j → Foot m1 E j ∨ w.heap.size ≤ j) ∧ ∀ j, lv'.ownBlock = some j → lv.ownBlock = some j ∨ w.heap.size ≤ j
theorem lv_foot {mb : Nat} (h : FM w mb E) (hL : LV w lv fs L) {j : Nat} (hj : lv.ownBlock = some j) : ¬ Foot mb E j := by
  rcases hL.row.2 with ⟨hn, _⟩ | ⟨g', cap, cur, hv, _, hgc, _⟩
  · rw [hn] at hj; cases hj
  · rw [hv] at hj
    cases hj
    exact cells_foot h hgc (by decide)
theorem cap_lv {b : Nat} {t : TypeId} {v : Value} (hL : LV w lv fs L) (hc : Cap w b t v) (ht : t ≠ 69) : lv.ownBlock ≠ some b := by
  intro e
  rcases hL.row.2 with ⟨hn, _⟩ | ⟨g', cap, cur, hv, _, hgc, _⟩
  · rw [hn] at e; cases e
  · rw [hv] at e
    cases e
    unfold Cap at hc
    rw [hgc] at hc
    cases hc
    exact ht rfl
theorem perf_end (hF : FM w m1 E) (hF1 : FM w1 m1 E') (hd1 : datF E' = doF 16777217 (datF E) op) (hT1 : Turn w w1 (Foot m1 E)) (hf1 : ∀ j, Foot m1 E' j → Foot m1 E j ∨ w.heap.size ≤ j)
    (hD1 : DB w1 db room fuse m1 m2 lv) (hL1 : LV w1 lv fs L) (hb2 : Below w1.heap.size w1 wa) (hgrow : wa.grownBy w2 lv.ownBlock) (hat : lv.ownBlock = some g ∨ g = wa.heap.size)
    (hown : w2.ownsRow 0 69 1 (.slice (some ⟨g, 0, none⟩) (L.length + 1) cap) (L.length + 1) (fs ++ [f])) (hop : OpV w1 f op) :
    PerfEnd w db m1 m2 room fuse lv E fs L f op (w2.setCell ⟨db, 4, none⟩ (.slice (some ⟨g, 0, none⟩) (L.length + 1) cap)) := by
  have hD2 := perf_db hD1 hL1 hb2 hgrow
  have hsz1 := hb2.size
  have hsz2 := hgrow.size
  have hdl := hD1.lt
  have hkey : ∀ j, j < w1.heap.size → j ≠ db → lv.ownBlock ≠ some j → (w2.setCell ⟨db, 4, none⟩ (.slice (some ⟨g, 0, none⟩) (L.length + 1) cap)).heap[j]? = w1.heap[j]? := fun j hj h1 h2 => by
    rw [Below.heap_setCell _ _ _ _ h1, hgrow.block j (Nat.lt_of_lt_of_le hj hsz1) (fun e => h2 e.symm), hb2.block j hj]
  have hcap : ∀ b t v, Cap w1 b t v → t ≠ 5 → t ≠ 69 → Cap (w2.setCell ⟨db, 4, none⟩ (.slice (some ⟨g, 0, none⟩) (L.length + 1) cap)) b t v := fun b t v hc _ ho => by
    refine (hkey b (Array.getElem?_eq_some_iff.1 hc).1 (fun e => ?_) (cap_lv hL1 hc ho)).trans hc
    subst e
    unfold DB at hD1
    unfold Cap at hc
    rw [hc] at hD1
    cases hD1
  refine ⟨E', _, hD2.s4 _, hF1.keep (hkey m1 hF1.lt (fun e => ?_) (fun e => ?_)) (fun x hx j hj => hkey j ((hF1.rows x hx).lt hj) (fun e => ?_) (fun e => ?_)), hd1, ⟨?_, ?_⟩, ?_, hf1, fun j hj => ?_⟩
  · subst e
    obtain ⟨es, clock, hb, _⟩ := hF1.map
    unfold DB at hD1
    rw [hb] at hD1
    cases hD1
  · exact lv_foot hF1 hL1 e (.inl rfl)
  · subst e
    exact cells_foot hF1 hD1 (by decide) (.inr ⟨x, hx, hj⟩)
  · exact lv_foot hF1 hL1 e (.inr ⟨x, hx, hj⟩)
  · have e : (L ++ [op]).length = L.length + 1 := by simp
    rw [e]
    refine own_keep hown fun j hj => Below.heap_setCell _ _ _ _ fun e => ?_
    have hj2 : g = j := Option.some.inj hj
    rcases hat with h1 | h1
    · exact db_lv hD1 hL1 (by rw [h1, hj2]; exact congrArg some e)
    · have : j = db := e
      omega
  · exact OpVs.snoc (hL1.ops.on hcap) (hop.on hcap)
  · refine ⟨hgrow.os.trans (hb2.os.trans hT1.os), hgrow.tape.trans (hb2.tape.trans hT1.tape), hgrow.output.trans (hb2.output.trans hT1.output), by have := hT1.size; simp [World.setCell]; omega, fun j hj hn => ?_⟩
    have := hT1.size
    exact (hkey j (by omega) (fun e => hn (.inr (.inl e))) (fun e => hn (.inr (.inr e)))).trans (hT1.block j hj fun e => hn (.inl e))
  · have hj2 : g = j := Option.some.inj hj
    have := hT1.size
    rcases hat with h1 | h1
    · exact .inl (by rw [h1, hj2])
    · exact .inr (by omega)
end
set_option maxRecDepth 10000000 in
set_option maxHeartbeats 4000000 in
theorem perform_app (db m1 m2 : Nat) (room fuse : Int) (lv : Value) (E : List En) (fs : List Value) (L : List Op) (s d : ByteArray) (b1 b2 : Nat) (w : World) (hD : DB w db room fuse m1 m2 lv) (hF : FM w m1 E) (hL : LV w lv fs L) (h1 : Cap w b1 9 (.string s)) (h2 : Cap w b2 9 (.string d)) (hok : okF (datF E) (.app s d)) (hE : smE E) (hlt : L.length ≤ 1000000000) :
    Calls Try.prog 43 #[ptr db, Value.func (.func 57) #[] #[ptr b1, ptr b2]] w fun e w' => e = .returned (.tuple #[]) ∧ PerfEnd w db m1 m2 room fuse lv E fs L (Value.func (.func 57) #[] #[ptr b1, ptr b2]) (.app s d) w' := by
  obtain ⟨i0, hi, hz0, hz1, hz2⟩ := info_parts infoO
  have c2 := hD.cells.2.2.1
  have hOP : OpV w (Value.func (.func 57) #[] #[ptr b1, ptr b2]) (.app s d) := ⟨b1, b2, rfl, h1, h2⟩
  have cC : Calls Try.prog 57 #[.map (some m1), .int .i64 16777217, ptr b1, ptr b2] w _ := do_app m1 E s d b1 b2 16777217 w hF h1 h2 hok hE (by omega)
  have hone : ∀ u ∈ [Value.func (.func 57) #[] #[ptr b1, ptr b2]], u.oneCell' = true := fun u hu => by rw [List.mem_singleton.1 hu]; rfl
  unfold ptr at cC hOP hone ⊢
  go_enter Try.func43, Try.ntmps43
  go_upto_region 1 with (go_at_call 57; refine cC.mono ?_; rintro e w1 ⟨rfl, E', hF1, hd1, hT1, hf1⟩)
  have hD1 := Turn.db hF hT1 hD
  have hL1 := Turn.lv hF hT1 hL
  have hO1 := OpV.on hOP fun b t v hc ht _ => Turn.cap hF hT1 hc ht
  obtain ⟨d0, d1, d2, d3, d4⟩ := hD1.cells
  clear c2 cC hOP
  have hb2 : Below w1.heap.size w1 (w1.alloc (.cells #[Value.func (.func 57) #[] #[ptr b1, ptr b2]] 69)) := (Below.refl _ _).alloc (Nat.le_refl _) _
  have hN := heap_alloc_new w1 (.cells #[Value.func (.func 57) #[] #[ptr b1, ptr b2]] 69)
  have hrow := lv_row hL1 hb2
  unfold ptr at hb2 hN hrow
  go_wp2_with (at_builtin; refine wpList_append_lies _ rfl _ _ _ rfl 0 69 i0 _ 1 8 Try.underlying58 hi hz0 hz1 hz2 rfl (by omega) lv L.length fs (by rfl) hrow ⟨w1.heap.size, 0, none⟩ 1 1 [Value.func (.func 57) #[] #[.pointer (some ⟨b1, 0, none⟩), .pointer (some ⟨b2, 0, none⟩)]] (by rfl) (by rfl) (World.news_of_block hN) hone (by omega) (by unfold maxLen; omega) (by omega) (Nat.zero_le _) _ rfl ?_; intro g cap w2 hown hgrow hat hglt; have hD2 := perf_db hD1 hL1 hb2 hgrow; obtain ⟨_, _, _, _, z4⟩ := hD2.cells; have f4 := hD2.frozen 4)
  exact bodyPost_end (results_none rfl _ _ _) rfl ⟨rfl, perf_end hF hF1 hd1 hT1 hf1 hD1 hL1 hb2 hgrow hat hown hO1⟩
set_option maxRecDepth 10000000 in
set_option maxHeartbeats 4000000 in
theorem perform_und (db m1 m2 : Nat) (room fuse : Int) (lv : Value) (E : List En) (fs : List Value) (L : List Op) (op : Op) (c : Nat) (iv : Value) (w : World) (hD : DB w db room fuse m1 m2 lv) (hF : FM w m1 E) (hL : LV w lv fs L) (hc : Cap w c 88 iv) (hin : InV w iv op) (hok : okF (datF E) op) (hE : smE E) (hlt : L.length ≤ 1000000000) :
    Calls Try.prog 43 #[ptr db, Value.func (.func 69) #[] #[ptr c]] w fun e w' => e = .returned (.tuple #[]) ∧ PerfEnd w db m1 m2 room fuse lv E fs L (Value.func (.func 69) #[] #[ptr c]) op w' := by
  obtain ⟨i0, hi, hz0, hz1, hz2⟩ := info_parts infoO
  have c2 := hD.cells.2.2.1
  have hOP : OpV w (Value.func (.func 69) #[] #[ptr c]) op := by
    cases op with
    | app s d => exact hin.elim
    | cut s n => exact ⟨c, iv, rfl, hc, hin⟩
    | ren s t => exact ⟨c, iv, rfl, hc, hin⟩
    | rem s => exact ⟨c, iv, rfl, hc, hin⟩
  have cC : Calls Try.prog 69 #[.map (some m1), .int .i64 16777217, ptr c] w _ := do_und m1 E op c iv 16777217 w hF hc hin hok hE (by omega)
  have hone : ∀ u ∈ [Value.func (.func 69) #[] #[ptr c]], u.oneCell' = true := fun u hu => by rw [List.mem_singleton.1 hu]; rfl
  unfold ptr at cC hOP hone ⊢
  go_enter Try.func43, Try.ntmps43
  go_upto_region 1 with (go_at_call 69; refine cC.mono ?_; rintro e w1 ⟨rfl, E', hF1, hd1, hT1, hf1⟩)
  have hD1 := Turn.db hF hT1 hD
  have hL1 := Turn.lv hF hT1 hL
  have hO1 := OpV.on hOP fun b t v hc ht _ => Turn.cap hF hT1 hc ht
  obtain ⟨d0, d1, d2, d3, d4⟩ := hD1.cells
  clear c2 cC hOP
  have hb2 : Below w1.heap.size w1 (w1.alloc (.cells #[Value.func (.func 69) #[] #[ptr c]] 69)) := (Below.refl _ _).alloc (Nat.le_refl _) _
  have hN := heap_alloc_new w1 (.cells #[Value.func (.func 69) #[] #[ptr c]] 69)
  have hrow := lv_row hL1 hb2
  unfold ptr at hb2 hN hrow
  go_wp2_with (at_builtin; refine wpList_append_lies _ rfl _ _ _ rfl 0 69 i0 _ 1 8 Try.underlying58 hi hz0 hz1 hz2 rfl (by omega) lv L.length fs (by rfl) hrow ⟨w1.heap.size, 0, none⟩ 1 1 [Value.func (.func 69) #[] #[.pointer (some ⟨c, 0, none⟩)]] (by rfl) (by rfl) (World.news_of_block hN) hone (by omega) (by unfold maxLen; omega) (by omega) (Nat.zero_le _) _ rfl ?_; intro g cap w2 hown hgrow hat hglt; have hD2 := perf_db hD1 hL1 hb2 hgrow; obtain ⟨_, _, _, _, z4⟩ := hD2.cells; have f4 := hD2.frozen 4)
  exact bodyPost_end (results_none rfl _ _ _) rfl ⟨rfl, perf_end hF hF1 hd1 hT1 hf1 hD1 hL1 hb2 hgrow hat hown hO1⟩
end Go.Proofs.Ytlkgfimignlgaaa
