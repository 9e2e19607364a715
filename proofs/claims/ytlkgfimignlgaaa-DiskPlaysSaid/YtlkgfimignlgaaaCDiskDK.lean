/-
  A DISK's STATE: its files, what was synced, what is loose; what holds of the world. No conditions.
-/
import Derived.Test.YtlkgfimignlgaaaCDiskPerf
set_option linter.unusedSimpArgs false
set_option linter.unusedVariables false
set_option linter.unusedVariables false
set_option linter.unusedSimpArgs false
namespace Go.Proofs.Ytlkgfimignlgaaa
open Go.RowKit
structure Ds where
  room : Int
  fuse : Int
  S : Fs
  L : List Op
def doAll (S : Fs) : List Op → Fs
  | [] => S
  | op :: L => doAll (doF 16777217 S op) L
theorem doAll_snoc : ∀ (L : List Op) (S : Fs) (op : Op), doAll S (L ++ [op]) = doF 16777217 (doAll S L) op
  | [], _, _ => rfl
  | _ :: L, S, op => by
    show doAll _ (L ++ [op]) = _
    rw [doAll_snoc L]
    rfl
def Ds.now (st : Ds) : Fs := doAll st.S st.L
def FineF (room : Int) (F : Fs) : Prop := (sumF F : Int) ≤ room ∧ F.length ≤ 64
def Chain (room : Int) : Fs → List Op → Prop
  | F, [] => FineF room F
  | F, op :: L => FineF room F ∧ okF F op ∧ Chain room (doF 16777217 F op) L
theorem Chain.first {room : Int} {F : Fs} : ∀ {L : List Op}, Chain room F L → FineF room F
  | [], h => h
  | _ :: _, h => h.1
theorem Chain.last {room : Int} : ∀ {L : List Op} {F : Fs}, Chain room F L → FineF room (doAll F L)
  | [], _, h => h
  | _ :: L, _, h => Chain.last (L := L) h.2.2
theorem Chain.snoc {room : Int} {op : Op} : ∀ {L : List Op} {F : Fs}, Chain room F L → okF (doAll F L) op → FineF room (doF 16777217 (doAll F L) op) → Chain room F (L ++ [op])
  | [], _, h, hok, hf => ⟨h, hok, hf⟩
  | _ :: _, _, h, hok, hf => ⟨h.1, h.2.1, Chain.snoc h.2.2 hok hf⟩
theorem Chain.take {room : Int} : ∀ {L : List Op} {F : Fs} (n : Nat), Chain room F L → Chain room F (L.take n)
  | [], _, n, h => by rw [List.take_nil]; exact h
  | _ :: _, _, 0, h => h.1
  | _ :: _, _, n + 1, h => ⟨h.1, h.2.1, Chain.take n h.2.2⟩
theorem Chain.at' {room : Int} : ∀ {L : List Op} {F : Fs} (n : Nat) (h : n < L.length), Chain room F L → FineF room (doAll F (L.take n)) ∧ okF (doAll F (L.take n)) L[n] ∧ doAll F (L.take (n + 1)) = doF 16777217 (doAll F (L.take n)) L[n]
  | op :: L, F, 0, _, h => ⟨h.1, h.2.1, rfl⟩
  | op :: L, F, n + 1, hn, h => Chain.at' (L := L) (F := doF 16777217 F op) n (by simpa using hn) h.2.2
/-- no file has more bytes than all -/
theorem getF_sum (F : Fs) (s : ByteArray) : (getF F s).length + sumF (delF F s) ≤ sumF F := by
  unfold getF delF sumF
  induction F with
  | nil => simp
  | cons p r ih =>
    rw [List.find?_cons, List.filter_cons]
    cases h : eqF s p with
    | true =>
      have h2 : ∀ r : Fs, ((r.filter fun p => !eqF s p).map fun p => p.2.length).sum ≤ (r.map fun p => p.2.length).sum := by
        intro r
        induction r with
        | nil => simp
        | cons q r ih =>
          rw [List.filter_cons]
          split
          · simp only [List.map_cons, List.sum_cons]; omega
          · simp only [List.map_cons, List.sum_cons]; omega
      have := h2 r
      simp only [Bool.not_true, Bool.false_eq_true, if_false, List.map_cons, List.sum_cons]
      omega
    | false =>
      simp only [Bool.not_false, if_true, List.map_cons, List.sum_cons]
      omega
theorem sum_ins (p : ByteArray × List UInt8) : ∀ F : Fs, sumF (insF p F) = p.2.length + sumF F
  | [] => by simp [insF, sumF]
  | q :: r => by
    simp only [insF]
    split
    · simp [sumF]
    · have ih := sum_ins p r
      simp only [sumF, List.map_cons, List.sum_cons] at ih ⊢
      omega
theorem sum_put (F : Fs) (s : ByteArray) (l : List UInt8) : sumF (putF F s l) + (getF F s).length ≤ sumF F + l.length := by
  unfold putF
  rw [sum_ins]
  have := getF_sum F s
  simp only
  omega
theorem len_insF (p : ByteArray × List UInt8) : ∀ F : Fs, (insF p F).length = F.length + 1
  | [] => rfl
  | q :: r => by
    simp only [insF]
    split
    · rfl
    · rw [List.length_cons, len_insF p r]; rfl
theorem len_delF (F : Fs) (s : ByteArray) : (delF F s).length ≤ F.length ∧ (hasF F s = true → (delF F s).length < F.length) := by
  unfold delF hasF
  induction F with
  | nil => simp
  | cons p r ih =>
    rw [List.filter_cons, List.any_cons]
    cases h : eqF s p with
    | true =>
      simp only [Bool.not_true, Bool.false_eq_true, if_false, List.length_cons, Bool.true_or]
      exact ⟨by omega, fun _ => by omega⟩
    | false =>
      simp only [Bool.not_false, if_true, List.length_cons, Bool.false_or]
      exact ⟨by omega, fun h2 => by have := ih.2 h2; omega⟩
theorem len_putF (F : Fs) (s : ByteArray) (l : List UInt8) : (putF F s l).length ≤ F.length + 1 ∧ (hasF F s = true → (putF F s l).length ≤ F.length) := by
  unfold putF
  rw [len_insF]
  have := len_delF F s
  exact ⟨by omega, fun h => by have := this.2 h; omega⟩
theorem getF_le (F : Fs) (s : ByteArray) : (getF F s).length ≤ sumF F := by have := getF_sum F s; omega
/-- each operation that is done keeps within the room -/
theorem fine_app {room : Int} {F : Fs} {s d : ByteArray} (h : FineF room F) (hd : (d.size : Int) ≤ room - (sumF F : Nat)) (hn : hasF F s = true ∨ F.length < 64) : FineF room (doF 16777217 F (.app s d)) := by
  have h1 := sum_put F s (getF F s ++ d.data.toList.take (min 16777217 d.size))
  have h2 := len_putF F s (getF F s ++ d.data.toList.take (min 16777217 d.size))
  rw [List.length_append, List.length_take] at h1
  have h3 : d.data.toList.length = d.size := (Lib.size_eq d).symm
  refine ⟨?_, ?_⟩
  · show (sumF (putF F s _) : Int) ≤ room
    omega
  · show (putF F s _).length ≤ 64
    have := h.2
    rcases hn with hn | hn
    · have := h2.2 hn; omega
    · omega
theorem fine_cut {room : Int} {F : Fs} {s : ByteArray} {n : Nat} (h : FineF room F) (hs : hasF F s = true) : FineF room (doF 16777217 F (.cut s n)) := by
  have h1 := sum_put F s ((getF F s).take n)
  have h2 := (len_putF F s ((getF F s).take n)).2 hs
  rw [List.length_take] at h1
  have := h.1
  have := h.2
  exact ⟨by show (sumF (putF F s _) : Int) ≤ room; omega, by show (putF F s _).length ≤ 64; omega⟩
theorem fine_ren {room : Int} {F : Fs} {s t : ByteArray} (h : FineF room F) (hs : hasF F s = true) : FineF room (doF 16777217 F (.ren s t)) := by
  have h1 := sum_put (delF F s) t (getF F s)
  have h2 := (len_putF (delF F s) t (getF F s)).1
  have h3 := getF_sum F s
  have h4 := (len_delF F s).2 hs
  have := h.1
  have := h.2
  exact ⟨by show (sumF (putF (delF F s) t _) : Int) ≤ room; omega, by show (putF (delF F s) t _).length ≤ 64; omega⟩
theorem fine_rem {room : Int} {F : Fs} {s : ByteArray} (h : FineF room F) : FineF room (doF 16777217 F (.rem s)) := by
  have h3 := getF_sum F s
  have h4 := (len_delF F s).1
  have := h.1
  have := h.2
  exact ⟨by show (sumF (delF F s) : Int) ≤ room; omega, by show (delF F s).length ≤ 64; omega⟩
theorem fine_part {room : Int} {F : Fs} {s d : ByteArray} {k : Nat} (h : FineF room F) (hf : FineF room (doF 16777217 F (.app s d))) (hu : sumF (putF F s (getF F s ++ d.data.toList.take (min k d.size))) ≤ sumF (putF F s (getF F s ++ d.data.toList.take (min 16777217 d.size)))) : FineF room (doF k F (.app s d)) := by
  have h1 : (sumF (putF F s (getF F s ++ d.data.toList.take (min 16777217 d.size))) : Int) ≤ room := hf.1
  have h2 : (putF F s (getF F s ++ d.data.toList.take (min 16777217 d.size))).length ≤ 64 := hf.2
  refine ⟨?_, ?_⟩
  · show (sumF (putF F s _) : Int) ≤ room
    omega
  · show (putF F s _).length ≤ 64
    unfold putF at h2 ⊢
    rw [len_insF] at h2 ⊢
    exact h2
theorem sm_of {room : Int} {E : List En} (h : FineF room (datF E)) (hr : room ≤ 16777216) : smE E := by
  obtain ⟨h1, h2⟩ := h
  rw [dat_len] at h2
  refine ⟨by omega, fun s => ?_⟩
  have := getF_le (datF E) s
  rw [dat_getF] at this
  omega
/-! ### The world -/
/-- a function value that is an operation, its captured variables among the blocks D -/
def OpD (w : World) (D : Nat → Prop) (f : Value) (op : Op) : Prop :=
  ∃ bs : List Nat, (∀ b ∈ bs, D b ∧ ∃ t v, Cap w b t v ∧ t ≠ 5 ∧ t ≠ 69) ∧ ∀ w' : World, (∀ b ∈ bs, w'.heap[b]? = w.heap[b]?) → OpV w' f op
theorem OpD.op {w : World} {D : Nat → Prop} {f : Value} {op : Op} (h : OpD w D f op) : OpV w f op := by
  obtain ⟨bs, _, h2⟩ := h
  exact h2 w fun _ _ => rfl
theorem OpD.on {w w' : World} {D D' : Nat → Prop} {f : Value} {op : Op} (h : OpD w D f op) (hD : ∀ j, D j → D' j) (hk : ∀ b t v, D b → Cap w b t v → t ≠ 5 → t ≠ 69 → w'.heap[b]? = w.heap[b]?) : OpD w' D' f op := by
  obtain ⟨bs, h1, h2⟩ := h
  have he : ∀ b ∈ bs, w'.heap[b]? = w.heap[b]? := fun b hb => by
    obtain ⟨hd, t, v, hc, h3, h4⟩ := h1 b hb
    exact hk b t v hd hc h3 h4
  refine ⟨bs, fun b hb => ?_, fun w'' hw => h2 w'' fun b hb => (hw b hb).trans (he b hb)⟩
  obtain ⟨hd, t, v, hc, h3, h4⟩ := h1 b hb
  exact ⟨hD b hd, t, v, (he b hb).trans hc, h3, h4⟩
theorem Cap.ofEq {w w' : World} {b : Nat} {t : TypeId} {v : Value} (h : Cap w b t v) (e : w'.heap[b]? = w.heap[b]?) : Cap w' b t v := e.trans h
theorem OpV.opD {w : World} {D : Nat → Prop} {f : Value} {op : Op} (h : OpV w f op) (hD : ∀ b t v, Cap w b t v → D b) : OpD w D f op := by
  cases op with
  | app s d =>
    obtain ⟨b1, b2, e, h1, h2⟩ := h
    refine ⟨[b1, b2], fun b hb => ?_, fun w' hw => ⟨b1, b2, e, h1.ofEq (hw b1 (by simp)), h2.ofEq (hw b2 (by simp))⟩⟩
    simp only [List.mem_cons, List.not_mem_nil, or_false] at hb
    rcases hb with rfl | rfl
    · exact ⟨hD _ _ _ h1, _, _, h1, by decide, by decide⟩
    · exact ⟨hD _ _ _ h2, _, _, h2, by decide, by decide⟩
  | cut s n =>
    obtain ⟨c, iv, e, h0, b1, b2, e2, h1, h2⟩ := h
    refine ⟨[c, b1, b2], fun b hb => ?_, fun w' hw => ⟨c, iv, e, h0.ofEq (hw c (by simp)), b1, b2, e2, h1.ofEq (hw b1 (by simp)), h2.ofEq (hw b2 (by simp))⟩⟩
    simp only [List.mem_cons, List.not_mem_nil, or_false] at hb
    rcases hb with rfl | rfl | rfl
    · exact ⟨hD _ _ _ h0, _, _, h0, by decide, by decide⟩
    · exact ⟨hD _ _ _ h1, _, _, h1, by decide, by decide⟩
    · exact ⟨hD _ _ _ h2, _, _, h2, by decide, by decide⟩
  | ren s t =>
    obtain ⟨c, iv, e, h0, b1, b2, e2, h1, h2⟩ := h
    refine ⟨[c, b1, b2], fun b hb => ?_, fun w' hw => ⟨c, iv, e, h0.ofEq (hw c (by simp)), b1, b2, e2, h1.ofEq (hw b1 (by simp)), h2.ofEq (hw b2 (by simp))⟩⟩
    simp only [List.mem_cons, List.not_mem_nil, or_false] at hb
    rcases hb with rfl | rfl | rfl
    · exact ⟨hD _ _ _ h0, _, _, h0, by decide, by decide⟩
    · exact ⟨hD _ _ _ h1, _, _, h1, by decide, by decide⟩
    · exact ⟨hD _ _ _ h2, _, _, h2, by decide, by decide⟩
  | rem s =>
    obtain ⟨c, iv, e, h0, b1, e2, h1⟩ := h
    refine ⟨[c, b1], fun b hb => ?_, fun w' hw => ⟨c, iv, e, h0.ofEq (hw c (by simp)), b1, e2, h1.ofEq (hw b1 (by simp))⟩⟩
    simp only [List.mem_cons, List.not_mem_nil, or_false] at hb
    rcases hb with rfl | rfl
    · exact ⟨hD _ _ _ h0, _, _, h0, by decide, by decide⟩
    · exact ⟨hD _ _ _ h1, _, _, h1, by decide, by decide⟩
def OpDs (w : World) (D : Nat → Prop) : List Value → List Op → Prop
  | [], [] => True
  | f :: r, op :: l => OpD w D f op ∧ OpDs w D r l
  | _, _ => False
theorem OpDs.ops {w : World} {D : Nat → Prop} : ∀ {fs : List Value} {L : List Op}, OpDs w D fs L → OpVs w fs L
  | [], [], _ => trivial
  | _ :: _, _ :: _, h => ⟨h.1.op, OpDs.ops h.2⟩
  | [], _ :: _, h => h.elim
  | _ :: _, [], h => h.elim
theorem OpDs.on {w w' : World} {D D' : Nat → Prop} (hD : ∀ j, D j → D' j) (hk : ∀ b t v, D b → Cap w b t v → t ≠ 5 → t ≠ 69 → w'.heap[b]? = w.heap[b]?) : ∀ {fs : List Value} {L : List Op}, OpDs w D fs L → OpDs w' D' fs L
  | [], [], _ => trivial
  | _ :: _, _ :: _, h => ⟨h.1.on hD hk, OpDs.on hD hk h.2⟩
  | [], _ :: _, h => h.elim
  | _ :: _, [], h => h.elim
theorem OpDs.snoc {w : World} {D : Nat → Prop} : ∀ {fs : List Value} {L : List Op} {f : Value} {op : Op}, OpDs w D fs L → OpD w D f op → OpDs w D (fs ++ [f]) (L ++ [op])
  | [], [], _, _, _, hf => ⟨hf, trivial⟩
  | _ :: _, _ :: _, _, _, h, hf => ⟨h.1, OpDs.snoc h.2 hf⟩
  | [], _ :: _, _, _, h, _ => h.elim
  | _ :: _, [], _, _, h, _ => h.elim
/-- D, and what was laid since -/
def Ext (D : Nat → Prop) (w w' : World) (j : Nat) : Prop := D j ∨ (w.heap.size ≤ j ∧ j < w'.heap.size)
structure DP (w : World) (db : Nat) (st : Ds) (D : Nat → Prop) (m1 m2 : Nat) (lv : Value) (fs : List Value) (E1 E2 : List En) : Prop where
  hdb : DB w db st.room st.fuse m1 m2 lv
  f1 : FM w m1 E1
  f2 : FM w m2 E2
  d1 : datF E1 = st.now
  d2 : datF E2 = st.S
  hlv : LV w lv fs st.L
  apart : ∀ j, Foot m1 E1 j → ¬ Foot m2 E2 j
  in0 : D db
  in1 : ∀ j, Foot m1 E1 j → D j
  in2 : ∀ j, Foot m2 E2 j → D j
  in3 : ∀ j, lv.ownBlock = some j → D j
  ops : OpDs w D fs st.L
  chain : Chain st.room st.S st.L
  room : 0 ≤ st.room ∧ st.room ≤ 16777216
  fuse : -1 ≤ st.fuse ∧ st.fuse ≤ 9223372036854775807
  lt : ∀ j, D j → j < w.heap.size
def DK (w : World) (db : Nat) (st : Ds) (D : Nat → Prop) : Prop := ∃ m1 m2 lv fs E1 E2, DP w db st D m1 m2 lv fs E1 E2
section
variable {w w' : World} {db m1 m2 : Nat} {st : Ds} {D : Nat → Prop} {lv : Value} {fs : List Value} {E1 E2 : List En}
theorem DP.frame (h : DP w db st D m1 m2 lv fs E1 E2) (hh : ∀ j, D j → w'.heap[j]? = w.heap[j]?) (hs : w.heap.size ≤ w'.heap.size) : DP w' db st D m1 m2 lv fs E1 E2 := by
  have hops : OpDs w' D fs st.L := h.ops.on (fun _ h => h) fun b _ _ hd _ _ _ => hh b hd
  refine ⟨h.hdb.on (hh _ h.in0), h.f1.keep (hh _ (h.in1 _ (.inl rfl))) (fun x hx g hg => hh _ (h.in1 _ (.inr ⟨x, hx, hg⟩))), h.f2.keep (hh _ (h.in2 _ (.inl rfl))) (fun x hx g hg => hh _ (h.in2 _ (.inr ⟨x, hx, hg⟩))), h.d1, h.d2,
    ⟨own_keep h.hlv.row fun g hg => hh _ (h.in3 _ hg), hops.ops⟩, h.apart, h.in0, h.in1, h.in2, h.in3, hops, h.chain, h.room, h.fuse, fun j hj => Nat.lt_of_lt_of_le (h.lt j hj) hs⟩
theorem DK.frame (h : DK w db st D) (hh : ∀ j, D j → w'.heap[j]? = w.heap[j]?) (hs : w.heap.size ≤ w'.heap.size) : DK w' db st D := by
  obtain ⟨m1, m2, lv, fs, E1, E2, h⟩ := h
  exact ⟨m1, m2, lv, fs, E1, E2, h.frame hh hs⟩
theorem DK.lt (h : DK w db st D) {j : Nat} (hj : D j) : j < w.heap.size := by
  obtain ⟨m1, m2, lv, fs, E1, E2, h⟩ := h
  exact h.lt j hj
theorem DK.below (h : DK w db st D) (hb : Below w.heap.size w w') : DK w' db st D := h.frame (fun j hj => hb.block j (h.lt hj)) hb.size
theorem cap_db {b : Nat} {t : TypeId} {v : Value} {room fuse : Int} (hD : DB w db room fuse m1 m2 lv) (hc : Cap w b t v) : b ≠ db := by
  rintro rfl
  unfold DB at hD
  unfold Cap at hc
  rw [hD] at hc
  simp at hc
theorem Turn.sub {A B : Nat → Prop} (h : Turn w w' A) (hs : ∀ j, A j → B j) : Turn w w' B := ⟨h.os, h.tape, h.output, h.size, fun j hj hn => h.block j hj fun ha => hn (hs j ha)⟩
theorem Turn.then {a b c : World} {A B : Nat → Prop} (h : Turn a b A) (k : Turn b c B) (hs : ∀ j, j < a.heap.size → B j → A j) : Turn a c A :=
  ⟨k.os.trans h.os, k.tape.trans h.tape, k.output.trans h.output, Nat.le_trans h.size k.size, fun j hj hn => (k.block j (Nat.lt_of_lt_of_le hj h.size) fun hb => hn (hs j hj hb)).trans (h.block j hj hn)⟩
end
end Go.Proofs.Ytlkgfimignlgaaa
