/-
  THE DOCUMENT'S OWN DISK: CONTRACTS of Now, Left, burns, Name; what a call that is loose comes to. (gen_rm.py writes it.)
-/
import Derived.Test.YtlkgfimignlgaaaCDiskRn
set_option linter.unusedSimpArgs false
set_option linter.unusedVariables false
set_option linter.unusedVariables false
set_option linter.unusedSimpArgs false
namespace Go.Proofs.Ytlkgfimignlgaaa
open Go.RowKit
theorem done_any (F : Fs) (a : Option Addr) (c : Nat) (op : Op) (w : World) (room : Int) (hr : room ≤ 16777216) (h : RowF w a F) (hok : okF F op) (hf : FineF room F) (hf2 : FineF room (doF 16777217 F op)) :
    Calls Try.prog 56 #[.slice a F.length c, .agg #[.int .i64 (opK op), .string (opA op), .string (opB op), .int .i64 (opN op)]] w fun e w' => ∃ v, e = .returned v ∧ OwnF w' w.heap.size v (doF 16777217 F op) ∧ Below w.heap.size w w' := by
  cases op with
  | app s d => exact done_app F a c s d w room hr h hok hf hf2
  | cut s n => exact done_cut F a c s n w room hr h hok hf hf2
  | ren s t => exact done_ren F a c s t w room hr h hok hf hf2
  | rem s => exact done_rem F a c s w room hr h hok hf hf2
set_option maxRecDepth 10000000 in
set_option maxHeartbeats 4000000 in
theorem rnow_any (rb : Nat) (st : Ds) (R : Nat → Prop) (a0 : Option Addr) (c0 : Nat) (lv : Value) (w : World) (h : RP w rb st R a0 c0 lv) (hI : FI st) :
    Calls Try.prog 36 #[ptr rb] w fun e w' => ∃ a c, e = .returned (.slice a st.now.length c) ∧ RowF w' a st.now ∧ (∀ j, (Value.slice a st.now.length c).ownBlock = some j → (Value.slice a0 st.S.length c0).ownBlock = some j ∨ (w.heap.size ≤ j ∧ j < w'.heap.size)) ∧ Below w.heap.size w w' := by
  obtain ⟨b0, b1, b2, b3⟩ := h.blk.cells
  have hrlt := h.blk.lt
  obtain ⟨la, lc, rfl, hlc, hL⟩ := h.loose.form
  have HL := Lib.hid hL
  have HCH := Lib.hid hI.chain
  have hr := hI.room.2
  have hll := hI.len
  have hS := h.sure
  have hnow : st.now = doAll st.S st.L := rfl
  rw [hnow]
  clear hnow hL
  unfold ptr
  go_enter Try.func36, Try.ntmps36
  go_wp2
  go_loopw [3, 4] (fun v3 v4 wr => ∃ (i : Nat) (a : Option Addr) (c : Nat), v4 = .int .i64 i ∧ i ≤ st.L.length ∧ v3 = .slice a (doAll st.S (st.L.take i)).length c ∧ RowF wr a (doAll st.S (st.L.take i)) ∧ (∀ j, (Value.slice a (doAll st.S (st.L.take i)).length c).ownBlock = some j → (Value.slice a0 st.S.length c0).ownBlock = some j ∨ (w.heap.size ≤ j ∧ j < wr.heap.size)) ∧ Below w.heap.size w wr) (fun _ v4 _ => st.L.length - (intOf v4).toNat)
  case atStart => exact ⟨0, a0, c0, rfl, Nat.zero_le _, rfl, hS, fun j hj => .inl hj, Below.refl _ _⟩
  case round =>
    clear hS
    obtain ⟨i, a, c, rfl, hi, rfl, hR, hO, hbw⟩ := hrel
    have hsw := hbw.size
    have HR := Lib.hid hR
    have HO := Lib.hid hO
    have d2 := (hbw.cell (p := ⟨rb, 2, none⟩) hrlt).trans b2
    clear hR hO b0 b1 b3
    by_cases hlt : i < st.L.length
    · obtain ⟨hf, hok, hnx⟩ := Chain.at' i hlt HCH.out
      have hok' := HCH.out.take (i + 1)
      have hf2 := Chain.last hok'
      rw [hnx] at hf2
      obtain ⟨b, o, rfl, hlb, e0, e1, e2, e3⟩ := HL.out i _ (List.getElem?_eq_getElem hlt)
      have f0 := (hbw.cell (p := ⟨b, o + i * 4, none⟩) hlb).trans e0
      have f1 := (hbw.cell (p := ⟨b, o + i * 4 + 1, none⟩) hlb).trans e1
      have f2 := (hbw.cell (p := ⟨b, o + i * 4 + 2, none⟩) hlb).trans e2
      have f3 := (hbw.cell (p := ⟨b, o + i * 4 + 3, none⟩) hlb).trans e3
      have cD := done_any _ a c _ _ st.room hr HR.out hok hf hf2
      rw [← hnx] at cD
      have hki : (i : Int) < (st.L.length : Int) := by omega
      have hk0 : (0 : Int) ≤ (i : Int) := by omega
      generalize opK st.L[i] = k0 at *
      generalize opA st.L[i] = k1 at *
      generalize opB st.L[i] = k2 at *
      generalize opN st.L[i] = k3 at *
      clear hnx hf hf2 hok hok' e0 e1 e2 e3
      go_wp2_with (go_at_call 56; refine cD.mono ?_; rintro e w1 ⟨v, rfl, hO1, hb⟩; obtain ⟨a1, c1, rfl, hc1, hR1⟩ := hO1.form)
      have hl1 := World.ownsRow.lt hO1
      go_roundw
      case rel => exact ⟨i + 1, a1, c1, by go_num, by omega, rfl, hR1, fun j hj => .inr ⟨by have := (hl1 j hj).1; omega, (hl1 j hj).2⟩, hbw.trans (hb.mono hsw)⟩
      case measure => simp [intOf]; omega
    · have hki : ¬ (i : Int) < (st.L.length : Int) := by omega
      obtain rfl : i = st.L.length := by omega
      have ht : st.L.take st.L.length = st.L := List.take_length
      rw [ht] at HR HO ⊢
      go_wp2
      go_ret
      exact ⟨a, c, rfl, HR.out, HO.out, hbw⟩
set_option maxRecDepth 10000000 in
set_option maxHeartbeats 4000000 in
theorem rleft_any (rb : Nat) (st : Ds) (R : Nat → Prop) (a0 : Option Addr) (c0 : Nat) (lv : Value) (w : World) (h : RP w rb st R a0 c0 lv) (hI : FI st) :
    Calls Try.prog 15 #[ptr rb] w fun e w' => e = .returned (.int .i64 (st.room - (sumF st.now : Nat))) ∧ Below w.heap.size w w' := by
  obtain ⟨b0, _, _, _⟩ := h.blk.cells
  have hrlt := h.blk.lt
  have cN := rnow_any rb st R a0 c0 lv w h hI
  have hfin : FineF st.room st.now := hI.chain.last
  have hr := hI.room
  have hsum : (sumF st.now : Int) ≤ st.room := hfin.1
  have hlen : st.now.length ≤ 64 := hfin.2
  unfold ptr at cN ⊢
  generalize st.now = F at *
  clear hfin
  go_enter Try.func15, Try.ntmps15
  go_upto_region 2 with (go_at_call 36; refine cN.mono ?_; rintro e w1 ⟨a, c, rfl, hR, _, hb⟩)
  have HR := Lib.hid hR
  have d0 := (hb.cell (p := ⟨rb, 0, none⟩) hrlt).trans b0
  clear cN hR b0
  go_wp2
  go_loopw [4, 5] (fun v4 v5 wr => ∃ i : Nat, v5 = .int .i64 i ∧ i ≤ F.length ∧ v4 = .int .i64 (st.room - (sumF (F.take i) : Nat)) ∧ wr = w1) (fun _ v5 _ => F.length - (intOf v5).toNat)
  case atStart => exact ⟨0, rfl, Nat.zero_le _, by simp [sumF], rfl⟩
  case round =>
    obtain ⟨i, rfl, hi, rfl, rfl⟩ := hrel
    by_cases hlt : i < F.length
    · obtain ⟨p, hp⟩ : ∃ p, F[i]? = some p := ⟨_, List.getElem?_eq_getElem hlt⟩
      obtain ⟨b, o, rfl, hlb, r0, r1⟩ := HR.out i p hp
      have hst := sum_take hp
      have hle := sum_take_le F (i + 1)
      have hki : (i : Int) < (F.length : Int) := by omega
      have hk0 : (0 : Int) ≤ (i : Int) := by omega
      have hsz : (⟨p.2.toArray⟩ : ByteArray).size = p.2.length := old_size _
      have HST : Hid (st.room - ((sumF (F.take i) : Nat) : Int) - (((⟨p.2.toArray⟩ : ByteArray).size : Nat) : Int) = st.room - ((sumF (F.take (i + 1)) : Nat) : Int)) := Lib.hid (by rw [hsz, hst]; omega)
      have hwr : IntKind.i64.wrap (st.room - ((sumF (F.take i) : Nat) : Int) - (((⟨p.2.toArray⟩ : ByteArray).size : Nat) : Int)) = st.room - ((sumF (F.take i) : Nat) : Int) - (((⟨p.2.toArray⟩ : ByteArray).size : Nat) : Int) := IntWalk.i64_in _ (by omega)
      clear hp r0 hst hle hlt hsz
      generalize (⟨p.2.toArray⟩ : ByteArray) = x at *
      generalize sumF (F.take i) = n at *
      go_wp2
      go_roundw
      case rel => exact ⟨i + 1, by go_num, by omega, by rw [HST.out], trivial⟩
      case measure => simp [intOf]; omega
    · have hki : ¬ (i : Int) < (F.length : Int) := by omega
      obtain rfl : i = F.length := by omega
      have ht : F.take F.length = F := List.take_length
      rw [ht]
      go_wp2
      go_ret
      exact ⟨rfl, hb⟩
set_option maxRecDepth 10000000 in
set_option maxHeartbeats 4000000 in
theorem burns_any (rb : Nat) (st : Ds) (R : Nat → Prop) (a0 : Option Addr) (c0 : Nat) (lv : Value) (w : World) (h : RP w rb st R a0 c0 lv) (hI : FI st) :
    Calls Try.prog 53 #[ptr rb] w fun e w' => e = .returned (.bool (decide (st.fuse ≠ 0))) ∧ RP w' rb st.spent R a0 c0 lv ∧ Turn w w' R := by
  obtain ⟨_, _, _, b3⟩ := h.blk.cells
  have hfr := h.blk.free 3
  have hfu := hI.fuse
  unfold ptr
  by_cases h0 : st.fuse = 0
  · have hsp : st.spent = st := by unfold Ds.spent spendF; rw [h0, if_neg (by omega), ← h0]
    have hd : decide (st.fuse ≠ 0) = false := decide_eq_false (by simpa using h0)
    rw [hsp, hd]
    clear hsp hd hI
    have HH := Lib.hid h
    clear h
    rw [h0] at b3
    go_enter Try.func53, Try.ntmps53
    go_wp2
    go_ret
    exact ⟨rfl, HH.out, Turn.refl _ _⟩
  have hd : decide (st.fuse ≠ 0) = true := decide_eq_true h0
  rw [hd]
  by_cases h1 : 0 < st.fuse
  · have HF := Lib.hid (h.fused (st.fuse - 1))
    have hsp : st.spent = { st with fuse := st.fuse - 1 } := by unfold Ds.spent spendF; rw [if_pos h1]
    rw [hsp]
    have HT := Lib.hid (turn_set (w := w) (i := 3) h.in0 (.int .i64 (st.fuse - 1)))
    have hwr : IntKind.i64.wrap (st.fuse - 1) = st.fuse - 1 := IntWalk.i64_in _ (by omega)
    clear hsp hd hI h
    generalize st.fuse = f at *
    go_enter Try.func53, Try.ntmps53
    go_wp2
    go_ret
    exact ⟨rfl, HF.out, HT.out⟩
  · have hsp : st.spent = st := by unfold Ds.spent spendF; rw [if_neg h1]
    rw [hsp]
    have HH := Lib.hid h
    clear h hsp hd hI
    generalize st.fuse = f at *
    go_enter Try.func53, Try.ntmps53
    go_wp2
    go_ret
    exact ⟨rfl, HH.out, Turn.refl _ _⟩
theorem RP.push {w0 w w' : World} {rb c g : Nat} {st : Ds} {R : Nat → Prop} {a : Option Addr} {lv nv : Value} {op : Op} {ob : Obj} (h : RP w rb st R a c lv) (hlt : ∀ j, R j → j < w0.heap.size) (hT0 : Turn w0 w R)
    (hg : (w.alloc ob).grownBy w' lv.ownBlock) (ho : OwnL w' nv (st.L ++ [op])) (hn : nv.ownBlock = some g) (hat : lv.ownBlock = some g ∨ g = w.heap.size + 1) (hglt : g < w'.heap.size) :
    RK (w'.setCell ⟨rb, 2, none⟩ nv) rb { st with L := st.L ++ [op] } (Ext R w0 (w'.setCell ⟨rb, 2, none⟩ nv)) ∧ Turn w0 (w'.setCell ⟨rb, 2, none⟩ nv) R := by
  have hs0 := hT0.size
  have hs1 : w.heap.size + 1 ≤ w'.heap.size := by have := hg.size; simpa using this
  have hbe : Below w.heap.size w (w.alloc ob) := (Below.refl _ _).alloc (Nat.le_refl _) _
  have old : ∀ j, j < w.heap.size → lv.ownBlock ≠ some j → w'.heap[j]? = w.heap[j]? := fun j hj hn => (hg.block j (by simp; omega) (fun e => hn e.symm)).trans (hbe.block j hj)
  have hT1 : Turn w w' R := ⟨hg.os.trans hbe.os, hg.tape.trans hbe.tape, hg.output.trans hbe.output, by omega, fun j hj hn => old j hj fun e => hn (h.in2 j e)⟩
  have hP : RP w' rb { st with L := st.L ++ [op] } (Ext R w0 w') a c lv → True := fun _ => trivial
  have hsure : RowF w' a st.S := fun j p hp => by
    obtain ⟨b, o, e, hl, h0, h1⟩ := h.sure j p hp
    have hb : w'.heap[b]? = w.heap[b]? := old b hl (h.ap1 b (by rw [e]; rfl)).2
    exact ⟨b, o, e, by omega, (cell_heap hb).trans h0, (cell_heap hb).trans h1⟩
  have hblk : RB w' rb st.room st.fuse (.slice a st.S.length c) lv := (old rb h.blk.lt h.ap2).trans h.blk
  have hgrb : g ≠ rb := by
    rcases hat with h1 | h1
    · intro e; exact h.ap2 (e ▸ h1)
    · have := h.blk.lt; omega
  have hne : ∀ j, j ≠ rb → (w'.setCell ⟨rb, 2, none⟩ nv).heap[j]? = w'.heap[j]? := fun j hj => Below.heap_setCell _ _ _ _ hj
  have hext : ∀ j, R j → Ext R w0 (w'.setCell ⟨rb, 2, none⟩ nv) j := fun j hj => .inl hj
  refine ⟨⟨a, c, nv, hblk.s2 nv, hsure.keep (n := st.S.length) (c := c) (Nat.le_of_eq (size_set _ _ _).symm) (fun j hj => hne j (h.ap1 j hj).1), ho.keep fun g' hg' => hne g' (by rw [hn] at hg'; cases hg'; exact hgrb), fun j hj => ⟨(h.ap1 j hj).1, fun e => ?_⟩, fun e => ?_, hext _ h.in0, fun j hj => hext _ (h.in1 j hj), fun j hj => ?_, fun j hj => ?_⟩, (hT0.trans hT1).trans (turn_set h.in0 nv)⟩
  · rw [hn] at e
    cases e
    rcases hat with h1 | h1
    · exact (h.ap1 g hj).2 h1
    · have := h.lt g (h.in1 g hj); omega
  · rw [hn] at e
    cases e
    exact hgrb rfl
  · rw [hn] at hj
    cases hj
    rcases hat with h1 | h1
    · exact hext _ (h.in2 g h1)
    · exact .inr ⟨by omega, by rw [size_set]; exact hglt⟩
  · rw [size_set]
    rcases hj with h1 | h1
    · have := hlt j h1; omega
    · rw [size_set] at h1; exact h1.2

end Go.Proofs.Ytlkgfimignlgaaa
