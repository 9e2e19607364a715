/-
  THE DOCUMENT'S OWN DISK: CONTRACT of Crash. (gen_rq.py writes it.)
-/
import Derived.Test.YtlkgfimignlgaaaCDiskRp
set_option linter.unusedSimpArgs false
set_option linter.unusedVariables false
set_option linter.unusedVariables false
set_option linter.unusedSimpArgs false
namespace Go.Proofs.Ytlkgfimignlgaaa
open Go.RowKit
/-- how many bytes of a call are done -/
def partD (bytes : Int) (d : ByteArray) : Nat := (min (max bytes 0) ((d.size : Nat) : Int)).toNat
def partL (bytes : Int) : Option Op → List Op
  | some (.app s d) => [.app s (d.extract 0 (partD bytes d))]
  | _ => []
/-- what is kept of the first i calls -/
def cutL (L : List Op) (calls bytes : Int) (i : Nat) : List Op := L.take (min i calls.toNat) ++ (if 0 ≤ calls ∧ calls.toNat < i then partL bytes L[calls.toNat]? else [])
theorem cutL_keep {L : List Op} {calls bytes : Int} {i : Nat} (hi : i < L.length) (h : (i : Int) < calls) : cutL L calls bytes (i + 1) = cutL L calls bytes i ++ [L[i]] := by
  unfold cutL
  rw [if_neg (by omega), if_neg (by omega), List.append_nil, List.append_nil, show min (i + 1) calls.toNat = i + 1 by omega, show min i calls.toNat = i by omega, List.take_succ_eq_append_getElem hi]
theorem cutL_part {L : List Op} {calls bytes : Int} {i : Nat} (hi : i < L.length) (h : (i : Int) = calls) {s d : ByteArray} (ho : L[i] = .app s d) : cutL L calls bytes (i + 1) = cutL L calls bytes i ++ [.app s (d.extract 0 (partD bytes d))] := by
  unfold cutL
  have e : calls.toNat = i := by omega
  rw [e, if_pos (by omega), if_neg (by omega), List.append_nil, show min (i + 1) i = i by omega, show min i i = i by omega, List.getElem?_eq_getElem hi, ho]
  rfl
theorem cutL_drop {L : List Op} {calls bytes : Int} {i : Nat} (hi : i < L.length) (h : ¬ (i : Int) < calls) (h2 : ¬ ((i : Int) = calls ∧ opK L[i] = 0)) : cutL L calls bytes (i + 1) = cutL L calls bytes i := by
  unfold cutL
  rw [show min (i + 1) calls.toNat = min i calls.toNat by omega]
  congr 1
  by_cases hc : 0 ≤ calls ∧ calls.toNat < i
  · rw [if_pos hc, if_pos (by omega)]
  · rw [if_neg hc]
    by_cases hd : 0 ≤ calls ∧ calls.toNat < i + 1
    · rw [if_pos hd]
      have e : calls.toNat = i := by omega
      have e2 : (i : Int) = calls := by omega
      rw [e, List.getElem?_eq_getElem hi]
      have h3 : opK L[i] ≠ 0 := fun h3 => h2 ⟨e2, h3⟩
      cases ho : L[i] with
      | app s d => rw [ho] at h3; exact absurd rfl h3
      | cut s n => rfl
      | ren s t => rfl
      | rem s => rfl
    · rw [if_neg hd]
theorem cutL_len (L : List Op) (calls bytes : Int) (i : Nat) (hi : i ≤ L.length) : (cutL L calls bytes i).length ≤ i := by
  unfold cutL
  rw [List.length_append, List.length_take]
  by_cases hc : 0 ≤ calls ∧ calls.toNat < i
  · rw [if_pos hc]
    have : (partL bytes L[calls.toNat]?).length ≤ 1 := by
      unfold partL
      split <;> simp
    omega
  · rw [if_neg hc, List.length_nil]
    omega
theorem part_do {room : Int} {F : Fs} {s d : ByteArray} {bytes : Int} (hr : room ≤ 16777216) (h : FineF room (doF 16777217 F (.app s d))) : doF 16777217 F (.app s (d.extract 0 (partD bytes d))) = doF (partN bytes) F (.app s d) := by
  have hd := (app_all hr h).1
  rw [← app_part hr h (by unfold partD; omega)]
  show putF F s _ = putF F s _
  congr 3
  unfold partD partN
  omega
theorem cut_chain {st : Ds} (hI : FI st) (calls bytes : Int) : Chain st.room st.S (cutL st.L calls bytes st.L.length) ∧ doAll st.S (cutL st.L calls bytes st.L.length) = crashF st calls bytes := by
  have hk : keptN st calls = min st.L.length calls.toNat := by unfold keptN; omega
  have ht := hI.chain.take (keptN st calls)
  rw [hk] at ht
  unfold cutL
  by_cases hc : 0 ≤ calls ∧ calls.toNat < st.L.length
  · have hlt : keptN st calls < st.L.length := by omega
    have hcr := crash_part (bytes := bytes) hc.1 hlt
    have hk2 : keptN st calls = calls.toNat := by omega
    obtain ⟨hf, hok, hnx⟩ := Chain.at' _ (show calls.toNat < st.L.length from hc.2) hI.chain
    have hf2 := Chain.last (hI.chain.take (calls.toNat + 1))
    rw [hnx] at hf2
    rw [if_pos hc, List.getElem?_eq_getElem hc.2]
    rw [show min st.L.length calls.toNat = calls.toNat by omega] at ht ⊢
    simp only [hk2] at hcr
    rw [hcr]
    cases ho : st.L[calls.toNat] with
    | app s d =>
      rw [ho] at hf2 hok
      have hp := part_do (bytes := bytes) hI.room.2 hf2
      refine ⟨Chain.snoc ht ⟨hok.1, ?_⟩ ?_, ?_⟩
      · rw [ByteArray.size_extract]; have := hok.2; omega
      · rw [hp]; exact fine_do hf hf2 hI.room.2 (partN_le bytes)
      · show doAll _ (_ ++ [_]) = _
        rw [doAll_snoc, hp]
    | cut s n =>
      have hpl := partN_le bytes
      show Chain _ _ (_ ++ []) ∧ doAll _ (_ ++ []) = (if _ then _ else _)
      rw [List.append_nil, if_neg (by omega)]
      exact ⟨ht, rfl⟩
    | ren s t =>
      have hpl := partN_le bytes
      show Chain _ _ (_ ++ []) ∧ doAll _ (_ ++ []) = (if _ then _ else _)
      rw [List.append_nil, if_neg (by omega)]
      exact ⟨ht, rfl⟩
    | rem s =>
      have hpl := partN_le bytes
      show Chain _ _ (_ ++ []) ∧ doAll _ (_ ++ []) = (if _ then _ else _)
      rw [List.append_nil, if_neg (by omega)]
      exact ⟨ht, rfl⟩
  · rw [if_neg hc, List.append_nil]
    have hcr := crash_all (st := st) (calls := calls) (bytes := bytes) (by omega)
    rw [hcr, hk]
    exact ⟨ht, rfl⟩
theorem crash_end {w0 w : World} {rb c : Nat} {st : Ds} {R : Nat → Prop} {a : Option Addr} (h : RP w rb st (Ext R w0 w) a c (.slice none 0 0)) (hT : Turn w0 w R) (hrb : R rb) :
    RK (w.setCell ⟨rb, 3, none⟩ (.int .i64 (-1))) rb { st with fuse := -1 } (Ext R w0 (w.setCell ⟨rb, 3, none⟩ (.int .i64 (-1)))) ∧ Turn w0 (w.setCell ⟨rb, 3, none⟩ (.int .i64 (-1))) R :=
  ⟨⟨a, c, _, (h.fused (-1)).ext (fun j hj => hj.set) fun j hj => by
      rw [size_set]
      refine h.lt j ?_
      rcases hj with h3 | h3
      · exact .inl h3
      · exact .inr ⟨h3.1, by rw [size_set] at h3; exact h3.2⟩⟩, hT.trans (turn_set hrb _)⟩
theorem sync_two {w0 w : World} {rb c : Nat} {st : Ds} {R : Nat → Prop} {a : Option Addr} {lv sv : Value} (h : RP (w.setCell ⟨rb, 1, none⟩ sv) rb st (Ext R w0 (w.setCell ⟨rb, 1, none⟩ sv)) a c lv) :
    RP ((w.setCell ⟨rb, 1, none⟩ sv).setCell ⟨rb, 2, none⟩ (.slice none 0 0)) rb { st with L := [] } (Ext R w0 ((w.setCell ⟨rb, 1, none⟩ sv).setCell ⟨rb, 2, none⟩ (.slice none 0 0))) a c (.slice none 0 0) :=
  (h.loosed (OwnL.nil _) (fun j hj => by cases hj)).ext (fun j hj => hj.set) fun j hj => by
      rw [size_set]
      refine h.lt j ?_
      rcases hj with h3 | h3
      · exact .inl h3
      · exact .inr ⟨h3.1, by rw [size_set] at h3; exact h3.2⟩
/-- another row of calls, laid since -/
theorem RP.relaid {w0 w : World} {rb c : Nat} {st : Ds} {R : Nat → Prop} {a : Option Addr} {lv lv' : Value} {L' : List Op} (h : RP w0 rb st R a c lv) (hb : Below w0.heap.size w0 w) (hl : w.ownsRow w0.heap.size 82 4 lv' L'.length (L'.flatMap opC)) :
    RP (w.setCell ⟨rb, 2, none⟩ lv') rb { st with L := L' } (Ext R w0 (w.setCell ⟨rb, 2, none⟩ lv')) a c lv' := by
  have h1 := (h.below hb).extSelf h.lt hb.size
  have hlt := World.ownsRow.lt hl
  exact (h1.loosed (L' := L') (row_base hl (Nat.zero_le _)) fun j hj => ⟨.inr (hlt j hj), by have := (hlt j hj).1; have := h.blk.lt; omega, fun e => by have := h.lt j (h.in1 j e); have := (hlt j hj).1; omega⟩).ext (fun j hj => hj.set) fun j hj => by
    rw [size_set]
    rcases hj with h3 | h3
    · have := h.lt j h3; have := hb.size; omega
    · rw [size_set] at h3; exact h3.2
theorem RK.ext {w : World} {rb : Nat} {st : Ds} {R R' : Nat → Prop} (h : RK w rb st R) (hR : ∀ j, R j → R' j) (hlt : ∀ j, R' j → j < w.heap.size) : RK w rb st R' := by
  obtain ⟨a, c, lv, h⟩ := h
  exact ⟨a, c, lv, h.ext hR hlt⟩
theorem own_snoc {w : World} {B : Nat} {v : Value} {L : List Op} {op : Op} (h : w.ownsRow B 82 4 v (L.length + 1) (L.flatMap opC ++ opC op)) : w.ownsRow B 82 4 v (L ++ [op]).length ((L ++ [op]).flatMap opC) := by
  rw [List.length_append, List.flatMap_append]
  simpa using h
set_option maxRecDepth 10000000 in
set_option maxHeartbeats 4000000 in
theorem rcrash_any (rb : Nat) (st : Ds) (R : Nat → Prop) (calls bytes : Int) (w : World) (h : RK w rb st R) (hI : FI st) :
    Calls Try.prog 34 #[ptr rb, .int .i64 calls, .int .i64 bytes] w fun e w' => e = .returned (.tuple #[]) ∧ RK w' rb (crashS st calls bytes).2 (Ext R w w') ∧ Turn w w' R := by
  obtain ⟨a0, c0, lv, h⟩ := h
  obtain ⟨b0, b1, b2, b3⟩ := h.blk.cells
  have hrlt := h.blk.lt
  obtain ⟨la, lc, rfl, hlc, hL⟩ := h.loose.form
  have HL := Lib.hid hL
  have HH := Lib.hid h
  obtain ⟨i0, hi0, hz0, hz1, hz2⟩ := info_parts infoCall
  have hll := hI.len
  have HI := Lib.hid hI
  have HC := Lib.hid (cut_chain hI calls bytes)
  clear hL h hI b0 b1 b3
  unfold ptr
  go_enter Try.func34, Try.ntmps34
  go_wp2
  go_loopw [6, 7] (fun v6 v7 wr => ∃ i : Nat, v7 = .int .i64 i ∧ i ≤ st.L.length ∧ wr.ownsRow w.heap.size 82 4 v6 (cutL st.L calls bytes i).length ((cutL st.L calls bytes i).flatMap opC) ∧ Below w.heap.size w wr) (fun _ v7 _ => st.L.length - (intOf v7).toNat)
  case atStart => exact ⟨0, rfl, Nat.zero_le _, by unfold cutL; rw [if_neg (by omega)]; simpa using World.ownsRow_nil _ _ _ _, Below.refl _ _⟩
  case round =>
    obtain ⟨i, rfl, hi, hO, hbw⟩ := hrel
    have hsw := hbw.size
    have d2 := (hbw.cell (p := ⟨rb, 2, none⟩) hrlt).trans b2
    have hcl := cutL_len st.L calls bytes i hi
    by_cases hlt : i < st.L.length
    · obtain ⟨b, o, rfl, hlb, e0, e1, e2, e3⟩ := HL.out i _ (List.getElem?_eq_getElem hlt)
      have f0 := (hbw.cell (p := ⟨b, o + i * 4, none⟩) hlb).trans e0
      have f1 := (hbw.cell (p := ⟨b, o + i * 4 + 1, none⟩) hlb).trans e1
      have f2 := (hbw.cell (p := ⟨b, o + i * 4 + 2, none⟩) hlb).trans e2
      have f3 := (hbw.cell (p := ⟨b, o + i * 4 + 3, none⟩) hlb).trans e3
      have hki : (i : Int) < (st.L.length : Int) := by omega
      have hk0 : (0 : Int) ≤ (i : Int) := by omega
      obtain ⟨op, hop⟩ : ∃ op, st.L[i] = op := ⟨_, rfl⟩
      have K1 : Hid ((i : Int) < calls → cutL st.L calls bytes (i + 1) = cutL st.L calls bytes i ++ [op]) := Lib.hid fun h => by rw [cutL_keep hlt h, hop]
      have K2 : Hid ((i : Int) = calls → opK op = 0 → cutL st.L calls bytes (i + 1) = cutL st.L calls bytes i ++ [.app (opA op) ((opB op).extract 0 (partD bytes (opB op)))]) := Lib.hid fun h h0 => by
        cases op with
        | app s d => exact cutL_part hlt h hop
        | cut s n => exact absurd h0 (by show ¬ (1 : Int) = 0; omega)
        | ren s t => exact absurd h0 (by show ¬ (2 : Int) = 0; omega)
        | rem s => exact absurd h0 (by show ¬ (3 : Int) = 0; omega)
      have K3 : Hid (¬ (i : Int) < calls → ¬ ((i : Int) = calls ∧ opK op = 0) → cutL st.L calls bytes (i + 1) = cutL st.L calls bytes i) := Lib.hid fun h h2 => cutL_drop hlt h (by rw [hop]; exact h2)
      have hN0 : opK op = 0 → opN op = 0 := fun h0 => by
        cases op with
        | app s d => rfl
        | cut s n => exact absurd h0 (by show ¬ (1 : Int) = 0; omega)
        | ren s t => rfl
        | rem s => rfl
      have HOC := Lib.hid (opC_eq op)
      rw [hop] at f0 f1 f2 f3
      clear e0 e1 e2 e3 hop hlt
      generalize opK op = k0 at *
      generalize opA op = sA at *
      generalize opB op = sB at *
      generalize opN op = n0 at *
      have g0 := (cellNew wr #[.int .i64 k0, .string sA, .string sB, .int .i64 n0] 82 0).trans (show _ = some (Value.int .i64 k0) from rfl)
      have g1 := (cellNew wr #[.int .i64 k0, .string sA, .string sB, .int .i64 n0] 82 1).trans (show _ = some (Value.string sA) from rfl)
      have g2 := (cellNew wr #[.int .i64 k0, .string sA, .string sB, .int .i64 n0] 82 2).trans (show _ = some (Value.string sB) from rfl)
      have g3 := (cellNew wr #[.int .i64 k0, .string sA, .string sB, .int .i64 n0] 82 3).trans (show _ = some (Value.int .i64 n0) from rfl)
      have hnew : (wr.alloc (.cells #[.int .i64 k0, .string sA, .string sB, .int .i64 n0] 82)).heap[wr.heap.size]? = some (.cells #[.int .i64 k0, .string sA, .string sB, .int .i64 n0] 82 (0, 0)) := heap_alloc_new wr (.cells #[.int .i64 k0, .string sA, .string sB, .int .i64 n0] 82)
      have gf := fun i => Lib.frozen_of_heap hnew i
      have hOa := World.ownsRow.alloc hO (.cells #[.int .i64 k0, .string sA, .string sB, .int .i64 n0] 82)
      have hba : Below w.heap.size w (wr.alloc (.cells #[.int .i64 k0, .string sA, .string sB, .int .i64 n0] 82)) := hbw.alloc hsw _
      have hza : Hid ((wr.alloc (.cells #[.int .i64 k0, .string sA, .string sB, .int .i64 n0] 82)).heap.size = wr.heap.size + 1) := Lib.hid (by simp)
      have hlo := fun k hk => (World.ownsRow.lt hO k hk)
      have HLO := Lib.hid hlo
      have HNEW := Lib.hid hnew
      have HO0 := Lib.hid hO
      have HBW := Lib.hid hbw
      clear hlo hnew hO
      go_upto_region 5 with fail
      clear f0 f1 f2 f3 d2 hbw
      by_cases hka : (i : Int) < calls
      · have hk1 := K1.out hka
        go_upto_region 6 with fail
        generalize wr.alloc (.cells #[.int .i64 k0, .string sA, .string sB, .int .i64 n0] 82) = wb at *
        clear K1 K2 K3 gf
        go_wp2_with (at_builtin; refine wpList_append_lies _ rfl _ _ _ rfl w.heap.size 82 i0 _ 4 48 Try.underlying37 hi0 hz0 hz1 hz2 rfl (by omega) _ (cutL st.L calls bytes i).length ((cutL st.L calls bytes i).flatMap opC) rfl (World.ownsRow.alloc hOa _) ⟨_, 0, none⟩ 1 1 [Value.int .i64 k0, Value.string sA, Value.string sB, Value.int .i64 n0] rfl rfl (World.news_of_block (cs := #[Value.int .i64 k0, Value.string sA, Value.string sB, Value.int .i64 n0]) (t := 82) (fr := (0, 0)) (heap_alloc_new _ _)) (by simp [Value.oneCell']) (by omega) (by unfold maxLen; omega) (by omega) (by rw [World.size_alloc]; have := hza.out; omega) _ (World.size_alloc _ _) ?_; intro g9 cap9 w9 hown hgrow hat hglt)
        have hB9 : Below w.heap.size w w9 := grown_bel (hba.alloc (by have := hza.out; omega) _) hgrow (by rw [World.size_alloc]; have := hza.out; omega) (fun k hk => (HLO.out k hk).1)
        go_roundw
        case rel => exact ⟨i + 1, by go_num, by omega, by rw [hk1]; exact own_snoc (by rw [HOC.out]; exact hown), hB9⟩
        case measure => simp [intOf]; omega
      by_cases hkb : (i : Int) = calls ∧ k0 = 0
      · obtain ⟨hkc, rfl⟩ := hkb
        obtain rfl := hN0 rfl
        have hk1 := K2.out hkc rfl
        have heq : ((i : Int) == calls) = true := by simpa using hkc
        obtain ⟨m, hm⟩ : ∃ m, partD bytes sB = m := ⟨_, rfl⟩
        have eb : min (max bytes 0) ((sB.size : Nat) : Int) = ((m : Nat) : Int) := by rw [← hm]; unfold partD; omega
        have hm1 : (m : Int) ≤ (sB.size : Int) := by omega
        have hm0 : (0 : Int) ≤ (m : Int) := by omega
        rw [hm] at hk1
        clear hm K1 K2 K3 hN0
        go_upto_region 9 with fail
        clear g0 g1 g2 g3 gf hOa hba hza
        generalize sB.extract 0 m = sC at *
        have q0 := (cellNew wr #[.int .i64 0, .string sA, .string sC, .int .i64 0] 82 0).trans (show _ = some (Value.int .i64 0) from rfl)
        have q1 := (cellNew wr #[.int .i64 0, .string sA, .string sC, .int .i64 0] 82 1).trans (show _ = some (Value.string sA) from rfl)
        have q2 := (cellNew wr #[.int .i64 0, .string sA, .string sC, .int .i64 0] 82 2).trans (show _ = some (Value.string sC) from rfl)
        have q3 := (cellNew wr #[.int .i64 0, .string sA, .string sC, .int .i64 0] 82 3).trans (show _ = some (Value.int .i64 0) from rfl)
        have hO2 := World.ownsRow.alloc HO0.out (.cells #[.int .i64 0, .string sA, .string sC, .int .i64 0] 82)
        have hb2 : Below w.heap.size w (wr.alloc (.cells #[.int .i64 0, .string sA, .string sC, .int .i64 0] 82)) := HBW.out.alloc hsw _
        have hza : Hid ((wr.alloc (.cells #[.int .i64 0, .string sA, .string sC, .int .i64 0] 82)).heap.size = wr.heap.size + 1) := Lib.hid (by simp)
        generalize wr.alloc (.cells #[.int .i64 0, .string sA, .string sC, .int .i64 0] 82) = wb at *
        go_wp2_with (at_builtin; refine wpList_append_lies _ rfl _ _ _ rfl w.heap.size 82 i0 _ 4 48 Try.underlying37 hi0 hz0 hz1 hz2 rfl (by omega) _ (cutL st.L calls bytes i).length ((cutL st.L calls bytes i).flatMap opC) rfl (World.ownsRow.alloc hO2 _) ⟨_, 0, none⟩ 1 1 [Value.int .i64 0, Value.string sA, Value.string sC, Value.int .i64 0] rfl rfl (World.news_of_block (cs := #[Value.int .i64 0, Value.string sA, Value.string sC, Value.int .i64 0]) (t := 82) (fr := (0, 0)) (heap_alloc_new _ _)) (by simp [Value.oneCell']) (by omega) (by unfold maxLen; omega) (by omega) (by rw [World.size_alloc]; have := hza.out; omega) _ (World.size_alloc _ _) ?_; intro g9 cap9 w9 hown hgrow hat hglt)
        have hB9 : Below w.heap.size w w9 := grown_bel (hb2.alloc (by have := hza.out; omega) _) hgrow (by rw [World.size_alloc]; have := hza.out; omega) (fun k hk => (HLO.out k hk).1)
        go_roundw
        case rel => exact ⟨i + 1, by go_num, by omega, by rw [hk1]; exact own_snoc hown, hB9⟩
        case measure => simp [intOf]; omega
      · have hk1 := K3.out hka hkb
        rcases (show ¬ ((i : Int) = calls) ∨ ((i : Int) = calls ∧ ¬ k0 = 0) by omega) with hx | ⟨hx, hy⟩
        · have heq : ((i : Int) == calls) = false := by rw [beq_eq_false_iff_ne]; exact hx
          clear hx hkb K1 K2 K3 hN0
          go_wp2
          go_roundw
          case rel => exact ⟨i + 1, by go_num, by omega, by rw [hk1]; exact hOa, hba⟩
          case measure => simp [intOf]; omega
        · have heq : ((i : Int) == calls) = true := by simpa using hx
          have hek : (k0 == 0) = false := by rw [beq_eq_false_iff_ne]; exact hy
          clear hx hy hkb K1 K2 K3 hN0
          go_wp2
          go_roundw
          case rel => exact ⟨i + 1, by go_num, by omega, by rw [hk1]; exact hOa, hba⟩
          case measure => simp [intOf]; omega
    · have hki : ¬ (i : Int) < (st.L.length : Int) := by omega
      obtain rfl : i = st.L.length := by omega
      obtain ⟨va, vc, rfl⟩ : ∃ va vc, u6 = .slice va (cutL st.L calls bytes st.L.length).length vc := by
        obtain ⟨va, vc, e, _⟩ := OwnL.form (row_base hO (Nat.zero_le _))
        exact ⟨va, vc, e⟩
      have hP := HH.out.relaid hbw hO
      have hT1 : Turn w (wr.setCell ⟨rb, 2, none⟩ (.slice va (cutL st.L calls bytes st.L.length).length vc)) R := (Turn.below hbw).trans (turn_set HH.out.in0 _)
      have HI1 : Hid (FI { st with L := cutL st.L calls bytes st.L.length }) := Lib.hid ⟨HC.out.1, HI.out.room, HI.out.fuse, by show (cutL st.L calls bytes st.L.length).length ≤ _; omega⟩
      have hbr := (HH.out.below hbw).blk
      have m2 := hbr.cells.2.2.1
      have mf := hbr.free 2
      have hcr : Hid (Ds.now { st with L := cutL st.L calls bytes st.L.length } = crashF st calls bytes) := Lib.hid HC.out.2
      have HP := Lib.hid hP
      have HT1 := Lib.hid hT1
      clear hP hT1 hbr hO d2
      go_upto_region 11 with fail
      have cN := rnow_any rb { st with L := cutL st.L calls bytes st.L.length } _ a0 c0 (.slice va (cutL st.L calls bytes st.L.length).length vc) _ HP.out HI1.out
      unfold ptr at cN
      generalize hst : ({ st with L := cutL st.L calls bytes st.L.length } : Ds) = st1 at *
      generalize wr.setCell ⟨rb, 2, none⟩ (.slice va (cutL st.L calls bytes st.L.length).length vc) = w1 at *
      clear m2 mf
      go_upto_region 12 with (go_at_call 36; refine cN.mono ?_; rintro e w2 ⟨a, c, rfl, hR, ho, hb⟩; have hQ := (HP.out.below hb).blk; have k1 := hQ.cells.2.1; have f1 := hQ.free 1)
      have hS := sync_s HP.out (Nat.le_refl _) HP.out.lt hb hR ho
      have k2 := hS.blk.cells.2.2.1
      have f2 := hS.blk.free 2
      have HS2 := Lib.hid (sync_two hS)
      have hTa : Turn w1 ((w2.setCell ⟨rb, 1, none⟩ (.slice a st1.now.length c)).setCell ⟨rb, 2, none⟩ (.slice none 0 0)) (Ext R w w1) := ((Turn.below hb).trans (turn_set (.inl HH.out.in0) _)).trans (turn_set (.inl HH.out.in0) _)
      clear hS k1 f1 hQ hR ho cN
      generalize w2.setCell ⟨rb, 1, none⟩ (.slice a st1.now.length c) = w3 at *
      go_upto_region 13 with fail
      have HS3 := Lib.hid (crash_end HS2.out hTa (.inl HH.out.in0))
      have k3 := HS2.out.blk.cells.2.2.2
      have f3 := HS2.out.blk.free 3
      clear k2 f2
      go_wp2
      obtain ⟨hK, hTb⟩ := HS3.out
      have hs1 := HT1.out.size
      have hs2 := hTb.size
      have hfin : (crashS st calls bytes).2 = ({ st1 with S := st1.now, L := [], fuse := -1 } : Ds) := by
        rw [hcr.out, ← hst]
        rfl
      refine bodyPost_end (results_none rfl _ _ _) rfl ⟨rfl, ?_, HT1.out.then hTb fun j hj hx => by
        rcases hx with h1 | h1
        · exact h1
        · omega⟩
      rw [hfin]
      exact hK.ext (fun j hj => by
        rcases hj with (h1 | h1) | h1
        · exact .inl h1
        · exact .inr ⟨h1.1, by omega⟩
        · exact .inr ⟨by omega, h1.2⟩) fun j hj => by
        rcases hj with h1 | h1
        · have := HH.out.lt j h1; omega
        · exact h1.2

end Go.Proofs.Ytlkgfimignlgaaa
