/-
  BOTH DISKS, STEP BY STEP (codicillaw06): CONTRACTS of files, play. (gen_rs.py writes it.)
-/
import Derived.Test.YtlkgfimignlgaaaCDiskBX
import Derived.Test.YtlkgfimignlgaaaCDiskRr
import Derived.Test.YtlkgfimignlgaaaCDiskHv
set_option linter.unusedSimpArgs false
set_option linter.unusedVariables false
set_option linter.unusedVariables false
set_option linter.unusedSimpArgs false
namespace Go.Proofs.Ytlkgfimignlgaaa
open Go.RowKit
theorem BX.ox {w0 w : World} {db rb : Nat} {sd sr : Ds} {V : List Value} (h : BX w0 w db rb sd sr V) : OX w0 w db sd [] := by
  obtain ⟨D, R, h1, h2, h3, h4, h5, h6, h7⟩ := h
  exact ⟨D, h1, h4, (fun v hv => by simp at hv), h7⟩
/-- a row of the names of files -/
def RowM (w : World) (a : Option Addr) (F : Fs) : Prop := ∀ (j : Nat) (p : ByteArray × List UInt8), F[j]? = some p → ∃ b o, a = some ⟨b, o, none⟩ ∧ b < w.heap.size ∧ w.cell? ⟨b, o + j, none⟩ = some (.string p.1)
theorem RowM.below {w w' : World} {a : Option Addr} {F : Fs} (h : RowM w a F) (hb : Below w.heap.size w w') : RowM w' a F := fun j p hp => by
  obtain ⟨b, o, e, hl, h0⟩ := h j p hp
  exact ⟨b, o, e, Nat.lt_of_lt_of_le hl hb.size, (hb.cell hl).trans h0⟩
theorem namesD_any (db : Nat) (st : Ds) (D : Nat → Prop) (w : World) (h : DK w db st D) (hS : SortF st.now) :
    Calls Try.prog 24 #[ptr db] w fun e w' => ∃ a c, e = .returned (.slice a st.now.length c) ∧ RowM w' a st.now ∧ Below w.heap.size w w' := by
  refine (names_any db st D w h).mono ?_
  rintro e w' ⟨v, L, rfl, hp, hs, hr, hb⟩
  obtain ⟨a, c, rfl, hc⟩ := hr.form
  have hL := names_same hp hs hS
  have hlt := World.ownsRow.lt hr
  have hR := hr.rowR
  rw [hL] at hR hlt
  have hll : (namesF st.now).length = st.now.length := by simp [namesF]
  rw [hL, hll]
  refine ⟨a, c, rfl, fun j p hp => ?_, hb⟩
  have hj := (List.getElem?_eq_some_iff.1 hp).1
  obtain ⟨b, o, e, hc⟩ := hR j (by simpa [namesF] using hj)
  refine ⟨b, o, e, (hlt b (by rw [e]; rfl)).2, ?_⟩
  rw [hc]
  congr 2
  obtain ⟨hj2, ep⟩ := List.getElem?_eq_some_iff.1 hp
  have : ((namesF st.now).map fun l => (⟨l.toArray⟩ : ByteArray)).getD j ByteArray.empty = ⟨(st.now[j].1.data.toList).toArray⟩ := by
    simp [namesF, List.getD, hj2]
  rw [this, ep, toArr]
def nNone : ByteArray := ⟨#[110, 111, 110, 101]⟩
set_option maxRecDepth 10000000 in
set_option maxHeartbeats 4000000 in
theorem files_any (w0 w : World) (db rb : Nat) (st : Ds) (hX : BX w0 w db rb st st []) (hS : SortF st.S) (hl : st.L.length ≤ 1000000) :
    Calls Try.prog 13 #[ptr db, ptr rb] w fun e w' => e = .returned (.bool true) ∧ Below w.heap.size w w' := by
  have hI := hX.fi hl
  have hnm := hX.ox.name_le
  obtain ⟨D, R, hD, hR, _⟩ := hX
  have hSn : SortF st.now := SortF.all hS
  have cN := namesD_any db st D w hD hSn
  have HI := Lib.hid hI
  have HD := Lib.hid hD
  have HR := Lib.hid hR
  have HNM : Hid (∀ p ∈ st.now, p.1.size ≤ maxLen) := Lib.hid fun p hp => by
    have := hnm p.1.data.toList (List.mem_map.2 ⟨p, hp, rfl⟩)
    rw [Lib.size_eq]
    exact this
  have hlen : st.now.length ≤ 64 := hI.chain.last.2
  clear hD hR hI hS hSn hnm
  have cW := fun (w1 : World) (hb : Below w.heap.size w w1) => (show Calls Try.prog 36 #[ptr rb] w1 fun e w' => ∃ a c, e = .returned (.slice a st.now.length c) ∧ RowF w' a st.now ∧ Below w1.heap.size w1 w' by
    obtain ⟨a0, c0, lv, h⟩ := HR.out.below hb
    exact (rnow_any rb st R a0 c0 lv w1 h HI.out).mono fun e w' ⟨a, c, he, h1, _, h2⟩ => ⟨a, c, he, h1, h2⟩)
  have cD := fun (w1 : World) (hb : Below w.heap.size w w1) (s : ByteArray) (hs : s.size ≤ maxLen) => readD_any db st D s w1 (HD.out.below hb) hs
  have cR := fun (w1 : World) (hb : Below w.heap.size w w1) (s : ByteArray) => rread_any rb st R s w1 (HR.out.below hb) HI.out
  unfold ptr at cN cW cD cR ⊢
  generalize st.now = F at *
  generalize st.fuse = fu at *
  go_enter Try.func13, Try.ntmps13
  go_upto_region 4 with (first
    | (go_at_call 24; refine cN.mono ?_; rintro e w1 ⟨la, lc, rfl, hM, hb1⟩)
    | (go_at_call 36; refine (cW _ hb1).mono ?_; rintro e w2 ⟨ma, mc, rfl, hF, hb2⟩))
  have hB2 : Below w.heap.size w w2 := hb1.trans (hb2.mono hb1.size)
  have HM := Lib.hid (hM.below hb2)
  have HF := Lib.hid hF
  have HB2 := Lib.hid hB2
  clear hM hF hb1 hb2 hB2 cN cW
  go_wp2
  go_loopw [7] (fun v wr => ∃ i : Nat, v = .int .i64 i ∧ i ≤ F.length ∧ Below w2.heap.size w2 wr) (fun v _ => F.length - (intOf v).toNat)
  case atStart => exact ⟨0, rfl, Nat.zero_le _, Below.refl _ _⟩
  case round =>
    obtain ⟨i, rfl, hi, hbw⟩ := hrel
    have hBw : Below w.heap.size w wr := HB2.out.trans (hbw.mono HB2.out.size)
    by_cases hlt : i < F.length
    · obtain ⟨p, hp⟩ : ∃ p, F[i]? = some p := ⟨_, List.getElem?_eq_getElem hlt⟩
      have hps := HNM.out p (List.mem_of_getElem? hp)
      obtain ⟨lb, lo, rfl, hlb, l0⟩ := HM.out i p hp
      obtain ⟨mb, mo, rfl, hmb, m0, _⟩ := HF.out i p hp
      have e0 := (hbw.cell (p := ⟨lb, lo + i, none⟩) hlb).trans l0
      have e1 := (hbw.cell (p := ⟨mb, mo + i * 2, none⟩) hmb).trans m0
      have cD1 := cD wr hBw p.1 hps
      have cR1 := cR wr hBw p.1
      have hki : (i : Int) < (F.length : Int) := by omega
      have hk0 : (0 : Int) ≤ (i : Int) := by omega
      generalize readS fu F p.1 = rs at *
      generalize readE fu F p.1 = re at *
      generalize p.1 = nm at *
      clear l0 m0 hp hps hlt
      go_upto_region 9 with (first
        | (go_at_call 25; refine cD1.mono ?_; rintro e wr' ⟨rfl, hw⟩; subst hw)
        | (go_at_call 37; refine cR1.mono ?_; rintro e w4 ⟨rfl, hb4⟩; have f0 := (hb4.cell (p := ⟨lb, lo + i, none⟩) (Nat.lt_of_lt_of_le hlb hbw.size)).trans e0; have f1 := (hb4.cell (p := ⟨mb, mo + i * 2, none⟩) (Nat.lt_of_lt_of_le hmb hbw.size)).trans e1))
      have hb5 := hbw.trans (hb4.mono hbw.size)
      clear cD1 cR1 e0 e1
      go_wp2
      go_quiet (fail)
      go_wp2
      go_roundw
      case rel => exact ⟨i + 1, by go_num, by omega, drewN_below hb5 _⟩
      case measure => simp [intOf]; omega
    · have hki : ¬ (i : Int) < (F.length : Int) := by omega
      have cD1 := cD wr hBw nNone (by decide)
      have cR1 := cR wr hBw nNone
      generalize readS fu F nNone = rs at *
      generalize readE fu F nNone = re at *
      unfold nNone at cD1 cR1
      go_wp2_with (first
        | (go_at_call 25; refine cD1.mono ?_; rintro e wr' ⟨rfl, hw⟩; subst hw)
        | (go_at_call 37; refine cR1.mono ?_; rintro e w4 ⟨rfl, hb4⟩))
      go_ret
      exact ⟨rfl, hBw.trans (hb4.mono hBw.size)⟩

end Go.Proofs.Ytlkgfimignlgaaa
