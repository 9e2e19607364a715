/-
  THE DOCUMENT'S OWN DISK: CONTRACT of Alter. (gen_rr.py writes it.)
-/
import Derived.Test.YtlkgfimignlgaaaCDiskRq
import Derived.Test.YtlkgfimignlgaaaCOwnC
set_option linter.unusedSimpArgs false
set_option linter.unusedVariables false
set_option linter.unusedVariables false
set_option linter.unusedSimpArgs false
namespace Go.Proofs.Ytlkgfimignlgaaa
open Go.RowKit
/-- what is sure is another row, behind what only laid blocks -/
theorem alt_end {w0 w' : World} {rb c c' : Nat} {st : Ds} {R : Nat → Prop} {a a' : Option Addr} {lv : Value} {S' : Fs} (h : RP w0 rb st R a c lv) (hb : Below w0.heap.size w0 w') (hR : RowF w' a' S')
    (ho : ∀ j, (Value.slice a' S'.length c').ownBlock = some j → w0.heap.size ≤ j ∧ j < w'.heap.size) :
    RK (w'.setCell ⟨rb, 1, none⟩ (.slice a' S'.length c')) rb { st with S := S' } (Ext R w0 (w'.setCell ⟨rb, 1, none⟩ (.slice a' S'.length c'))) ∧ Turn w0 (w'.setCell ⟨rb, 1, none⟩ (.slice a' S'.length c')) R := by
  have h1 := (h.below hb).extSelf h.lt hb.size
  have h2 := h1.sured (a' := a') (c' := c') hR fun j hj => ⟨.inr (ho j hj), by have := (ho j hj).1; have := h.blk.lt; omega, fun e => by have := h.lt j (h.in2 j e); have := (ho j hj).1; omega⟩
  refine ⟨⟨_, _, _, h2.ext (fun j hj => hj.set) fun j hj => ?_⟩, (Turn.below hb).trans (turn_set h.in0 _)⟩
  rw [size_set]
  rcases hj with h3 | h3
  · have := h.lt j h3; have := hb.size; omega
  · rw [size_set] at h3; exact h3.2
theorem nB_set (l : List UInt8) (q : Nat) (c : UInt8) : (nB l).set q (c.toNat : Int) = nB (l.set q c) := by
  unfold nB
  rw [List.map_set]
theorem nB_at (l : List UInt8) (q : Nat) (h : q < l.length) : (nB l).getD q 0 = (((l.getD q 0).toNat : Nat) : Int) := by
  unfold nB
  simp [List.getD, h]
set_option maxRecDepth 10000000 in
set_option maxHeartbeats 4000000 in
theorem ralt_any (rb : Nat) (st : Ds) (R : Nat → Prop) (s : ByteArray) (at' : Int) (b : UInt8) (w : World) (h : RK w rb st R) (hI : FI st) (hSo : SortF st.S) (hs : s.size ≤ 1000000000) :
    Calls Try.prog 35 #[ptr rb, .string s, .int .i64 at', .int .u8 ((b.toNat : Nat) : Int)] w (DoneR w rb R (altS st s at' b)) := by
  obtain ⟨a0, c0, lv, h⟩ := h
  have HH := Lib.hid h
  have cN := rnow_any rb st R a0 c0 lv w h hI
  have hlen : st.now.length ≤ 64 := hI.chain.last.2
  have hsm : (getF st.now s).length ≤ 16777216 := by
    have h1 := getF_le st.now s
    have h2 : (sumF st.now : Int) ≤ st.room := hI.chain.last.1
    have h3 := hI.room.2
    omega
  have hrlt := h.blk.lt
  obtain ⟨_, k1, k2, _⟩ := h.blk.cells
  obtain ⟨la, lc, rfl, _, _⟩ := h.loose.form
  have hlt := h.lt
  have HLT := Lib.hid hlt
  have stay : ∀ e w', Below w.heap.size w w' → DoneR w rb R (e, st) (.returned (.int .i64 e)) w' := fun e w' hb => ⟨rfl, ⟨a0, c0, _, (HH.out.below hb).extSelf HLT.out hb.size⟩, Turn.below hb⟩
  have HST := Lib.hid stay
  have HI := Lib.hid hI
  clear stay hlt h hI
  have cF := fun (w' : World) (a : Option Addr) (c : Nat) (h : RowF w' a st.now) => find_any st.now a c s w' h (by omega)
  unfold ptr at cN ⊢
  cases hh : hasF st.now s
  · have hr : altS st s at' b = (5, st) := by unfold altS; rw [hh, if_pos rfl]
    rw [hr]
    have hat0 := at_no hh
    rw [hat0] at cF
    clear hr hh hat0 hsm
    go_enter Try.func35, Try.ntmps35
    go_wp2_with (first | (go_at_call 36; refine cN.mono ?_; rintro e w2 ⟨a, c, rfl, hR, _, hb⟩) | (go_at_call 54; refine (cF _ _ _ hR).mono ?_; rintro e w4 ⟨rfl, rfl⟩))
    go_ret
    exact HST.out 5 _ hb
  have HHS := Lib.hid hh
  obtain ⟨k, p, hp, hat0, hgp, _⟩ := at_is hh
  have hk0 : ¬ (k : Int) < 0 := by omega
  have hk1 : (0 : Int) ≤ (k : Int) := by omega
  have hkl : (k : Int) < (st.now.length : Int) := by have := (List.getElem?_eq_some_iff.1 hp).1; omega
  rw [hat0] at cF
  have HP0 := Lib.hid hp
  obtain ⟨x, hxx⟩ : ∃ x : ByteArray, ⟨p.2.toArray⟩ = x := ⟨_, rfl⟩
  have hxs : x.size = (getF st.now s).length := by rw [← hxx, old_size, hgp]
  have hxd : x.data.toList = getF st.now s := by rw [← hxx, hgp]
  have HXX := Lib.hid hxx
  have HXD := Lib.hid hxd
  clear hp hgp hxx hh hat0 hxd
  by_cases hat : at' < 0 ∨ ((getF st.now s).length : Int) ≤ at'
  · have hr : altS st s at' b = (2, st) := by unfold altS; rw [HHS.out, if_neg (by decide), if_pos hat]
    rw [hr]
    clear hr
    rw [← hxs] at hat
    rcases (show at' < 0 ∨ (¬ at' < 0 ∧ (x.size : Int) ≤ at') by omega) with h1 | ⟨h1, h2⟩
    all_goals
      clear hat
      go_enter Try.func35, Try.ntmps35
      go_wp2_with (first | (go_at_call 36; refine cN.mono ?_; rintro e w2 ⟨a, c, rfl, hR, _, hb⟩; obtain ⟨b1, o1, rfl, hlb, r0, r1⟩ := hR k p HP0.out; rw [HXX.out] at r1) | (go_at_call 54; refine (cF _ _ _ hR).mono ?_; rintro e w4 ⟨rfl, rfl⟩))
      go_ret
      exact HST.out 2 _ hb
  have HAT := Lib.hid hat
  rw [← hxs] at hat
  have h1 : ¬ at' < 0 := by omega
  have h2 : ¬ (x.size : Int) ≤ at' := by omega
  obtain ⟨m, rfl⟩ := Int.eq_ofNat_of_zero_le (show 0 ≤ at' by omega)
  have hm : m < x.size := by omega
  by_cases hl : 0 < st.L.length
  · have hr : altS st s (m : Int) b = (3, st) := by unfold altS; rw [HHS.out, if_neg (by decide), if_neg HAT.out, if_pos hl]
    rw [hr]
    have hli : (0 : Int) < (st.L.length : Int) := by omega
    clear hr hl hat
    go_enter Try.func35, Try.ntmps35
    go_wp2_with (first | (go_at_call 36; refine cN.mono ?_; rintro e w2 ⟨a, c, rfl, hR, _, hb⟩; obtain ⟨b1, o1, rfl, hlb, r0, r1⟩ := hR k p HP0.out; rw [HXX.out] at r1; have z2 := (hb.cell (p := ⟨rb, 2, none⟩) hrlt).trans k2) | (go_at_call 54; refine (cF _ _ _ hR).mono ?_; rintro e w4 ⟨rfl, rfl⟩))
    go_ret
    exact HST.out 3 _ hb
  · have hl0 : st.L = [] := List.eq_nil_of_length_eq_zero (by omega)
    have hnow : st.now = st.S := by unfold Ds.now; rw [hl0]; rfl
    have hr : altS st s (m : Int) b = (0, { st with S := putF st.now s (altB (getF st.now s) m b) }) := by
      unfold altS
      rw [HHS.out, if_neg (by decide), if_neg HAT.out, if_neg hl, alt_put (by rw [hnow]; exact hSo) HHS.out]
      rw [hnow, Int.toNat_natCast]
    rw [hr]
    have hli : ¬ (0 : Int) < (st.L.length : Int) := by omega
    have hx9 : x.size ≤ 16777216 := by omega
    clear hr hl hat hnow hl0 hxs hsm
    go_enter Try.func35, Try.ntmps35
    go_upto_region 9 with (first | (go_at_call 36; refine cN.mono ?_; rintro e w2 ⟨a, c, rfl, hR, _, hb⟩; obtain ⟨b1, o1, rfl, hlb, r0, r1⟩ := hR k p HP0.out; rw [HXX.out] at r1; have z2 := (hb.cell (p := ⟨rb, 2, none⟩) hrlt).trans k2) | (go_at_call 54; refine (cF _ _ _ hR).mono ?_; rintro e w4 ⟨rfl, rfl⟩))
    obtain ⟨cap, fz, hcv, hO⟩ := run_bytes x w4 (by unfold maxLen; omega)
    have hb3 : Below w4.heap.size w4 (w4.drew.alloc (.cells (bytesRow x cap) 5 fz)) := (drew_bel w4).alloc (Nat.le_refl _) _
    generalize w4.drew.alloc (.cells (bytesRow x cap) 5 fz) = w5 at *
    have hs4 := hb.size
    have HB := Lib.hid hb
    have HR := Lib.hid (hR.below hb3)
    have HB5 : Hid (Below w.heap.size w w5) := Lib.hid (hb.trans (hb3.mono hs4))
    have hdl : x.data.toList.length = x.size := (Lib.size_eq x).symm
    have hO : OC .u8 w5 w4.heap.size w4.heap.size cap (nB x.data.toList) := hO
    have HO := Lib.hid hO
    have hc := hO.cells m (by rw [nB_len, hdl]; exact hm)
    rw [nB_at _ _ (by rw [hdl]; exact hm)] at hc
    have hfz := hO.free (j := m) (by rw [nB_len, hdl]; exact hm)
    have hxr := xor_u8 (x.data.toList.getD m 0) b
    have hmi : (m : Int) < (x.size : Int) := by omega
    have hm0 : (0 : Int) ≤ (m : Int) := by omega
    have hset := hO.set (j := m) (by rw [nB_len, hdl]; exact hm) (((x.data.toList.getD m 0 ^^^ b).toNat : Nat) : Int)
    rw [nB_set] at hset
    have HALT : Hid (x.data.toList.set m (x.data.toList.getD m 0 ^^^ b) = altB (getF st.now s) m b) := Lib.hid (by rw [HXD.out]; rfl)
    have hal : (x.data.toList.set m (x.data.toList.getD m 0 ^^^ b)).length = x.size := by rw [List.length_set, hdl]
    generalize x.data.toList.set m (x.data.toList.getD m 0 ^^^ b) = al at *
    generalize x.data.toList.getD m 0 = xb at *
    have hcs := run_convert_bytes_arg (P := Try.prog) (w5.setCell ⟨w4.heap.size, m, none⟩ (.int .u8 (((xb ^^^ b).toNat : Nat) : Int))) 65 5 Try.underlying65 Try.underlying5 w4.heap.size 0 x.size cap (nB al) (by rw [nB_len, hal]) (fun i hi => by rw [Nat.zero_add]; exact hset.cells i (by rw [nB_len, hal]; exact hi)) 9 Try.underlying9
    rw [nB_str] at hcs
    have hb6 : Below w4.heap.size w5 (w5.setCell ⟨w4.heap.size, m, none⟩ (.int .u8 (((xb ^^^ b).toNat : Nat) : Int))) := (Below.refl _ _).setCell (p := ⟨w4.heap.size, m, none⟩) (Nat.le_refl _) _
    have hRw : RowF (w5.setCell ⟨w4.heap.size, m, none⟩ (.int .u8 (((xb ^^^ b).toNat : Nat) : Int))) (some ⟨b1, o1, none⟩) st.now := (hR.below (hb3.trans hb6))
    have cW := with_any st.now _ c s (⟨al.toArray⟩ : ByteArray) _ hRw (by omega)
    rw [data_old] at cW
    have HB6 := Lib.hid hb6
    have hs5 := hb3.size
    clear hO hset hR hb hb3 hb6 hRw hal hdl
    go_upto_region 11 with fail
    clear hcv hc hfz hxr
    simp only [UInt8.toNat_xor] at hcs cW HB6
    generalize hw6 : w5.setCell ⟨w4.heap.size, m, none⟩ (.int .u8 ((xb.toNat ^^^ b.toNat : Nat) : Int)) = w6 at *
    have hs6 : w6.heap.size = w5.heap.size := by rw [← hw6, size_set]
    have HS6 := Lib.hid hs6
    clear hw6 hs6
    generalize (⟨al.toArray⟩ : ByteArray) = X at *
    go_wp2_with (go_at_call 55; refine cW.mono ?_; rintro e w7 ⟨v, rfl, hO7, hb7⟩; obtain ⟨a7, c7, rfl, _, hR7⟩ := hO7.form; have hB7 : Below w.heap.size w w7 := (HB5.out.trans (HB6.out.mono hs4)).trans (hb7.mono (by have := HS6.out; omega)); have hq := (HH.out.below hB7).blk; have z1 := hq.cells.2.1; have f1 := hq.free 1)
    go_ret
    rw [← HALT.out]
    refine ⟨rfl, alt_end HH.out hB7 hR7 fun j hj => ?_⟩
    have hl7 := World.ownsRow.lt hO7 j hj
    exact ⟨by have := HS6.out; omega, hl7.2⟩
end Go.Proofs.Ytlkgfimignlgaaa
