/-
  THE DOCUMENT'S OWN DISK: CONTRACT of done: files behind a call. (gen_rdone.py writes it.)
-/
import Derived.Test.YtlkgfimignlgaaaCDiskRw
import Derived.Test.YtlkgfimignlgaaaCDiskRk
set_option linter.unusedSimpArgs false
set_option linter.unusedVariables false
set_option linter.unusedVariables false
set_option linter.unusedSimpArgs false
namespace Go.Proofs.Ytlkgfimignlgaaa
open Go.RowKit
theorem old_size (l : List UInt8) : (⟨l.toArray⟩ : ByteArray).size = l.length := by show l.toArray.size = _; simp
theorem data_old (l : List UInt8) : (⟨l.toArray⟩ : ByteArray).data.toList = l := by simp
theorem data_join (l : List UInt8) (d : ByteArray) : ((⟨l.toArray⟩ : ByteArray) ++ d).data.toList = l ++ d.data.toList := by simp
theorem data_cut (l : List UInt8) (n : Nat) : ((⟨l.toArray⟩ : ByteArray).extract 0 n).data.toList = l.take n := by
  rw [ByteArray.data_extract, Array.toList_extract]
  simp [List.extract]
theorem get_no {F : Fs} {s : ByteArray} (hh : hasF F s = false) : getF F s = [] := by
  have h1 := hasF_find F s
  rw [hh] at h1
  unfold getF
  cases e : F.find? (eqF s) with
  | none => rfl
  | some p => rw [e] at h1; cases h1
def CB (op : Op) : Obj := .cells #[.int .i64 (opK op), .string (opA op), .string (opB op), .int .i64 (opN op)] 82

set_option maxRecDepth 10000000 in
set_option maxHeartbeats 4000000 in
theorem done_app (F : Fs) (a : Option Addr) (c : Nat) (s d : ByteArray) (w : World) (room : Int) (hr : room ≤ 16777216) (h : RowF w a F) (hok : okF F (.app s d)) (hf : FineF room F) (hf2 : FineF room (doF 16777217 F (.app s d))) :
    Calls Try.prog 56 #[.slice a F.length c, .agg #[.int .i64 0, .string s, .string d, .int .i64 0]] w fun e w' => ∃ v, e = .returned v ∧ OwnF w' w.heap.size v (doF 16777217 F (.app s d)) ∧ Below w.heap.size w w' := by
  have hlen : F.length ≤ 64 := hf.2
  have hgl := getF_le F s
  have hsm : (sumF F : Int) ≤ room := hf.1
  have hgs : (getF F s).length ≤ 16777216 := by omega
  have hb0 : Below w.heap.size w (w.alloc (.cells #[.int .i64 0, .string s, .string d, .int .i64 0] 82)) := (Below.refl _ _).alloc (Nat.le_refl _) _
  have h0 := h.below hb0
  have q0 := (cellNew w #[.int .i64 0, .string s, .string d, .int .i64 0] 82 0).trans (show _ = some (Value.int .i64 0) from rfl)
  have q1 := (cellNew w #[.int .i64 0, .string s, .string d, .int .i64 0] 82 1).trans (show _ = some (Value.string s) from rfl)
  have q2 := (cellNew w #[.int .i64 0, .string s, .string d, .int .i64 0] 82 2).trans (show _ = some (Value.string d) from rfl)
  have q3 := (cellNew w #[.int .i64 0, .string s, .string d, .int .i64 0] 82 3).trans (show _ = some (Value.int .i64 0) from rfl)
  have hsz : (w.alloc (.cells #[.int .i64 0, .string s, .string d, .int .i64 0] 82)).heap.size = w.heap.size + 1 := by simp
  have HR := Lib.hid h0
  have cF := find_any F a c s _ h0 (by omega)
  obtain ⟨hd, he⟩ := app_all hr hf2
  have HEQ : Hid (doF 16777217 F (.app s d) = putF F s ((⟨(getF F s).toArray⟩ : ByteArray) ++ d).data.toList) := Lib.hid (by rw [he, data_join])
  have hbnd : (⟨(getF F s).toArray⟩ : ByteArray).size + d.size ≤ 33554432 := by rw [old_size]; omega
  clear he
  have HB0 := Lib.hid hb0
  have HBD : Hid (Below w.heap.size w (w.alloc (.cells #[.int .i64 0, .string s, .string d, .int .i64 0] 82)).drew) := Lib.hid ⟨hb0.os, hb0.tape, hb0.output, hb0.size, hb0.block⟩
  clear h hf hf2 hsm hgl hok hb0
  cases hh : hasF F s
  · have hat := at_no hh
    have hg0 := get_no hh
    rw [hat] at cF
    try rw [hg0] at HEQ
    try rw [hg0] at cW
    try rw [hg0] at hbnd
    rw [hg0] at hgs
    clear hat hh hg0 h0
    go_enter Try.func56, Try.ntmps56
    go_wp2_with (first | (go_at_call 54; refine cF.mono ?_; rintro e w1 ⟨rfl, rfl⟩) | (go_at_call 55; refine (with_any F _ _ _ _ _ HR.out (by omega)).mono ?_; rintro e w1 ⟨v, rfl, hO, hb⟩))
    go_ret
    have hO' := hO
    rw [← HEQ.out] at hO'
    exact ⟨v, rfl, row_base hO' (by omega), HB0.out.trans (hb.mono (by omega))⟩
  · obtain ⟨k, p, hp, hat, hg, hpn⟩ := at_is hh
    rw [hat] at cF
    obtain ⟨b, o, rfl, hlt, r0, r1⟩ := h0 k p hp
    rw [← hg] at r1
    have hk := (List.getElem?_eq_some_iff.1 hp).1
    have hki : (k : Int) < (F.length : Int) := by omega
    have hk0 : (0 : Int) ≤ (k : Int) := by omega
    have hkge : ¬ (k : Int) < 0 := by omega
    generalize getF F s = G at *
    clear hat hh hg hpn hp r0 hk h0
    go_enter Try.func56, Try.ntmps56
    go_wp2_with (first | (go_at_call 54; refine cF.mono ?_; rintro e w1 ⟨rfl, rfl⟩) | (go_at_call 55; refine (with_any F _ _ _ _ _ HR.out (by omega)).mono ?_; rintro e w1 ⟨v, rfl, hO, hb⟩))
    go_ret
    have hO' := hO
    rw [← HEQ.out] at hO'
    exact ⟨v, rfl, row_base hO' (by omega), HB0.out.trans (hb.mono (by omega))⟩
set_option maxRecDepth 10000000 in
set_option maxHeartbeats 4000000 in
theorem done_rem (F : Fs) (a : Option Addr) (c : Nat) (s : ByteArray) (w : World) (room : Int) (hr : room ≤ 16777216) (h : RowF w a F) (hok : okF F (.rem s)) (hf : FineF room F) (hf2 : FineF room (doF 16777217 F (.rem s))) :
    Calls Try.prog 56 #[.slice a F.length c, .agg #[.int .i64 3, .string s, .string ⟨#[]⟩, .int .i64 0]] w fun e w' => ∃ v, e = .returned v ∧ OwnF w' w.heap.size v (doF 16777217 F (.rem s)) ∧ Below w.heap.size w w' := by
  have hlen : F.length ≤ 64 := hf.2
  have hgl := getF_le F s
  have hsm : (sumF F : Int) ≤ room := hf.1
  have hgs : (getF F s).length ≤ 16777216 := by omega
  have hb0 : Below w.heap.size w (w.alloc (.cells #[.int .i64 3, .string s, .string ⟨#[]⟩, .int .i64 0] 82)) := (Below.refl _ _).alloc (Nat.le_refl _) _
  have h0 := h.below hb0
  have q0 := (cellNew w #[.int .i64 3, .string s, .string ⟨#[]⟩, .int .i64 0] 82 0).trans (show _ = some (Value.int .i64 3) from rfl)
  have q1 := (cellNew w #[.int .i64 3, .string s, .string ⟨#[]⟩, .int .i64 0] 82 1).trans (show _ = some (Value.string s) from rfl)
  have q2 := (cellNew w #[.int .i64 3, .string s, .string ⟨#[]⟩, .int .i64 0] 82 2).trans (show _ = some (Value.string ⟨#[]⟩) from rfl)
  have q3 := (cellNew w #[.int .i64 3, .string s, .string ⟨#[]⟩, .int .i64 0] 82 3).trans (show _ = some (Value.int .i64 0) from rfl)
  have hsz : (w.alloc (.cells #[.int .i64 3, .string s, .string ⟨#[]⟩, .int .i64 0] 82)).heap.size = w.heap.size + 1 := by simp
  have HR := Lib.hid h0
  have cF := find_any F a c s _ h0 (by omega)
  have HEQ : Hid (doF 16777217 F (.rem s) = delF F s) := Lib.hid rfl
  have hbnd : (getF F s).length = (getF F s).length := rfl
  have HB0 := Lib.hid hb0
  have HBD : Hid (Below w.heap.size w (w.alloc (.cells #[.int .i64 3, .string s, .string ⟨#[]⟩, .int .i64 0] 82)).drew) := Lib.hid ⟨hb0.os, hb0.tape, hb0.output, hb0.size, hb0.block⟩
  clear h hf hf2 hsm hgl hok hb0
  cases hh : hasF F s
  · have hat := at_no hh
    have hg0 := get_no hh
    rw [hat] at cF
    try rw [hg0] at HEQ
    try rw [hg0] at cW
    try rw [hg0] at hbnd
    rw [hg0] at hgs
    clear hat hh hg0 h0
    go_enter Try.func56, Try.ntmps56
    go_wp2_with (first | (go_at_call 54; refine cF.mono ?_; rintro e w1 ⟨rfl, rfl⟩) | (go_at_call 68; refine (without_any F _ _ _ _ HR.out (by omega)).mono ?_; rintro e w1 ⟨v, rfl, hO, hb⟩))
    go_ret
    have hO' := hO
    rw [← HEQ.out] at hO'
    exact ⟨v, rfl, row_base hO' (by omega), HB0.out.trans (hb.mono (by omega))⟩
  · obtain ⟨k, p, hp, hat, hg, hpn⟩ := at_is hh
    rw [hat] at cF
    obtain ⟨b, o, rfl, hlt, r0, r1⟩ := h0 k p hp
    rw [← hg] at r1
    have hk := (List.getElem?_eq_some_iff.1 hp).1
    have hki : (k : Int) < (F.length : Int) := by omega
    have hk0 : (0 : Int) ≤ (k : Int) := by omega
    have hkge : ¬ (k : Int) < 0 := by omega
    generalize getF F s = G at *
    clear hat hh hg hpn hp r0 hk h0
    go_enter Try.func56, Try.ntmps56
    go_wp2_with (first | (go_at_call 54; refine cF.mono ?_; rintro e w1 ⟨rfl, rfl⟩) | (go_at_call 68; refine (without_any F _ _ _ _ HR.out (by omega)).mono ?_; rintro e w1 ⟨v, rfl, hO, hb⟩))
    go_ret
    have hO' := hO
    rw [← HEQ.out] at hO'
    exact ⟨v, rfl, row_base hO' (by omega), HB0.out.trans (hb.mono (by omega))⟩
set_option maxRecDepth 10000000 in
set_option maxHeartbeats 4000000 in
theorem done_cut (F : Fs) (a : Option Addr) (c : Nat) (s : ByteArray) (n : Nat) (w : World) (room : Int) (hr : room ≤ 16777216) (h : RowF w a F) (hok : okF F (.cut s n)) (hf : FineF room F) (hf2 : FineF room (doF 16777217 F (.cut s n))) :
    Calls Try.prog 56 #[.slice a F.length c, .agg #[.int .i64 1, .string s, .string ⟨#[]⟩, .int .i64 (n : Nat)]] w fun e w' => ∃ v, e = .returned v ∧ OwnF w' w.heap.size v (doF 16777217 F (.cut s n)) ∧ Below w.heap.size w w' := by
  have hlen : F.length ≤ 64 := hf.2
  have hgl := getF_le F s
  have hsm : (sumF F : Int) ≤ room := hf.1
  have hgs : (getF F s).length ≤ 16777216 := by omega
  have hb0 : Below w.heap.size w (w.alloc (.cells #[.int .i64 1, .string s, .string ⟨#[]⟩, .int .i64 (n : Nat)] 82)) := (Below.refl _ _).alloc (Nat.le_refl _) _
  have h0 := h.below hb0
  have q0 := (cellNew w #[.int .i64 1, .string s, .string ⟨#[]⟩, .int .i64 (n : Nat)] 82 0).trans (show _ = some (Value.int .i64 1) from rfl)
  have q1 := (cellNew w #[.int .i64 1, .string s, .string ⟨#[]⟩, .int .i64 (n : Nat)] 82 1).trans (show _ = some (Value.string s) from rfl)
  have q2 := (cellNew w #[.int .i64 1, .string s, .string ⟨#[]⟩, .int .i64 (n : Nat)] 82 2).trans (show _ = some (Value.string ⟨#[]⟩) from rfl)
  have q3 := (cellNew w #[.int .i64 1, .string s, .string ⟨#[]⟩, .int .i64 (n : Nat)] 82 3).trans (show _ = some (Value.int .i64 (n : Nat)) from rfl)
  have hsz : (w.alloc (.cells #[.int .i64 1, .string s, .string ⟨#[]⟩, .int .i64 (n : Nat)] 82)).heap.size = w.heap.size + 1 := by simp
  have HR := Lib.hid h0
  have cF := find_any F a c s _ h0 (by omega)
  have HEQ : Hid (doF 16777217 F (.cut s n) = putF F s ((⟨(getF F s).toArray⟩ : ByteArray).extract 0 n).data.toList) := Lib.hid (by rw [data_cut]; rfl)
  have hbnd : n ≤ (⟨(getF F s).toArray⟩ : ByteArray).size := by have := hok.2; rw [old_size]; omega
  have hn0 : (0 : Int) ≤ (n : Int) := by omega
  have cW := with_any F a c s ((⟨(getF F s).toArray⟩ : ByteArray).extract 0 n) (w.alloc (.cells #[.int .i64 1, .string s, .string ⟨#[]⟩, .int .i64 (n : Nat)] 82)).drew (h0.below ⟨rfl, rfl, rfl, Nat.le_refl _, fun _ _ => rfl⟩) (by omega)
  have HB0 := Lib.hid hb0
  have HBD : Hid (Below w.heap.size w (w.alloc (.cells #[.int .i64 1, .string s, .string ⟨#[]⟩, .int .i64 (n : Nat)] 82)).drew) := Lib.hid ⟨hb0.os, hb0.tape, hb0.output, hb0.size, hb0.block⟩
  clear h hf hf2 hsm hgl hok hb0
  cases hh : hasF F s
  · have hat := at_no hh
    have hg0 := get_no hh
    rw [hat] at cF
    try rw [hg0] at HEQ
    try rw [hg0] at cW
    try rw [hg0] at hbnd
    rw [hg0] at hgs
    clear hat hh hg0 h0
    obtain rfl : n = 0 := Nat.le_zero.1 hbnd
    go_enter Try.func56, Try.ntmps56
    go_upto_region 9 with (go_at_call 54; refine cF.mono ?_; rintro e w1 ⟨rfl, rfl⟩)
    go_region_with (go_at_call 55; refine cW.mono ?_; rintro e w1 ⟨v, rfl, hO, hb⟩)
    all_goals go_wp2
    all_goals go_ret
    all_goals
      have hO' := hO
      rw [← HEQ.out] at hO'
      exact ⟨v, rfl, row_base hO' (by simp), HBD.out.trans (hb.mono (by simp))⟩
  · obtain ⟨k, p, hp, hat, hg, hpn⟩ := at_is hh
    rw [hat] at cF
    obtain ⟨b, o, rfl, hlt, r0, r1⟩ := h0 k p hp
    rw [← hg] at r1
    have hk := (List.getElem?_eq_some_iff.1 hp).1
    have hki : (k : Int) < (F.length : Int) := by omega
    have hk0 : (0 : Int) ≤ (k : Int) := by omega
    have hkge : ¬ (k : Int) < 0 := by omega
    generalize getF F s = G at *
    clear hat hh hg hpn hp r0 hk h0
    have hnb : (n : Int) ≤ ((⟨G.toArray⟩ : ByteArray).size : Nat) := by omega
    generalize (⟨G.toArray⟩ : ByteArray) = old at *
    go_enter Try.func56, Try.ntmps56
    go_upto_region 9 with (go_at_call 54; refine cF.mono ?_; rintro e w1 ⟨rfl, rfl⟩)
    go_region_with (go_at_call 55; refine cW.mono ?_; rintro e w1 ⟨v, rfl, hO, hb⟩)
    all_goals go_wp2
    all_goals go_ret
    all_goals
      have hO' := hO
      rw [← HEQ.out] at hO'
      exact ⟨v, rfl, row_base hO' (by simp), HBD.out.trans (hb.mono (by simp))⟩
set_option maxRecDepth 10000000 in
set_option maxHeartbeats 4000000 in
theorem done_ren (F : Fs) (a : Option Addr) (c : Nat) (s t : ByteArray) (w : World) (room : Int) (hr : room ≤ 16777216) (h : RowF w a F) (hok : okF F (.ren s t)) (hf : FineF room F) (hf2 : FineF room (doF 16777217 F (.ren s t))) :
    Calls Try.prog 56 #[.slice a F.length c, .agg #[.int .i64 2, .string s, .string t, .int .i64 0]] w fun e w' => ∃ v, e = .returned v ∧ OwnF w' w.heap.size v (doF 16777217 F (.ren s t)) ∧ Below w.heap.size w w' := by
  have hlen : F.length ≤ 64 := hf.2
  have hgl := getF_le F s
  have hsm : (sumF F : Int) ≤ room := hf.1
  have hgs : (getF F s).length ≤ 16777216 := by omega
  have hb0 : Below w.heap.size w (w.alloc (.cells #[.int .i64 2, .string s, .string t, .int .i64 0] 82)) := (Below.refl _ _).alloc (Nat.le_refl _) _
  have h0 := h.below hb0
  have q0 := (cellNew w #[.int .i64 2, .string s, .string t, .int .i64 0] 82 0).trans (show _ = some (Value.int .i64 2) from rfl)
  have q1 := (cellNew w #[.int .i64 2, .string s, .string t, .int .i64 0] 82 1).trans (show _ = some (Value.string s) from rfl)
  have q2 := (cellNew w #[.int .i64 2, .string s, .string t, .int .i64 0] 82 2).trans (show _ = some (Value.string t) from rfl)
  have q3 := (cellNew w #[.int .i64 2, .string s, .string t, .int .i64 0] 82 3).trans (show _ = some (Value.int .i64 0) from rfl)
  have hsz : (w.alloc (.cells #[.int .i64 2, .string s, .string t, .int .i64 0] 82)).heap.size = w.heap.size + 1 := by simp
  have HR := Lib.hid h0
  have cF := find_any F a c s _ h0 (by omega)
  have HEQ : Hid (doF 16777217 F (.ren s t) = putF (delF F s) t (⟨(getF F s).toArray⟩ : ByteArray).data.toList) := Lib.hid (by rw [data_old]; rfl)
  have hbnd : (getF F s).length = (getF F s).length := rfl
  have cW := without_any F a c s (w.alloc (.cells #[.int .i64 2, .string s, .string t, .int .i64 0] 82)).drew (h0.below ⟨rfl, rfl, rfl, Nat.le_refl _, fun _ _ => rfl⟩) (by omega)
  have HB0 := Lib.hid hb0
  have HBD : Hid (Below w.heap.size w (w.alloc (.cells #[.int .i64 2, .string s, .string t, .int .i64 0] 82)).drew) := Lib.hid ⟨hb0.os, hb0.tape, hb0.output, hb0.size, hb0.block⟩
  clear h hf hf2 hsm hgl hok hb0
  cases hh : hasF F s
  · have hat := at_no hh
    have hg0 := get_no hh
    rw [hat] at cF
    try rw [hg0] at HEQ
    try rw [hg0] at cW
    try rw [hg0] at hbnd
    rw [hg0] at hgs
    clear hat hh hg0 h0
    go_enter Try.func56, Try.ntmps56
    go_upto_region 11 with (go_at_call 54; refine cF.mono ?_; rintro e w1 ⟨rfl, rfl⟩)
    go_region_with (first | (go_at_call 68; refine cW.mono ?_; rintro e w1 ⟨v, rfl, hO1, hb1⟩; obtain ⟨ga, gc, rfl, hgc, hR1⟩ := hO1.form; have e2 := (hb1.cell (p := ⟨w.heap.size, 2, none⟩) (by simp)).trans q2; have e1 := (hb1.cell (p := ⟨w.heap.size, 1, none⟩) (by simp)).trans q1) | (go_at_call 55; refine (with_any (delF F s) _ _ _ _ _ hR1 (by have := (len_delF F s).1; omega)).mono ?_; rintro e w2 ⟨v, rfl, hO, hb⟩))
    all_goals go_wp2
    all_goals go_ret
    all_goals
      have hO' := hO
      rw [← HEQ.out] at hO'
      have hz := hb1.size
      have hB1 := HBD.out.trans (hb1.mono (by simp))
      exact ⟨v, rfl, row_base hO' (by simp at hz ⊢; omega), hB1.trans (hb.mono (by simp at hz ⊢; omega))⟩
  · obtain ⟨k, p, hp, hat, hg, hpn⟩ := at_is hh
    rw [hat] at cF
    obtain ⟨b, o, rfl, hlt, r0, r1⟩ := h0 k p hp
    rw [← hg] at r1
    have hk := (List.getElem?_eq_some_iff.1 hp).1
    have hki : (k : Int) < (F.length : Int) := by omega
    have hk0 : (0 : Int) ≤ (k : Int) := by omega
    have hkge : ¬ (k : Int) < 0 := by omega
    generalize getF F s = G at *
    clear hat hh hg hpn hp r0 hk h0
    go_enter Try.func56, Try.ntmps56
    go_upto_region 11 with (go_at_call 54; refine cF.mono ?_; rintro e w1 ⟨rfl, rfl⟩)
    go_region_with (first | (go_at_call 68; refine cW.mono ?_; rintro e w1 ⟨v, rfl, hO1, hb1⟩; obtain ⟨ga, gc, rfl, hgc, hR1⟩ := hO1.form; have e2 := (hb1.cell (p := ⟨w.heap.size, 2, none⟩) (by simp)).trans q2; have e1 := (hb1.cell (p := ⟨w.heap.size, 1, none⟩) (by simp)).trans q1) | (go_at_call 55; refine (with_any (delF F s) _ _ _ _ _ hR1 (by have := (len_delF F s).1; omega)).mono ?_; rintro e w2 ⟨v, rfl, hO, hb⟩))
    all_goals go_wp2
    all_goals go_ret
    all_goals
      have hO' := hO
      rw [← HEQ.out] at hO'
      have hz := hb1.size
      have hB1 := HBD.out.trans (hb1.mono (by simp))
      exact ⟨v, rfl, row_base hO' (by simp at hz ⊢; omega), hB1.trans (hb.mono (by simp at hz ⊢; omega))⟩
end Go.Proofs.Ytlkgfimignlgaaa
