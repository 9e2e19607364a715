/-
  ONE DISK among what a call has laid: what each call on it comes to. CONTRACT of the laws' known case works (codicillaw06).
-/
import Derived.Test.YtlkgfimignlgaaaCDiskNm
set_option linter.unusedSimpArgs false
set_option linter.unusedVariables false
set_option linter.unusedVariables false
set_option linter.unusedSimpArgs false
namespace Go.Proofs.Ytlkgfimignlgaaa
open Go.RowKit
/-- a disk whose blocks have all been laid since w0; what lay in w0 lies as it lay -/
def DS (w0 w : World) (db : Nat) (st : Ds) : Prop := ∃ D, DK w db st D ∧ (∀ j, D j → w0.heap.size ≤ j) ∧ Below w0.heap.size w0 w
section
variable {w0 w w' : World} {db : Nat} {st : Ds}
theorem DS.bel (h : DS w0 w db st) : Below w0.heap.size w0 w := by
  obtain ⟨D, _, _, hb⟩ := h
  exact hb
theorem DS.below (h : DS w0 w db st) (hb : Below w.heap.size w w') : DS w0 w' db st := by
  obtain ⟨D, h1, h2, h3⟩ := h
  exact ⟨D, h1.below hb, h2, h3.trans (hb.mono h3.size)⟩
theorem DS.done {r : Int × Ds} {D : Nat → Prop} {e : Ending} (h1 : ∀ j, D j → w0.heap.size ≤ j) (h2 : Below w0.heap.size w0 w) (h : DoneD w db D r e w') : e = .returned (.int .i64 r.1) ∧ DS w0 w' db r.2 := by
  obtain ⟨he, hK, hT⟩ := h
  refine ⟨he, Ext D w w', hK, fun j hj => ?_, h2.trans ⟨hT.os, hT.tape, hT.output, hT.size, fun j hj => hT.block j (by have := h2.size; omega) (fun hd => by have := h1 j hd; omega)⟩⟩
  rcases hj with h3 | h3
  · exact h1 j h3
  · have := h2.size; omega
theorem DS.append (h : DS w0 w db st) (s d : ByteArray) (hs : s.size ≤ 1000000000) (hd : d.size ≤ 1000000000) (hl : st.L.length ≤ 1000000) :
    Calls Try.prog 19 #[ptr db, .string s, .string d] w fun e w' => e = .returned (.int .i64 (appS st s d).1) ∧ DS w0 w' db (appS st s d).2 := by
  obtain ⟨D, h1, h2, h3⟩ := h
  exact (append_any db st D s d w h1 hs hd hl).mono fun e w' h => DS.done h2 h3 h
theorem DS.cut (h : DS w0 w db st) (s : ByteArray) (n : Int) (hs : s.size ≤ 1000000000) (hl : st.L.length ≤ 1000000) :
    Calls Try.prog 20 #[ptr db, .string s, .int .i64 n] w fun e w' => e = .returned (.int .i64 (cutS st s n).1) ∧ DS w0 w' db (cutS st s n).2 := by
  obtain ⟨D, h1, h2, h3⟩ := h
  exact (cutD_any db st D s n w h1 hs hl).mono fun e w' h => DS.done h2 h3 h
theorem DS.ren (h : DS w0 w db st) (s t : ByteArray) (hs : s.size ≤ 1000000000) (ht : t.size ≤ 1000000000) (hl : st.L.length ≤ 1000000) :
    Calls Try.prog 21 #[ptr db, .string s, .string t] w fun e w' => e = .returned (.int .i64 (renS st s t).1) ∧ DS w0 w' db (renS st s t).2 := by
  obtain ⟨D, h1, h2, h3⟩ := h
  exact (renD_any db st D s t w h1 hs ht hl).mono fun e w' h => DS.done h2 h3 h
theorem DS.rem (h : DS w0 w db st) (s : ByteArray) (hs : s.size ≤ 1000000000) (hl : st.L.length ≤ 1000000) :
    Calls Try.prog 22 #[ptr db, .string s] w fun e w' => e = .returned (.int .i64 (remS st s).1) ∧ DS w0 w' db (remS st s).2 := by
  obtain ⟨D, h1, h2, h3⟩ := h
  exact (remD_any db st D s w h1 hs hl).mono fun e w' h => DS.done h2 h3 h
theorem DS.sync (h : DS w0 w db st) (hl : st.L.length ≤ 1000000) :
    Calls Try.prog 23 #[ptr db] w fun e w' => e = .returned (.int .i64 (syncS st).1) ∧ DS w0 w' db (syncS st).2 := by
  obtain ⟨D, h1, h2, h3⟩ := h
  exact (sync_any db st D w h1 hl).mono fun e w' h => DS.done h2 h3 h
theorem DS.crash (h : DS w0 w db st) (c b : Int) (hl : st.L.length ≤ 1000000) :
    Calls Try.prog 26 #[ptr db, .int .i64 c, .int .i64 b] w fun e w' => e = .returned (.int .i64 0) ∧ DS w0 w' db (crashS st c b).2 := by
  obtain ⟨D, h1, h2, h3⟩ := h
  exact (crash_any db st D c b w h1 hl).mono fun e w' h => DS.done h2 h3 h
theorem DS.fuse (h : DS w0 w db st) (n : Int) (hn : n ≤ 9223372036854775807) :
    Calls Try.prog 27 #[ptr db, .int .i64 n] w fun e w' => e = .returned (.int .i64 0) ∧ DS w0 w' db { st with fuse := max n (-1) } := by
  obtain ⟨D, h1, h2, h3⟩ := h
  exact (fuseD_any db st D n w h1 hn).mono fun e w' h => DS.done h2 h3 h
theorem DS.read (h : DS w0 w db st) (s : ByteArray) (hs : s.size ≤ maxLen) :
    Calls Try.prog 25 #[ptr db, .string s] w fun e w' => e = .returned (.tuple #[.string (readS st.fuse st.now s), .int .i64 (readE st.fuse st.now s)]) ∧ DS w0 w' db st := by
  obtain ⟨D, h1, h2, h3⟩ := h
  refine (readD_any db st D s w h1 hs).mono ?_
  rintro e w' ⟨rfl, rfl⟩
  exact ⟨rfl, D, h1, h2, h3⟩
theorem DS.left (h : DS w0 w db st) : Calls Try.prog 14 #[ptr db] w fun e w' => e = .returned (.int .i64 (st.room - (sumF st.now : Nat))) ∧ DS w0 w' db st := by
  have h' := h
  obtain ⟨D, h1, h2, h3⟩ := h
  refine (leftD_any db st D w h1).mono ?_
  rintro e w' ⟨rfl, hb⟩
  exact ⟨rfl, h'.below hb⟩
theorem DS.loose (h : DS w0 w db st) : Calls Try.prog 16 #[ptr db] w fun e w' => e = .returned (.int .i64 (st.L.length : Nat)) ∧ DS w0 w' db st := by
  obtain ⟨D, h1, h2, h3⟩ := h
  refine (looseD_any db st D w h1).mono ?_
  rintro e w' ⟨rfl, rfl⟩
  exact ⟨rfl, D, h1, h2, h3⟩
theorem RowN.form {B : Nat} {v : Value} {L : List (List UInt8)} (h : RowN w B v L) : ∃ a c, v = .slice a L.length c ∧ L.length ≤ c := by
  rcases h.2 with ⟨rfl, h0⟩ | ⟨g, cap, cur, rfl, hb, hg, hcap, _⟩
  · exact ⟨none, 0, by rw [h0], by omega⟩
  · exact ⟨_, _, rfl, hcap⟩
theorem DS.names (h : DS w0 w db st) : Calls Try.prog 24 #[ptr db] w fun e w' => ∃ a c L, e = .returned (.slice a L.length c) ∧ L.Perm (namesF st.now) ∧ L.Pairwise (fun x y => x ≤ y) ∧ RowN w' w.heap.size (.slice a L.length c) L ∧ DS w0 w' db st ∧ Below w.heap.size w w' := by
  have h' := h
  obtain ⟨D, h1, h2, h3⟩ := h
  refine (names_any db st D w h1).mono ?_
  rintro e w' ⟨v, L, rfl, hp, hs, hr, hb⟩
  obtain ⟨a, c, rfl, hc⟩ := hr.form
  exact ⟨a, c, L, rfl, hp, hs, hr, h'.below hb, hb⟩
theorem DS.new (room : Int) (w : World) (h : roomB room = true) :
    Calls Try.prog 10 #[.int .i64 room] w fun e w' => ∃ db, e = .returned (.tuple #[ptr db, .int .i64 0]) ∧ DS w w' db (New0 room) := by
  refine (newD_any room w h).mono ?_
  rintro e w' ⟨rfl, hK, hb⟩
  exact ⟨_, rfl, NewB w w', hK, fun j hj => hj.1, hb⟩
end
def bA : ByteArray := ⟨#[97]⟩
def bB : ByteArray := ⟨#[98]⟩
def k0 : Fs := [(⟨#[97]⟩, [120, 121])]
def k1 : Fs := [(⟨#[97]⟩, [120, 121, 122]), (⟨#[98]⟩, [])]
theorem wk1 : appS (New0 100) ⟨#[97]⟩ ⟨#[120, 121]⟩ = (0, ⟨100, -1, [], [.app ⟨#[97]⟩ ⟨#[120, 121]⟩]⟩) := by kernel_rfl
theorem wk2 : syncS ⟨100, -1, [], [.app ⟨#[97]⟩ ⟨#[120, 121]⟩]⟩ = (0, ⟨100, -1, k0, []⟩) := by kernel_rfl
theorem wk3 : appS ⟨100, -1, k0, []⟩ ⟨#[97]⟩ ⟨#[122]⟩ = (0, ⟨100, -1, k0, [.app ⟨#[97]⟩ ⟨#[122]⟩]⟩) := by kernel_rfl
theorem wk4 : appS ⟨100, -1, k0, [.app ⟨#[97]⟩ ⟨#[122]⟩]⟩ ⟨#[98]⟩ ⟨#[119]⟩ = (0, ⟨100, -1, k0, [.app ⟨#[97]⟩ ⟨#[122]⟩, .app ⟨#[98]⟩ ⟨#[119]⟩]⟩) := by kernel_rfl
theorem wk5 : crashS ⟨100, -1, k0, [.app ⟨#[97]⟩ ⟨#[122]⟩, .app ⟨#[98]⟩ ⟨#[119]⟩]⟩ 1 0 = (0, ⟨100, -1, k1, []⟩) := by kernel_rfl
theorem wk6 : readS (-1) (Ds.now ⟨100, -1, k1, []⟩) ⟨#[97]⟩ = ⟨#[120, 121, 122]⟩ ∧ readE (-1) (Ds.now ⟨100, -1, k1, []⟩) ⟨#[97]⟩ = 0 := ⟨by kernel_rfl, by kernel_rfl⟩
theorem wk7 : readS (-1) (Ds.now ⟨100, -1, k1, []⟩) ⟨#[98]⟩ = ⟨#[]⟩ ∧ readE (-1) (Ds.now ⟨100, -1, k1, []⟩) ⟨#[98]⟩ = 0 := ⟨by kernel_rfl, by kernel_rfl⟩
theorem wk8 : cutS ⟨100, -1, k1, []⟩ ⟨#[97]⟩ 1 = (0, ⟨100, -1, k1, [.cut ⟨#[97]⟩ 1]⟩) := by kernel_rfl
theorem wk9 : crashS ⟨100, -1, k1, [.cut ⟨#[97]⟩ 1]⟩ 0 0 = (0, ⟨100, -1, k1, []⟩) := by kernel_rfl
theorem wk10 : (100 : Int) - (sumF (Ds.now ⟨100, -1, k1, []⟩) : Nat) = 97 ∧ (namesF (Ds.now ⟨100, -1, k1, []⟩)).length = 2 := ⟨by kernel_rfl, by kernel_rfl⟩
set_option maxRecDepth 10000000 in
set_option maxHeartbeats 4000000 in
theorem works_any (w : World) : Calls Try.prog 9 #[] w fun e w' => e = .returned (.bool true) ∧ Below w.heap.size w w' := by
  have cN := DS.new 100 w (by decide)
  unfold ptr New0 at cN
  go_enter Try.func9, Try.ntmps9
  go_upto_region 4 with (go_at_call 10; refine cN.mono ?_; rintro e w1 ⟨db, rfl, hS⟩)
  clear cN
  have cc := hS.append ⟨#[97]⟩ ⟨#[120, 121]⟩ (by decide) (by decide) (by decide)
  rw [(show appS ⟨100, -1, [], []⟩ ⟨#[97]⟩ ⟨#[120, 121]⟩ = _ from wk1)] at cc
  unfold ptr at cc
  clear hS
  go_upto_region 5 with (go_at_call 19; refine cc.mono ?_; rintro e w2 ⟨rfl, hS⟩)
  clear cc
  have cc := hS.sync (by decide)
  rw [wk2] at cc
  unfold ptr at cc
  clear hS
  go_upto_region 6 with (go_at_call 23; refine cc.mono ?_; rintro e w3 ⟨rfl, hS⟩)
  clear cc
  have cc := hS.append ⟨#[97]⟩ ⟨#[122]⟩ (by decide) (by decide) (by decide)
  rw [wk3] at cc
  unfold ptr at cc
  clear hS
  go_upto_region 7 with (go_at_call 19; refine cc.mono ?_; rintro e w4 ⟨rfl, hS⟩)
  clear cc
  have cc := hS.append ⟨#[98]⟩ ⟨#[119]⟩ (by decide) (by decide) (by decide)
  rw [wk4] at cc
  unfold ptr at cc
  clear hS
  go_upto_region 8 with (go_at_call 19; refine cc.mono ?_; rintro e w5 ⟨rfl, hS⟩)
  clear cc
  have cc := hS.crash 1 0 (by decide)
  rw [wk5] at cc
  unfold ptr at cc
  clear hS
  go_upto_region 9 with (go_at_call 26; refine cc.mono ?_; rintro e w6 ⟨rfl, hS⟩)
  clear cc
  have cc := hS.read ⟨#[97]⟩ (by decide)
  rw [wk6.1, wk6.2] at cc
  unfold ptr at cc
  clear hS
  go_upto_region 10 with (go_at_call 25; refine cc.mono ?_; rintro e w7 ⟨rfl, hS⟩)
  clear cc
  have cc := hS.read ⟨#[98]⟩ (by decide)
  rw [wk7.1, wk7.2] at cc
  unfold ptr at cc
  clear hS
  go_upto_region 11 with (go_at_call 25; refine cc.mono ?_; rintro e w8 ⟨rfl, hS⟩)
  clear cc
  have cc := hS.cut ⟨#[97]⟩ 1 (by decide) (by decide)
  rw [wk8] at cc
  unfold ptr at cc
  clear hS
  go_upto_region 12 with (go_at_call 20; refine cc.mono ?_; rintro e w9 ⟨rfl, hS⟩)
  clear cc
  have cc := hS.crash 0 0 (by decide)
  rw [wk9] at cc
  unfold ptr at cc
  clear hS
  go_upto_region 13 with (go_at_call 26; refine cc.mono ?_; rintro e w10 ⟨rfl, hS⟩)
  clear cc
  have cc := hS.read ⟨#[97]⟩ (by decide)
  rw [wk6.1, wk6.2] at cc
  unfold ptr at cc
  clear hS
  go_upto_region 14 with (go_at_call 25; refine cc.mono ?_; rintro e w11 ⟨rfl, hS⟩)
  clear cc
  have cL := fun (w' : World) (h : DS w w' db ⟨100, -1, k1, []⟩) => h.left
  have cM := fun (w' : World) (h : DS w w' db ⟨100, -1, k1, []⟩) => h.names
  rw [wk10.1] at cL
  unfold ptr at cL cM
  go_wp2_with (first
    | (go_at_call 14; refine (cL _ hS).mono ?_; rintro e w20 ⟨rfl, hS⟩)
    | (go_at_call 24; refine (cM _ hS).mono ?_; rintro e w21 ⟨a, c, L, rfl, hp, hs, hr, hS, hb⟩; have hL := hp.length_eq.trans wk10.2))
  go_ret
  exact ⟨rfl, hS.bel⟩
end Go.Proofs.Ytlkgfimignlgaaa
