/-
  For every value, every text and any blanks codicillaw02.JsonBack returns true: what is printed is read as the same value; what is read, and printed, is read as the same; blanks around it count for nothing. No conditions. (The tied card: the library's variables as the program's text lays them.)
-/
import Derived.Test.YtjffiignedbndaaGreatDoorCJsonBackW
import Derived.Test.YtjffiignedbndaaGreatDoorCJsonOpen
import Derived.Test.YtjffiignedbndaaGreatDoorN8
import Derived.Test.YtjffiignedbndaaGreatDoorCards
import Derived.Test.YtjffiignedbndaaGreatDoorTie
import Derived.Carry
import Derived.SevenTiedAt
import Derived.ProofKit
import Derived.OpenShut
import Derived.ShutString
import Derived.SizedLaws
set_option linter.unusedSimpArgs false
set_option linter.unusedVariables false
namespace Go.Proofs.YtjffiignedbndaaGreatDoor.jsonBack
open Go.ChangeShapes Go.WideShapes Go.ChangeAt Go.RowKit
open Go.ChangeMaps (open_string shut_string)
set_option linter.unusedVariables false
theorem back_walk (v : JV) (s : ByteArray) (n : Nat) (c0 c1 c2 c3 cb : Value) (w : World) (hV : IsV w 0 v c0 c1 c2 c3) (hB : bndV v) (hbs : IsBy w n cb) (hs : s.size ≤ maxLen) (hvars : Vars w) :
    Calls Tryz.prog 8 #[.agg #[c0, c1, c2, c3], .string s, cb] w fun e w' => e = .returned (.bool true) ∧ Below w.heap.size w w' := by
  cases h1 : heavyB v with
  | true => exact back_heavy v s n _ _ _ _ _ w hV hB hbs hvars (.inl h1)
  | false =>
    by_cases h2 : 4096 < s.size
    · exact back_heavy v s n _ _ _ _ _ w hV hB hbs hvars (.inr (.inl ⟨h1, h2⟩))
    · by_cases h3 : 1024 < n
      · exact back_heavy v s n _ _ _ _ _ w hV hB hbs hvars (.inr (.inr ⟨h1, by omega, h3⟩))
      · exact back_light v s n _ _ _ _ _ w hV hB hbs hvars h1 (by omega) (by omega)
section
variable {H : Type} {enc : TypeId × Value → H} {w : World} {base : Nat} {spare : Nat → Bool} {held : Bool}
theorem bytes_of_trod {fuel : Nat} {c : Value} {x : DataW H × List MemPlace} (h : DataW.trod enc Tryz.prog w base spare held fuel 52 [c] = some x) : ∃ n, IsBy w n c := by
  rcases open_ints Tryz.underlying52 Tryz.underlying5 (by kernel_rfl) h with ⟨e, _⟩ | ⟨a, len, cap, zs, e, hb, hl, hm, hzs, _, hc, hw⟩
  · simp only [List.cons.injEq, and_true] at e
    subst e
    exact ⟨0, _, _, rfl, .inl rfl⟩
  · simp only [List.cons.injEq, and_true] at e
    subst e
    have hle : len ≤ zs.length := by rw [hzs]; split <;> omega
    refine ⟨len, some a, cap, rfl, ?_⟩
    by_cases h0 : len = 0
    · exact .inl h0
    · have h00 := hc 0 (by omega)
      have ha := add_plain h00
      unfold Addr.add at ha
      rw [if_pos rfl] at ha
      refine .inr ⟨a.block, a.off, by rw [ha], fun j hj => ?_⟩
      have := hc j (by omega)
      rw [add_plain this] at this
      have hwf := hw (zs.getD j 0) (by rw [List.getD_eq_getElem?_getD, List.getElem?_eq_getElem (by omega : j < zs.length)]; exact List.getElem_mem _)
      obtain ⟨b0, b9⟩ := bounds_u8 hwf
      obtain ⟨m, hm2⟩ := Int.eq_ofNat_of_zero_le b0
      refine ⟨m, by omega, ?_⟩
      rw [this, hm2]
end
/-! ### From the walk to the statement -/
theorem own : ownKnob Tryz.prog.godebug = none := by kernel_rfl
set_option maxRecDepth 100000 in
theorem lifted (os : Os) (started : os.Started) (H : Type) (enc : TypeId × Value → H) :
    ReturnsInHanded {} Tryz.checked os 8 .any (fun w args => (Rows.jsonBackSpec.pre enc Tryz.prog Tryz.f8 [] false w args ∧ laidMetH Tryz.prog laidL w) ∧ sizedMet enc Tryz.prog Tryz.f8 (OpenSpec.ofChange Rows.jsonBackSpec) false w args) (Rows.jsonBackSpec.post enc Tryz.prog Tryz.f8 false true false false) := by
  refine returnsInHanded_of_change_and (C := Tryz.checked) (X := fun w _ => laidMetH Tryz.prog laidL w) (fun _ _ _ hh h => h.of_heap hh) own started (by kernel_rfl) Tryz.func8
    (ChangeSpec.witness_at (enc := enc) (C := Tryz.checked) (os := os) (X := fun w _ => laidMetH Tryz.prog laidL w) false (laidWorld os) #[.agg #[.int .u8 0, .string ByteArray.empty, .slice none 0 0, .slice none 0 0], .string ByteArray.empty, .slice none 0 0] 8 rfl (by kernel_rfl) (by kernel_rfl) (by kernel_rfl) (by kernel_rfl) (by kernel_rfl) (laidMetH_of_parts (laidWorld_met os _) (by kernel_rfl))) ?_
  intro W base args ds gs before hval0 hW _ hsz0 hL _
  have hvars := vars_of_laid hL
  have hval : ∀ (j : Nat) t v, Tryz.f8.params[j]? = some t → args[j]? = some v → Value.okWide Tryz.prog W .any base t v := hval0
  have hsz : (DataW.weightsEach Tryz.prog (Tryz.f8.params.toList ++ Rows.jsonBackSpec.plain.varTypes Tryz.prog) (ds ++ gs)).all (· ≤ reachBytes) = true := hsz0
  have hW' := hW
  obtain ⟨p, q, hA0, hV, rfl, hfz, hnd⟩ := hW
  have hA : DataW.TrodAll enc Tryz.prog W 0 (fun _ => true) true Tryz.f8.params.toList args.toList ds p := hA0
  rw [Tryz.params8] at hA hval hsz
  obtain ⟨v0, vs0, d0, ds0, p0, q0, hargs, rfl, rfl, h0, r0⟩ := trodAll_cons hA
  obtain ⟨v1, vs1, d1, ds1, p1, q1, rfl, rfl, rfl, h1, r1⟩ := trodAll_cons r0
  obtain ⟨v2, vs2, d2, ds2, p2, q2, rfl, rfl, rfl, h2, r2⟩ := trodAll_cons r1
  obtain ⟨rfl, rfl, rfl⟩ := trodAll_nil r2
  obtain rfl : args = #[v0, v1, v2] := by cases args; simp_all
  obtain ⟨rfl, rfl⟩ := trodVars_none hV
  have h0k := h0
  have hlt0 : ∀ x ∈ p0, x.block < W.heap.size := fun x hx => hW'.lt x (by simp [hx])
  obtain ⟨cs0, rfl, hs0⟩ := okWide_struct Tryz.underlying26 (hval 0 26 v0 rfl rfl)
  obtain ⟨fuel0, hf0⟩ := h0
  obtain ⟨a0, c00, c01, c02, c03, hc0, hV0, hB0⟩ := val_of_trod _ _ _ hf0
  have hcs0 : cs0 = #[c00, c01, c02, c03] := by
    have := hc0
    simp [Value.cells] at this
    exact Array.toList_inj.1 this
  subst hcs0
  have h2k := h2
  have hlt2 : ∀ x ∈ p2, x.block < W.heap.size := fun x hx => hW'.lt x (by simp [hx])
  obtain ⟨a1, rfl, rfl, rfl, w1⟩ := open_string Tryz.underlying9 (hval 1 9 v1 rfl rfl) h1
  obtain ⟨ba, bn, bc, rfl⟩ := okWide_slice Tryz.underlying52 (hval 2 52 v2 rfl rfl)
  obtain ⟨fuel2, hf2⟩ := h2
  obtain ⟨n2, hby⟩ := bytes_of_trod (c := .slice ba bn bc) hf2
  clear hA0 hval0 hsz0
  refine (back_walk a0 a1 n2 c00 c01 c02 c03 _ W hV0 hB0 hby w1 hvars).mono fun e W' ⟨he, bel⟩ => ?_
  subst he
  exact ⟨_, rfl, _, _, _, [], _, [], hW', trodAll_mk1 (shut_bool Tryz.underlying4 _), (trodAll_cons_mk (Below.trod (show laidOutB Tryz.prog = true by kernel_rfl) (by kernel_rfl) (of_decide_eq_true (by kernel_rfl)) h0k bel hlt0) (trodAll_cons_mk (shut_string Tryz.underlying9 w1) (trodAll_cons_mk (Below.trod (show laidOutB Tryz.prog = true by kernel_rfl) (by kernel_rfl) (of_decide_eq_true (by kernel_rfl)) h2k bel hlt2) trodAll_mk0))), rfl, bel.frame _, fun h => by cases h⟩

theorem over : Rows.jsonBackRow.holds Tryz.pinned (OpenSpec.ofChange Rows.jsonBackSpec) :=
  OpenClaim.holds_of_wide 8 Tryz.f8 rfl rfl rfl rfl rfl rfl rfl ⟨rfl, rfl, rfl, rfl, rfl⟩ rfl rfl rfl rfl rfl (by kernel_rfl) Tryz.func8 (by kernel_rfl)
    (of_decide_eq_true (by kernel_rfl)) (by unfold Func.isWrapper; first | (rw [if_pos (by decide +kernel)]; kernel_rfl) | (rw [if_neg (by decide +kernel)]; exact ⟨rfl, rfl⟩))
    (fun os started H enc _ => lifted os started H enc)

/-- THE STATEMENT: the tied card -/
theorem proved : Rows.JsonBackCardSaid :=
  Claim7.holds_tied_plain_at .later [] [.data, .data, .data, .sentinel, .sentinel] true (true, Rows.jsonBackCard.stood.harness.2) true
    over (fun _ h => by cases h) (by kernel_rfl) (fun _ h => by cases h) jsonBack_row_tie rfl ⟨rfl, rfl⟩ (by kernel_rfl) rfl
    (fun f fn hf hfn => by
      obtain rfl : f = 8 := Option.some.inj ((show Tryz.prog.funcNamed "codicil/codicillaw02.JsonBack" = some 8 by kernel_rfl).symm.trans hf) |>.symm
      obtain rfl : fn = Tryz.f8 := (Option.some.inj (Tryz.func8.symm.trans hfn)).symm
      refine ⟨by kernel_rfl, fun j t ht => ?_⟩
      rw [Tryz.params8] at ht
      have hall : ∀ t ∈ [26, 9, 52], Tryz.prog.wantsStandIn t = false := by decide +kernel
      exact hall t (by rw [← List.mem_toArray]; exact Array.mem_of_getElem? ht))
    (by kernel_rfl)

end Go.Proofs.YtjffiignedbndaaGreatDoor.jsonBack
