/-
  THE FUNCTION VALUES that are operations on files; what a call of one does. CONTRACTS of undivided's function, of the makers of operations.
-/
import Derived.Test.YtlkgfimignlgaaaCDiskCut
set_option linter.unusedSimpArgs false
set_option linter.unusedVariables false
set_option linter.unusedVariables false
set_option linter.unusedSimpArgs false
namespace Go.Proofs.Ytlkgfimignlgaaa
open Go.RowKit
def ptr (b : Nat) : Value := .pointer (some ⟨b, 0, none⟩)
/-- a function value that undivided wraps -/
def InV (w : World) (fv : Value) : Op → Prop
  | .app _ _ => False
  | .cut s n => ∃ b1 b2, fv = .func (.func 60) #[] #[ptr b1, ptr b2] ∧ Cap w b1 9 (.string s) ∧ Cap w b2 3 (.int .i64 (n : Nat))
  | .ren s t => ∃ b1 b2, fv = .func (.func 62) #[] #[ptr b1, ptr b2] ∧ Cap w b1 9 (.string s) ∧ Cap w b2 9 (.string t)
  | .rem s => ∃ b1, fv = .func (.func 63) #[] #[ptr b1] ∧ Cap w b1 9 (.string s)
/-- .. that is an operation -/
def OpV (w : World) (fv : Value) : Op → Prop
  | .app s d => ∃ b1 b2, fv = .func (.func 57) #[] #[ptr b1, ptr b2] ∧ Cap w b1 9 (.string s) ∧ Cap w b2 9 (.string d)
  | op => ∃ c iv, fv = .func (.func 69) #[] #[ptr c] ∧ Cap w c 88 iv ∧ InV w iv op
/-- what an operation asks of the files -/
def okF (F : Fs) : Op → Prop
  | .app s d => s.size ≤ maxLen ∧ d.size ≤ 1000000000
  | .cut s n => s.size ≤ maxLen ∧ n ≤ (getF F s).length
  | .ren s t => s.size ≤ maxLen ∧ t.size ≤ maxLen
  | .rem s => s.size ≤ maxLen
/-- all is small -/
def smE (E : List En) : Prop := E.length ≤ 1000000000 ∧ ∀ s, (bytE E s).length ≤ 1000000000
theorem cap_foot {w : World} {mb b : Nat} {E : List En} {t : TypeId} {v : Value} (h : FM w mb E) (hc : Cap w b t v) (ht : t ≠ 5) : ¬ Foot mb E b := by
  rintro (rfl | ⟨x, hx, hxb⟩)
  · obtain ⟨es, clock, hb, _⟩ := h.map
    unfold Cap at hc
    rw [hb] at hc
    cases hc
  · rcases (h.rows x hx).2 with ⟨hn, _⟩ | ⟨g, cap, cur, hv, _, hg, _⟩
    · rw [hn] at hxb; cases hxb
    · rw [hv] at hxb
      cases hxb
      unfold Cap at hc
      rw [hg] at hc
      cases hc
      exact ht rfl
theorem cap_map {w : World} {mb b : Nat} {E : List En} {t : TypeId} {v : Value} (h : FM w mb E) (hc : Cap w b t v) : b ≠ mb := by
  rintro rfl
  obtain ⟨es, clock, hb, _⟩ := h.map
  unfold Cap at hc
  rw [hb] at hc
  cases hc
theorem do_app (mb : Nat) (E : List En) (s d : ByteArray) (b1 b2 k : Nat) (w : World) (h : FM w mb E) (h1 : Cap w b1 9 (.string s)) (h2 : Cap w b2 9 (.string d)) (hok : okF (datF E) (.app s d)) (hE : smE E) (hk : k ≤ 1000000000) :
    Calls Try.prog 57 #[.map (some mb), .int .i64 (k : Nat), ptr b1, ptr b2] w fun e w' => e = .returned (.tuple #[]) ∧ DoEnd w mb E (doF k (datF E) (.app s d)) w' :=
  apd_any mb E s d b1 b2 k w h h1 h2 hok.1 hok.2 hk (hE.2 s) hE.1 (cap_foot h h1 (by decide)) (cap_foot h h2 (by decide))
theorem do_none {w : World} {mb : Nat} {E : List En} (h : FM w mb E) : DoEnd w mb E (datF E) w := ⟨E, h, rfl, Turn.refl _ _, fun j hj => .inl hj⟩
theorem do_und (mb : Nat) (E : List En) (op : Op) (c : Nat) (iv : Value) (k : Nat) (w : World) (h : FM w mb E) (hc : Cap w c 88 iv) (hi : InV w iv op) (hok : okF (datF E) op) (hE : smE E) (hk : k ≤ 1000000000) :
    Calls Try.prog 69 #[.map (some mb), .int .i64 (k : Nat), ptr c] w fun e w' => e = .returned (.tuple #[]) ∧ DoEnd w mb E (doF k (datF E) op) w' := by
  have c0 := hc.cell
  unfold ptr
  by_cases hw : k = 16777217
  · subst hw
    cases op with
    | app s d => exact hi.elim
    | cut s n =>
      obtain ⟨b1, b2, rfl, h1, h2⟩ := hi
      have cC := cut_any mb E s n b1 b2 w h h1 h2 hok.1 (by have := hok.2; rw [dat_getF] at this; exact this) (hE.2 s) hE.1
      have e : doF 16777217 (datF E) (.cut s n) = putF (datF E) s ((getF (datF E) s).take n) := rfl
      rw [e]
      clear e
      unfold ptr at c0
      go_enter Try.func69, Try.ntmps69
      go_wp2_with (go_at_call 60; refine cC.mono ?_; rintro e w' ⟨rfl, hD⟩)
      exact bodyPost_end (results_none rfl _ _ _) rfl ⟨rfl, hD⟩
    | ren s t =>
      obtain ⟨b1, b2, rfl, h1, h2⟩ := hi
      have cC := ren_any mb E s t b1 b2 w h h1 h2 hok.1 hok.2 hE.1 (cap_map h h2)
      have e : doF 16777217 (datF E) (.ren s t) = putF (delF (datF E) s) t (getF (datF E) s) := rfl
      rw [e]
      clear e
      unfold ptr at c0
      go_enter Try.func69, Try.ntmps69
      go_wp2_with (go_at_call 62; refine cC.mono ?_; rintro e w' ⟨rfl, hD⟩)
      exact bodyPost_end (results_none rfl _ _ _) rfl ⟨rfl, hD⟩
    | rem s =>
      obtain ⟨b1, rfl, h1⟩ := hi
      have cC := rem_any mb E s b1 w h h1 hok
      have e : doF 16777217 (datF E) (.rem s) = delF (datF E) s := rfl
      rw [e]
      clear e
      unfold ptr at c0
      go_enter Try.func69, Try.ntmps69
      go_wp2_with (go_at_call 63; refine cC.mono ?_; rintro e w' ⟨rfl, hD⟩)
      exact bodyPost_end (results_none rfl _ _ _) rfl ⟨rfl, hD⟩
  · have e : doF k (datF E) op = datF E := by
      cases op with
      | app s d => exact hi.elim
      | cut s n => exact if_neg hw
      | ren s t => exact if_neg hw
      | rem s => exact if_neg hw
    rw [e]
    have hkb : ((k : Int) == 16777217) = false := beq_false_of_ne (by omega)
    go_enter Try.func69, Try.ntmps69
    go_wp2_with fail
    exact bodyPost_end (results_none rfl _ _ _) rfl ⟨rfl, do_none h⟩
/-! ### The makers -/
theorem Cap.new (w : World) (t : TypeId) (v : Value) : Cap (w.alloc (.cells #[v] t)) w.heap.size t v := heap_alloc_new w _
theorem Cap.alloc {w : World} {b : Nat} {t : TypeId} {v : Value} (h : Cap w b t v) (o : Obj) : Cap (w.alloc o) b t v := (Lib.alloc_old w o b (Array.getElem?_eq_some_iff.1 h).1).trans h
theorem mkApp_any (s d : ByteArray) (w : World) :
    Calls Try.prog 44 #[.string s, .string d] w fun e w' => ∃ fv, e = .returned fv ∧ OpV w' fv (.app s d) ∧ Below w.heap.size w w' := by
  have hmf : ∀ (fn : Fn) (first cap : Array Value) (w : World), (Instr.makeFunc fn first cap).run Try.prog w = .ok (.func fn first cap) w := fun _ _ _ _ => rfl
  have hc1 : Cap ((w.alloc (.cells #[.string s] 9)).alloc (.cells #[.string d] 9)) w.heap.size 9 (.string s) := (Cap.new w _ _).alloc _
  have hc2 : Cap ((w.alloc (.cells #[.string s] 9)).alloc (.cells #[.string d] 9)) (w.heap.size + 1) 9 (.string d) := by
    have := Cap.new (w.alloc (.cells #[.string s] 9)) 9 (.string d)
    rw [World.size_alloc] at this
    exact this
  have hb : Below w.heap.size w ((w.alloc (.cells #[.string s] 9)).alloc (.cells #[.string d] 9)) := ((Below.refl _ w).alloc (Nat.le_refl _) _).alloc (by simp) _
  go_enter Try.func44, Try.ntmps44
  go_wp2_with fail
  go_ret
  exact ⟨_, rfl, ⟨_, _, rfl, hc1, hc2⟩, hb⟩
theorem und_any (fn : Fn) (cs : Array Value) (w : World) :
    Calls Try.prog 59 #[.func fn #[] cs] w fun e w' => e = .returned (.func (.func 69) #[] #[ptr w.heap.size]) ∧ Cap w' w.heap.size 88 (.func fn #[] cs) ∧ Below w.heap.size w w' := by
  have hmf : ∀ (fn : Fn) (first cap : Array Value) (w : World), (Instr.makeFunc fn first cap).run Try.prog w = .ok (.func fn first cap) w := fun _ _ _ _ => rfl
  have hc := Cap.new w 88 (.func fn #[] cs)
  have hb : Below w.heap.size w (w.alloc (.cells #[.func fn #[] cs] 88)) := (Below.refl _ w).alloc (Nat.le_refl _) _
  go_enter Try.func59, Try.ntmps59
  go_wp2_with fail
  go_ret
  exact ⟨rfl, hc, hb⟩
theorem InV.below {w w' : World} {fv : Value} {op : Op} (h : InV w fv op) (hb : Below w.heap.size w w') : InV w' fv op := by
  cases op with
  | app s d => exact h.elim
  | cut s n => obtain ⟨b1, b2, e, h1, h2⟩ := h; exact ⟨b1, b2, e, h1.below hb, h2.below hb⟩
  | ren s t => obtain ⟨b1, b2, e, h1, h2⟩ := h; exact ⟨b1, b2, e, h1.below hb, h2.below hb⟩
  | rem s => obtain ⟨b1, e, h1⟩ := h; exact ⟨b1, e, h1.below hb⟩
theorem mkCut_any (s : ByteArray) (n : Nat) (w : World) :
    Calls Try.prog 46 #[.string s, .int .i64 (n : Nat)] w fun e w' => ∃ fv, e = .returned fv ∧ OpV w' fv (.cut s n) ∧ Below w.heap.size w w' := by
  have hmf : ∀ (fn : Fn) (first cap : Array Value) (w : World), (Instr.makeFunc fn first cap).run Try.prog w = .ok (.func fn first cap) w := fun _ _ _ _ => rfl
  have hc1 : Cap ((w.alloc (.cells #[.string s] 9)).alloc (.cells #[.int .i64 (n : Nat)] 3)) w.heap.size 9 (.string s) := (Cap.new w _ _).alloc _
  have hc2 : Cap ((w.alloc (.cells #[.string s] 9)).alloc (.cells #[.int .i64 (n : Nat)] 3)) (w.heap.size + 1) 3 (.int .i64 (n : Nat)) := by
    have := Cap.new (w.alloc (.cells #[.string s] 9)) 3 (.int .i64 (n : Nat))
    rw [World.size_alloc] at this
    exact this
  have hb : Below w.heap.size w ((w.alloc (.cells #[.string s] 9)).alloc (.cells #[.int .i64 (n : Nat)] 3)) := ((Below.refl _ w).alloc (Nat.le_refl _) _).alloc (by simp) _
  go_enter Try.func46, Try.ntmps46
  go_wp2_with (go_at_call 59; refine (und_any _ _ _).mono ?_; rintro e w1 ⟨rfl, hc, hb1⟩)
  rw [World.size_alloc, World.size_alloc] at hc
  go_ret
  exact ⟨_, rfl, ⟨_, _, rfl, hc, _, _, rfl, hc1.below hb1, hc2.below hb1⟩, hb.trans (hb1.mono hb.size)⟩
theorem mkRen_any (s t : ByteArray) (w : World) :
    Calls Try.prog 47 #[.string s, .string t] w fun e w' => ∃ fv, e = .returned fv ∧ OpV w' fv (.ren s t) ∧ Below w.heap.size w w' := by
  have hmf : ∀ (fn : Fn) (first cap : Array Value) (w : World), (Instr.makeFunc fn first cap).run Try.prog w = .ok (.func fn first cap) w := fun _ _ _ _ => rfl
  have hc1 : Cap ((w.alloc (.cells #[.string s] 9)).alloc (.cells #[.string t] 9)) w.heap.size 9 (.string s) := (Cap.new w _ _).alloc _
  have hc2 : Cap ((w.alloc (.cells #[.string s] 9)).alloc (.cells #[.string t] 9)) (w.heap.size + 1) 9 (.string t) := by
    have := Cap.new (w.alloc (.cells #[.string s] 9)) 9 (.string t)
    rw [World.size_alloc] at this
    exact this
  have hb : Below w.heap.size w ((w.alloc (.cells #[.string s] 9)).alloc (.cells #[.string t] 9)) := ((Below.refl _ w).alloc (Nat.le_refl _) _).alloc (by simp) _
  go_enter Try.func47, Try.ntmps47
  go_wp2_with (go_at_call 59; refine (und_any _ _ _).mono ?_; rintro e w1 ⟨rfl, hc, hb1⟩)
  rw [World.size_alloc, World.size_alloc] at hc
  go_ret
  exact ⟨_, rfl, ⟨_, _, rfl, hc, _, _, rfl, hc1.below hb1, hc2.below hb1⟩, hb.trans (hb1.mono hb.size)⟩
theorem mkRem_any (s : ByteArray) (w : World) :
    Calls Try.prog 48 #[.string s] w fun e w' => ∃ fv, e = .returned fv ∧ OpV w' fv (.rem s) ∧ Below w.heap.size w w' := by
  have hmf : ∀ (fn : Fn) (first cap : Array Value) (w : World), (Instr.makeFunc fn first cap).run Try.prog w = .ok (.func fn first cap) w := fun _ _ _ _ => rfl
  have hc1 := Cap.new w 9 (.string s)
  have hb : Below w.heap.size w (w.alloc (.cells #[.string s] 9)) := (Below.refl _ w).alloc (Nat.le_refl _) _
  go_enter Try.func48, Try.ntmps48
  go_wp2_with (go_at_call 59; refine (und_any _ _ _).mono ?_; rintro e w1 ⟨rfl, hc, hb1⟩)
  rw [World.size_alloc] at hc
  go_ret
  exact ⟨_, rfl, ⟨_, _, rfl, hc, _, rfl, hc1.below hb1⟩, hb.trans (hb1.mono hb.size)⟩
end Go.Proofs.Ytlkgfimignlgaaa
