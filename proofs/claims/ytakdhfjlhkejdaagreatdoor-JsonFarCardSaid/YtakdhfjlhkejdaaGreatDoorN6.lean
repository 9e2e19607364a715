/-
  TEXTS OF THE SEAT, put together: JsonObj2, JsonObj3, JsonValue, JsonWhole, JsonParse, JsonCopyN.
-/
import Derived.Test.YtakdhfjlhkejdaaGreatDoorN5
import Derived.Test.YtakdhfjlhkejdaaGreatDoorN1
import Derived.Recover
import Derived.Test.YtakdhfjlhkejdaaGreatDoorN4
set_option linter.unusedSimpArgs false
set_option linter.unusedVariables false

/-
  CONTRACTS of package json's parser: the closure by which an object takes a field.
-/
set_option linter.unusedVariables false
namespace Go.Proofs.YtakdhfjlhkejdaaGreatDoor
open Go.RowKit

theorem infoString : (Tryz.prog.info? 9).map (fun i => (i.zero, i.size, i.bytes)) = some (some (.string ⟨#[]⟩), 1, 16) := by kernel_rfl
/-- a field: its key, its value -/
def fieldP (m : Nat) (s : List UInt8) (a v o : Nat) (ks : List ByteArray) : Except Fail (List UInt8 × JV × Nat × Nat) := match keyP s a ks with
  | .error e => .error e
  | .ok (t, i1) => match byL s (skipL s i1) with
    | none => .error (skipL s i1, 21)
    | some d => if d ≠ 58 then .error (skipL s i1, 20) else match valP m s (skipL s i1 + 1) v o with
      | .error e => .error e
      | .ok (x, j, v') => .ok (t, x, j, v')
def FieldEnd (w0 : World) (pb pbx hb hm vb rv : Nat) (s : ByteArray) (ks : List ByteArray) (l : List JV) (o : Nat) (r : Except Fail (List UInt8 × JV × Nat × Nat)) (e : Ending) (w' : World) : Prop :=
  GB pb w0 w' ∧ match r with
  | .ok (t, x, j, v') => e = .returned (.tuple #[]) ∧ ∃ kp kc lp lc xs, ObjI w0 pb pbx hb hm vb rv s w' (ks ++ [⟨t.toArray⟩]) (ks ++ [⟨t.toArray⟩]) (l ++ [x]) (.slice kp (ks ++ [(⟨t.toArray⟩ : ByteArray)]).length kc) (.slice lp (l ++ [x]).length lc) xs j v' o
  | .error (i, k) => e = Pan i k
set_option maxRecDepth 10000000 in
set_option maxHeartbeats 8000000 in
theorem objItem_any (m : Nat) (w0 : World) (pb pbx hb hm vb rv : Nat) (s : ByteArray) (wI : World) (ks : List ByteArray) (l : List JV) (kp : Option Addr) (kc : Nat) (lp : Option Addr) (lc : Nat) (xs : List Value) (a v o : Nat)
    (h : ObjI w0 pb pbx hb hm vb rv s wI ks ks l (.slice kp ks.length kc) (.slice lp l.length lc) xs a v o) (hs : s.size ≤ 65536) (ha : a ≤ s.size)
    (hl1 : l.length + 1 ≤ maxLen) (hl2 : (l.length + 1) * 72 ≤ 140737488355328) (hk1 : ks.length + 1 ≤ 100000)
    (hval : ∀ w1 q, PS w1 pb s q v o → a < q → q ≤ s.size → Calls Tryz.prog 62 #[.pointer (some ⟨pb, 0, none⟩)] w1 (ValEnd pb s o w1 (valP m s.data.toList q v o))) :
    Calls Tryz.prog 122 #[.pointer (some ⟨pbx, 0, none⟩), .pointer (some ⟨hb, 0, none⟩), .pointer (some ⟨vb, 0, none⟩)] wI (FieldEnd w0 pb pbx hb hm vb rv s ks l o (fieldP m s.data.toList a v o ks)) := by
  have hs' : s.size ≤ maxLen := by unfold maxLen; omega
  have hx0 : wI.cell? ⟨pbx, 0, none⟩ = some (.pointer (some ⟨pb, 0, none⟩)) := by rw [Lib.cell_of_heap h.box]; rfl
  have hx1 : wI.cell? ⟨hb, 0, none⟩ = some (.map (some hm)) := by rw [Lib.cell_of_heap h.hbx]; rfl
  obtain ⟨t1, t2, t3, t4, t5, t6, t7⟩ := h.lts
  obtain ⟨p1, p2, p3, p4, p5, p6⟩ := h.lo
  have hsz : s.data.toList.length = s.size := (Lib.size_eq s).symm
  have hkf : ∀ t j, keyP s.data.toList a ks = .ok (t, j) → a < j ∧ j ≤ s.size := by
    intro t j hk
    unfold keyP at hk
    have hsk := skipL_le s.data.toList a
    split at hk
    · cases hk
    · split at hk
      · cases hk
      · split at hk
        · cases hk
        · rename_i t' i1 hq
          have := quotP_facts _ _ _ _ _ _ hq
          split at hk
          · cases hk
          · injection hk with hk
            injection hk with h1 h2
            omega
  have Hval := Lib.hid hval
  clear hval
  generalize hR : fieldP m s.data.toList a v o ks = R
  have HR : Hid ((match keyP s.data.toList a ks with
    | .error e => .error e
    | .ok (t, i1) => match byL s.data.toList (skipS s i1) with
      | none => .error (skipS s i1, 21)
      | some d => if d ≠ 58 then .error (skipS s i1, 20) else match valP m s.data.toList (skipS s i1 + 1) v o with
        | .error e => .error e
        | .ok (x, j, v') => .ok (t, x, j, v')) = R) := hR
  clear hR
  go_enter Tryz.func122, Tryz.ntmps122
  go_wp2_with fail
  refine (key_any pb hm ks s a v o wI (by omega) h.ps ha h.map (by unfold maxLen; omega) (by omega) t3).mono ?_
  rintro e w1 ⟨hkb, hr⟩
  generalize keyP s.data.toList a ks = KP at *
  cases KP with
  | error f =>
    obtain ⟨i, k⟩ := f
    simp only at hr
    subst hr
    unfold Pan
    have HR2 : Hid (Except.error (i, k) = R) := HR.out
    have hgE : GB pb w0 w1 := ⟨hkb.os.trans h.gb.os, hkb.tape.trans h.gb.tape, hkb.output.trans h.gb.output, Nat.le_trans h.gb.size hkb.size, fun x hx hne => (hkb.block x (Nat.lt_of_lt_of_le hx h.gb.size) (fun e => hne (by rw [e])) (by omega)).trans (h.gb.block x hx hne)⟩
    clear hkf
    go_wp2_with fail
    rw [← HR2.out]
    exact ⟨rfl, hgE, rfl⟩
  | ok tj =>
    obtain ⟨t, i1⟩ := tj
    obtain ⟨he, hp1, hm1⟩ := hr
    subst he
    obtain ⟨hj1, hj2⟩ := hkf t i1 rfl
    have h1 := h.keyed hkb hp1 hm1
    have HR1 : Hid ((match byL s.data.toList (skipS s i1) with
      | none => .error (skipS s i1, 21)
      | some d => if d ≠ 58 then .error (skipS s i1, 20) else match valP m s.data.toList (skipS s i1 + 1) v o with
        | .error e => .error e
        | .ok (x, j, v') => .ok (t, x, j, v')) = R) := HR.out
    clear HR hkf
    have hx1' : w1.cell? ⟨pbx, 0, none⟩ = some (.pointer (some ⟨pb, 0, none⟩)) := by rw [Lib.cell_of_heap h1.box]; rfl
    clear hx0 hx1
    have hqb := skip_le s i1 hj2
    generalize hT : ByteArray.mk t.toArray = T at *
    have HT := Lib.hid hT
    clear hT
    go_wp2_with fail
    by_cases hend : skipS s i1 = s.size
    · refine (pass_end 58 pb s i1 v o w1 hs' hp1 hj2 hend).mono ?_
      rintro e w2 ⟨rfl, hp2, hg2⟩
      unfold Pan
      have HR2 : Hid (Except.error (skipS s i1, 21) = R) := by
        have := HR1.out
        rw [byL_end (by rw [← Lib.size_eq]; omega)] at this
        exact this
      clear hend
      go_wp2_with fail
      rw [← HR2.out]
      exact ⟨rfl, h1.gb.trans hg2, rfl⟩
    · have hq : skipS s i1 < s.size := by omega
      obtain ⟨hb1, hb2⟩ := byS_val s (skipS s i1) hq
      rw [hb1] at HR1
      by_cases c58 : (s[skipS s i1]'hq) = 58
      · have HR2 : Hid ((match valP m s.data.toList (skipS s i1 + 1) v o with
          | .error e => .error e
          | .ok (x, j, v') => .ok (t, x, j, v')) = R) := by
          have := HR1.out
          simp only [c58, ne_eq, not_true_eq_false, if_false] at this
          exact this
        refine (pass_ok 58 pb s i1 v o w1 hs' hp1 hj2 hq (by rw [hb2, c58]; rfl)).mono ?_
        rintro e w2 ⟨rfl, hp2, hg2⟩
        have h2 := h1.below hg2 hp2
        clear hb1 hb2 c58 HR1 hend hx1'
        have hqa : a < skipS s i1 + 1 := by omega
        have hqs : skipS s i1 + 1 ≤ s.size := by omega
        generalize skipS s i1 + 1 = q at *
        obtain ⟨b0, b1, b2, b3⟩ := h2.rb.cells
        obtain ⟨z0, z1, z2, z3⟩ := h2.rb.frozen
        have hown2 := h2.ownk.alloc (Obj.cells #[Value.string T] 9)
        obtain ⟨i0, hi0, hz0, hz1, hz2⟩ := info_parts infoString
        have hsz2 : (w2.alloc (Obj.cells #[Value.string T] 9)).heap.size = w2.heap.size + 1 := by simp
        have hvb2 : vb < w2.heap.size := h2.rb.lt
        have hfk : some vb ≠ (Value.slice kp ks.length kc).ownBlock := fun e => (h2.far vb (.inr e)).1 rfl
        have hgs2 := h2.gb.size
        have a2 : (w2.alloc (Obj.cells #[Value.string T] 9)).cell? ⟨vb, 2, none⟩ = some (.slice kp ks.length kc) := (World.cell?_alloc_lt _ _ _ hvb2).trans b2
        have az : (w2.alloc (Obj.cells #[Value.string T] 9)).frozen? ⟨vb, 2, none⟩ = false := Lib.frozen_of_heap (h2.rb.alloc _) 2
        have hbl : Below w2.heap.size w2 (w2.alloc (Obj.cells #[Value.string T] 9)) := (Below.refl _ w2).alloc (Nat.le_refl _) _
        go_wp2_with (at_builtin; refine wpList_append_lies _ rfl _ _ _ rfl w0.heap.size 9 i0 _ 1 16 Tryz.underlying23 hi0 hz0 hz1 hz2 rfl (by omega) (.slice kp ks.length kc) ks.length (ks.map .string) rfl hown2 ⟨w2.heap.size, 0, none⟩ 1 1 [.string T] rfl rfl (World.news_of_block (cs := #[Value.string T]) (t := 9) (fr := (0, 0)) (heap_alloc_new w2 _)) (by simp [Value.oneCell']) (by omega) (by unfold maxLen; omega) (by omega) (by rw [hsz2]; omega) (w2.heap.size + 1) (by simp) ?_; intro g cap w3 hown3 hgrow hat hglt; have e2 := (hgrow.cell_far ⟨vb, 2, none⟩ (by rw [hsz2]; show vb < _; omega) hfk).trans a2; have y2 := (hgrow.frozen_far ⟨vb, 2, none⟩ (by rw [hsz2]; show vb < _; omega) hfk).trans az)
        have hO := h2.keys_end hbl hgrow (hat.imp id (fun e => by rw [hsz2]; exact e)) hown3 rfl
        have hO2 : ∃ kp2 kc2, ObjI w0 pb pbx hb hm vb rv s (w3.setCell ⟨vb, 2, none⟩ (.slice (some ⟨g, 0, none⟩) (ks.length + 1) cap)) (ks ++ [T]) (ks ++ [T]) l (.slice kp2 (ks ++ [T]).length kc2) (.slice lp l.length lc) xs q v o := ⟨_, _, hO⟩
        have Hv2 : Hid (∀ w1, PS w1 pb s q v o → Calls Tryz.prog 62 #[.pointer (some ⟨pb, 0, none⟩)] w1 (ValEnd pb s o w1 (valP m s.data.toList q v o))) := fun w1 hp => Hval.out w1 q hp hqa hqs
        clear hO h1 h2 hbl hgrow hat hglt hown3 e2 y2 a2 az hfk hown2 hg2 hp2 hp1 hm1 hkb b0 b1 b2 b3 z0 z1 z2 z3 hsz2 hvb2 hgs2 hi0 hz0 hz1 hz2 Hval h t1 t2 t3 t4 t5 t6 t7
        generalize w3.setCell ⟨vb, 2, none⟩ (.slice (some ⟨g, 0, none⟩) (ks.length + 1) cap) = w at *
        obtain ⟨kp2, kc2, h⟩ := hO2
        have Hval := Hv2
        clear Hv2
        generalize valP m s.data.toList q v o = r at *
        obtain ⟨_, _, _, r3⟩ := h.rb.cells
        have hx0 : w.cell? ⟨pbx, 0, none⟩ = some (.pointer (some ⟨pb, 0, none⟩)) := by rw [Lib.cell_of_heap h.box]; rfl
        have hfv : (Value.slice lp l.length lc).ownBlock ≠ some vb := fun e => (h.far vb (.inl e.symm)).1 rfl
        have hneL : (Value.slice lp l.length lc).ownBlock = none ∨ (Value.slice lp l.length lc).ownBlock ≠ some pb := .inr (fun e => by have := (h.own.lt pb e).1; omega)
        refine wp_region_any (by kernel_rfl) ?_
        change wpAny _ _ _ _ 11 _ _ (World.drew _)
        refine wpAny_of_G (k := 6) (S := fun w' => w'.cell? ⟨vb, 3, none⟩ = some (.slice lp l.length lc) ∧ w'.cell? ⟨pbx, 0, none⟩ = some (.pointer (some ⟨pb, 0, none⟩))) _ _ _ _ ?_
        have hS0 : w.drew.cell? ⟨vb, 3, none⟩ = some (.slice lp l.length lc) ∧ w.drew.cell? ⟨pbx, 0, none⟩ = some (.pointer (some ⟨pb, 0, none⟩)) := ⟨r3, hx0⟩
        refine wpAnyG_take (i := 0) (v := ?_) rfl (by kernel_rfl) (by kernel_rfl) (by kernel_rfl) (by kernel_rfl) (by kernel_rfl) (fun _ _ _ h => h) hS0 (Or.inl ⟨by rfl, ?_⟩) ?_
        rotate_left
        · intro w1 hw1
          obtain ⟨hw1a, hw1b⟩ := hw1
          go_simp
          try with_reducible rfl
        simp only [Act.put, List.setIfInBounds_toArray, List.set_cons_zero, List.set_cons_succ]
        refine wpAnyG_take (i := 1) (v := ?_) rfl (by kernel_rfl) (by kernel_rfl) (by kernel_rfl) (by kernel_rfl) (by kernel_rfl) (fun _ _ _ h => h) hS0 (Or.inl ⟨by rfl, ?_⟩) ?_
        rotate_left
        · intro w1 hw1
          obtain ⟨hw1a, hw1b⟩ := hw1
          go_simp
          try with_reducible rfl
        simp only [Act.put, List.setIfInBounds_toArray, List.set_cons_zero, List.set_cons_succ]
        refine wpAnyG_take (i := 2) (v := ?_) rfl (by kernel_rfl) (by kernel_rfl) (by kernel_rfl) (by kernel_rfl) (by kernel_rfl) (fun _ _ _ h => h) hS0 (Or.inl ⟨by rfl, ?_⟩) ?_
        rotate_left
        · intro w1 hw1
          obtain ⟨hw1a, hw1b⟩ := hw1
          go_simp
          try with_reducible rfl
        simp only [Act.put, List.setIfInBounds_toArray, List.set_cons_zero, List.set_cons_succ]
        refine wpAnyG_take (i := 4) (v := ?_) rfl (by kernel_rfl) (by kernel_rfl) (by kernel_rfl) (by kernel_rfl) (by kernel_rfl) (fun _ _ _ h => h) hS0 (Or.inl ⟨by rfl, ?_⟩) ?_
        rotate_left
        · intro w1 hw1
          obtain ⟨hw1a, hw1b⟩ := hw1
          go_simp
          try with_reducible rfl
        simp only [Act.put, List.setIfInBounds_toArray, List.set_cons_zero, List.set_cons_succ]
        refine wpAnyG_two (i := 3) (j := 5) (by kernel_rfl) rfl rfl (fun K hK => ?_) (fun K hK => ?_)
        · go_simp
          have hc : Below w.heap.size w w.drew := (Below.refl _ w).drew
          refine (Hval.out _ (h.ps.below hc)).mono ?_
          rintro e w1 ⟨hg1, hr⟩
          cases r with
          | error f =>
            obtain ⟨i, k⟩ := f
            simp only at hr
            subst hr
            unfold Pan
            have HR3 : Hid (Except.error (i, k) = R) := HR2.out
            rw [← HR3.out]
            exact ⟨rfl, h.gb.trans ((Below.gb hc pb).trans hg1), rfl⟩
          | ok t =>
            obtain ⟨x, j, v'⟩ := t
            obtain ⟨c0, c1, c2, c3, he, hV, hp1⟩ := hr
            subst he
            have hV0 := hV
            obtain ⟨k0, t0, ka, kl, kc, la, ll, lc', rfl, rfl, rfl, rfl⟩ := hV.shape
            have hrb1 : RB w1 vb (.int .u8 7) (.string ⟨#[]⟩) (.slice kp2 (ks ++ [T]).length kc2) (.slice lp l.length lc) := RB.gb (w := w.drew) h.rb hg1 (by have := h.lo; omega)
            have hS1 : w1.cell? ⟨vb, 3, none⟩ = some (.slice lp l.length lc) ∧ w1.cell? ⟨pbx, 0, none⟩ = some (.pointer (some ⟨pb, 0, none⟩)) := ⟨hg1.cell hS0.1 (by have := h.lo; simp; omega), hg1.cell hS0.2 (by have := h.lo; simp; omega)⟩
            simp only
            refine hK _ _ hS1 ?_
            clear hK K
            refine wpAnyG_one (i := 5) (by kernel_rfl) rfl (fun K hK => ?_)
            go_simp
            have hS2 : (w1.alloc (Obj.cells #[Value.int IntKind.u8 0, Value.string { data := #[] }, Value.slice none 0 0, Value.slice none 0 0] 26)).cell? ⟨vb, 3, none⟩ = some (.slice lp l.length lc) ∧ (w1.alloc (Obj.cells #[Value.int IntKind.u8 0, Value.string { data := #[] }, Value.slice none 0 0, Value.slice none 0 0] 26)).cell? ⟨pbx, 0, none⟩ = some (.pointer (some ⟨pb, 0, none⟩)) := ⟨(World.cell?_alloc_lt _ _ _ (cell_lt hS1.1)).trans hS1.1, (World.cell?_alloc_lt _ _ _ (cell_lt hS1.2)).trans hS1.2⟩
            refine hK _ _ hS2 ?_
            clear hK K
            have hown2 := ((h.own.kept (Below.gb hc pb) hneL).kept hg1 hneL).alloc (Obj.cells #[Value.int IntKind.u8 0, Value.string { data := #[] }, Value.slice none 0 0, Value.slice none 0 0] 26)
            have hB2 := heap_alloc_new w1 (Obj.cells #[Value.int IntKind.u8 0, Value.string { data := #[] }, Value.slice none 0 0, Value.slice none 0 0] 26)
            have h2 : Below w1.heap.size w1 (w1.alloc (Obj.cells #[Value.int IntKind.u8 0, Value.string { data := #[] }, Value.slice none 0 0, Value.slice none 0 0] 26)) := (Below.refl _ w1).alloc (Nat.le_refl _) _
            have hrb2 := hrb1.alloc (Obj.cells #[Value.int IntKind.u8 0, Value.string { data := #[] }, Value.slice none 0 0, Value.slice none 0 0] 26)
            generalize w1.alloc (Obj.cells #[Value.int IntKind.u8 0, Value.string { data := #[] }, Value.slice none 0 0, Value.slice none 0 0] 26) = w2 at *
            generalize w1.heap.size = nb at hB2 ⊢
            have hvl2 : vb < w2.heap.size := hrb2.lt
            obtain ⟨i0, hi0, hz0, hz1, hz2⟩ := info_parts infoValue
            have hbb : w0.heap.size ≤ w2.heap.size := by have := h.gb.size; have := hc.size; have := hg1.size; have := h2.size; omega
            refine wpAnyG_turn (k := 6) (by kernel_rfl) rfl (fun K hK => ?_)
            refine step_append_lies _ (by rfl) _ _ _ (by rfl) w0.heap.size 26 i0 _ 4 72 Tryz.underlying24 hi0 hz0 hz1 hz2 rfl (by omega) (.slice lp l.length lc) l.length xs (by rfl) hown2
              ⟨nb, 0, none⟩ 1 1 [.int .u8 0, .string ⟨#[]⟩, .slice none 0 0, .slice none 0 0] (by rfl) (by rfl) (World.news_of_block hB2) (by simp [Value.oneCell'])
              (by omega) hl1 hl2 hbb w2.heap.size rfl ?_
            intro g cap w3 hown3 hgrow hat hglt
            refine hK _ _ ?_
            clear hK K
            obtain ⟨q0, q1, q2, q3⟩ := own_cells4 h.own.1 hown3
            have u0 := hown3.frozenAt (l.length * 4)
            have u1 := hown3.frozenAt (l.length * 4 + 1)
            have u2 := hown3.frozenAt (l.length * 4 + 2)
            have u3 := hown3.frozenAt (l.length * 4 + 3)
            have hne2 : some vb ≠ (Value.slice lp l.length lc).ownBlock := fun e => hfv e.symm
            have hrb3 : RB w3 vb (.int .u8 7) (.string ⟨#[]⟩) (.slice kp2 (ks ++ [T]).length kc2) (.slice lp l.length lc) := (hgrow.block vb hvl2 hne2).trans hrb2
            obtain ⟨_, _, _, e3⟩ := hrb3.cells
            obtain ⟨_, _, _, y3⟩ := hrb3.frozen
            have hgv : g ≠ vb := by
              rcases hat with e | e
              · intro e2; rw [e2] at e; exact hfv e
              · omega
            have hvg : vb ≠ g := Ne.symm hgv
            have n0 : (0 : Int) ≤ (l.length : Int) := Int.natCast_nonneg _
            have n1 : (l.length : Int) < (l.length : Int) + 1 := by omega
            refine wpAny_take (i := 9) (v := ?_) rfl (by kernel_rfl) (by kernel_rfl) (by kernel_rfl) (fun _ _ _ h => h) (Or.inl ⟨by rfl, ?_⟩) ?_
            rotate_left
            · intro w1 
              go_simp
              try with_reducible rfl
            simp only [Act.put, List.setIfInBounds_toArray, List.set_cons_zero, List.set_cons_succ]
            refine wpAny_take (i := 7) (v := ?_) rfl (by kernel_rfl) (by kernel_rfl) (by kernel_rfl) (fun _ _ _ h => h) (Or.inl ⟨by rfl, ?_⟩) ?_
            rotate_left
            · intro w1 
              go_simp
              try with_reducible rfl
            simp only [Act.put, List.setIfInBounds_toArray, List.set_cons_zero, List.set_cons_succ]
            refine wpAny_two (i := 8) (j := 10) (by kernel_rfl) rfl rfl (fun K hK => ?_) (fun K hK => ?_)
            · go_simp
              refine hK _ _ ?_
              clear hK K
              refine wpAny_one (i := 10) (by kernel_rfl) rfl (fun K hK => ?_)
              go_simp
              refine hK _ _ ?_
              clear hK K
              refine wpAny_done (by kernel_rfl) ?_ _
              have hE := ObjI.vals_end h hc hg1 hV0 hp1 h2 hgrow hat (own_eq (own_set4 h.own.1 hown3 _ _ _ _) (Below.heap_setCell _ _ _ _ hgv)) (RB.set3 ((set4_heap w3 g _ _ _ _ _ _ _ _ vb hvg).trans hrb3) (.slice (some ⟨g, 0, none⟩) (l.length + 1) cap)) (fun k h1 h3 => (Below.heap_setCell _ _ _ _ h3).trans (set4_heap w3 g _ _ _ _ _ _ _ _ k h1)) (by simp only [set_size]) ⟨rfl, rfl, rfl⟩
              generalize World.setCell _ _ _ = w4 at *
              go_end0
              have HR3 : Hid (Except.ok (t, x, j, v') = R) := HR2.out
              rw [← HR3.out]
              obtain ⟨hE1, lp2, lc2, xs2, hE2⟩ := hE
              refine ⟨hE1, rfl, ?_⟩
              rw [HT.out]
              exact ⟨kp2, kc2, lp2, lc2, xs2, hE2⟩
            · go_simp
              refine hK _ _ ?_
              clear hK K
              refine wpAny_one (i := 8) (by kernel_rfl) rfl (fun K hK => ?_)
              go_simp
              refine hK _ _ ?_
              clear hK K
              refine wpAny_done (by kernel_rfl) ?_ _
              have hE := ObjI.vals_end h hc hg1 hV0 hp1 h2 hgrow hat (own_set4 h.own.1 (own_eq hown3 (Below.heap_setCell _ _ _ _ hgv)) _ _ _ _) ((set4_heap _ g _ _ _ _ _ _ _ _ vb hvg).trans (hrb3.set3 (.slice (some ⟨g, 0, none⟩) (l.length + 1) cap))) (fun k h1 h3 => (set4_heap _ g _ _ _ _ _ _ _ _ k h1).trans (Below.heap_setCell _ _ _ _ h3)) (by simp only [set_size]) ⟨rfl, rfl, rfl⟩
              generalize World.setCell _ _ _ = w4 at *
              go_end0
              have HR3 : Hid (Except.ok (t, x, j, v') = R) := HR2.out
              rw [← HR3.out]
              obtain ⟨hE1, lp2, lc2, xs2, hE2⟩ := hE
              refine ⟨hE1, rfl, ?_⟩
              rw [HT.out]
              exact ⟨kp2, kc2, lp2, lc2, xs2, hE2⟩
        · go_simp
          have hc : Below w.heap.size w (w.alloc (Obj.cells #[Value.int IntKind.u8 0, Value.string { data := #[] }, Value.slice none 0 0, Value.slice none 0 0] 26)).drew := ((Below.refl _ w).alloc (Nat.le_refl _) _).drew
          have hSa : (w.alloc (Obj.cells #[Value.int IntKind.u8 0, Value.string { data := #[] }, Value.slice none 0 0, Value.slice none 0 0] 26)).drew.cell? ⟨vb, 3, none⟩ = some (.slice lp l.length lc) ∧ (w.alloc (Obj.cells #[Value.int IntKind.u8 0, Value.string { data := #[] }, Value.slice none 0 0, Value.slice none 0 0] 26)).drew.cell? ⟨pbx, 0, none⟩ = some (.pointer (some ⟨pb, 0, none⟩)) := ⟨(World.cell?_alloc_lt _ _ _ (cell_lt r3)).trans r3, (World.cell?_alloc_lt _ _ _ (cell_lt hx0)).trans hx0⟩
          refine hK _ _ hSa ?_
          clear hK K
          have hown1 := h.own.kept (Below.gb hc pb) hneL
          have hrb0 : RB (w.alloc (Obj.cells #[Value.int IntKind.u8 0, Value.string { data := #[] }, Value.slice none 0 0, Value.slice none 0 0] 26)).drew vb (.int .u8 7) (.string ⟨#[]⟩) (.slice kp2 (ks ++ [T]).length kc2) (.slice lp l.length lc) := h.rb.below hc
          have hBa : (w.alloc (Obj.cells #[Value.int IntKind.u8 0, Value.string { data := #[] }, Value.slice none 0 0, Value.slice none 0 0] 26)).drew.heap[w.heap.size]? = some (Obj.cells #[Value.int IntKind.u8 0, Value.string { data := #[] }, Value.slice none 0 0, Value.slice none 0 0] 26) := heap_alloc_new w (Obj.cells #[Value.int IntKind.u8 0, Value.string { data := #[] }, Value.slice none 0 0, Value.slice none 0 0] 26)
          have hnl : w.heap.size < (w.alloc (Obj.cells #[Value.int IntKind.u8 0, Value.string { data := #[] }, Value.slice none 0 0, Value.slice none 0 0] 26)).drew.heap.size := (Array.getElem?_eq_some_iff.1 hBa).1
          generalize (w.alloc (Obj.cells #[Value.int IntKind.u8 0, Value.string { data := #[] }, Value.slice none 0 0, Value.slice none 0 0] 26)).drew = wc at *
          refine wpAnyG_one (i := 3) (by kernel_rfl) rfl (fun K hK => ?_)
          go_simp
          refine (Hval.out _ (h.ps.below hc)).mono ?_
          rintro e w1 ⟨hg1, hr⟩
          cases r with
          | error f =>
            obtain ⟨i, k⟩ := f
            simp only at hr
            subst hr
            unfold Pan
            have HR3 : Hid (Except.error (i, k) = R) := HR2.out
            rw [← HR3.out]
            exact ⟨rfl, h.gb.trans ((Below.gb hc pb).trans hg1), rfl⟩
          | ok t =>
            obtain ⟨x, j, v'⟩ := t
            obtain ⟨c0, c1, c2, c3, he, hV, hp1⟩ := hr
            subst he
            have hV0 := hV
            obtain ⟨k0, t0, ka, kl, kc, la, ll, lc', rfl, rfl, rfl, rfl⟩ := hV.shape
            have hrb2 : RB w1 vb (.int .u8 7) (.string ⟨#[]⟩) (.slice kp2 (ks ++ [T]).length kc2) (.slice lp l.length lc) := hrb0.gb hg1 (by have := h.lo; omega)
            have hS1 : w1.cell? ⟨vb, 3, none⟩ = some (.slice lp l.length lc) ∧ w1.cell? ⟨pbx, 0, none⟩ = some (.pointer (some ⟨pb, 0, none⟩)) := ⟨hg1.cell hSa.1 (by have := h.lo; simp; omega), hg1.cell hSa.2 (by have := h.lo; simp; omega)⟩
            simp only
            refine hK _ _ hS1 ?_
            clear hK K
            have hown2 := hown1.kept hg1 hneL
            have hB2 : w1.heap[w.heap.size]? = some (Obj.cells #[Value.int IntKind.u8 0, Value.string { data := #[] }, Value.slice none 0 0, Value.slice none 0 0] 26) := (hg1.block _ hnl (fun e => by injection e with e; have := h.lo; have := h.rb.lt; omega)).trans hBa
            have h2 : Below w1.heap.size w1 w1 := Below.refl _ w1
            generalize hw2 : w1 = w2 at hown2 hB2 hrb2 ⊢
            rw [hw2] at h2
            subst hw2
            generalize w.heap.size = nb at hB2 ⊢
            have hvl2 : vb < w1.heap.size := hrb2.lt
            obtain ⟨i0, hi0, hz0, hz1, hz2⟩ := info_parts infoValue
            have hbb : w0.heap.size ≤ w1.heap.size := by have := h.gb.size; have := hc.size; have := hg1.size; have := h2.size; omega
            refine wpAnyG_turn (k := 6) (by kernel_rfl) rfl (fun K hK => ?_)
            refine step_append_lies _ (by rfl) _ _ _ (by rfl) w0.heap.size 26 i0 _ 4 72 Tryz.underlying24 hi0 hz0 hz1 hz2 rfl (by omega) (.slice lp l.length lc) l.length xs (by rfl) hown2
              ⟨nb, 0, none⟩ 1 1 [.int .u8 0, .string ⟨#[]⟩, .slice none 0 0, .slice none 0 0] (by rfl) (by rfl) (World.news_of_block hB2) (by simp [Value.oneCell'])
              (by omega) hl1 hl2 hbb w1.heap.size rfl ?_
            intro g cap w3 hown3 hgrow hat hglt
            refine hK _ _ ?_
            clear hK K
            obtain ⟨q0, q1, q2, q3⟩ := own_cells4 h.own.1 hown3
            have u0 := hown3.frozenAt (l.length * 4)
            have u1 := hown3.frozenAt (l.length * 4 + 1)
            have u2 := hown3.frozenAt (l.length * 4 + 2)
            have u3 := hown3.frozenAt (l.length * 4 + 3)
            have hne2 : some vb ≠ (Value.slice lp l.length lc).ownBlock := fun e => hfv e.symm
            have hrb3 : RB w3 vb (.int .u8 7) (.string ⟨#[]⟩) (.slice kp2 (ks ++ [T]).length kc2) (.slice lp l.length lc) := (hgrow.block vb hvl2 hne2).trans hrb2
            obtain ⟨_, _, _, e3⟩ := hrb3.cells
            obtain ⟨_, _, _, y3⟩ := hrb3.frozen
            have hgv : g ≠ vb := by
              rcases hat with e | e
              · intro e2; rw [e2] at e; exact hfv e
              · omega
            have hvg : vb ≠ g := Ne.symm hgv
            have n0 : (0 : Int) ≤ (l.length : Int) := Int.natCast_nonneg _
            have n1 : (l.length : Int) < (l.length : Int) + 1 := by omega
            refine wpAny_take (i := 9) (v := ?_) rfl (by kernel_rfl) (by kernel_rfl) (by kernel_rfl) (fun _ _ _ h => h) (Or.inl ⟨by rfl, ?_⟩) ?_
            rotate_left
            · intro w1 
              go_simp
              try with_reducible rfl
            simp only [Act.put, List.setIfInBounds_toArray, List.set_cons_zero, List.set_cons_succ]
            refine wpAny_take (i := 7) (v := ?_) rfl (by kernel_rfl) (by kernel_rfl) (by kernel_rfl) (fun _ _ _ h => h) (Or.inl ⟨by rfl, ?_⟩) ?_
            rotate_left
            · intro w1 
              go_simp
              try with_reducible rfl
            simp only [Act.put, List.setIfInBounds_toArray, List.set_cons_zero, List.set_cons_succ]
            refine wpAny_two (i := 8) (j := 10) (by kernel_rfl) rfl rfl (fun K hK => ?_) (fun K hK => ?_)
            · go_simp
              refine hK _ _ ?_
              clear hK K
              refine wpAny_one (i := 10) (by kernel_rfl) rfl (fun K hK => ?_)
              go_simp
              refine hK _ _ ?_
              clear hK K
              refine wpAny_done (by kernel_rfl) ?_ _
              have hE := ObjI.vals_end h hc hg1 hV0 hp1 h2 hgrow hat (own_eq (own_set4 h.own.1 hown3 _ _ _ _) (Below.heap_setCell _ _ _ _ hgv)) (RB.set3 ((set4_heap w3 g _ _ _ _ _ _ _ _ vb hvg).trans hrb3) (.slice (some ⟨g, 0, none⟩) (l.length + 1) cap)) (fun k h1 h3 => (Below.heap_setCell _ _ _ _ h3).trans (set4_heap w3 g _ _ _ _ _ _ _ _ k h1)) (by simp only [set_size]) ⟨rfl, rfl, rfl⟩
              generalize World.setCell _ _ _ = w4 at *
              go_end0
              have HR3 : Hid (Except.ok (t, x, j, v') = R) := HR2.out
              rw [← HR3.out]
              obtain ⟨hE1, lp2, lc2, xs2, hE2⟩ := hE
              refine ⟨hE1, rfl, ?_⟩
              rw [HT.out]
              exact ⟨kp2, kc2, lp2, lc2, xs2, hE2⟩
            · go_simp
              refine hK _ _ ?_
              clear hK K
              refine wpAny_one (i := 8) (by kernel_rfl) rfl (fun K hK => ?_)
              go_simp
              refine hK _ _ ?_
              clear hK K
              refine wpAny_done (by kernel_rfl) ?_ _
              have hE := ObjI.vals_end h hc hg1 hV0 hp1 h2 hgrow hat (own_set4 h.own.1 (own_eq hown3 (Below.heap_setCell _ _ _ _ hgv)) _ _ _ _) ((set4_heap _ g _ _ _ _ _ _ _ _ vb hvg).trans (hrb3.set3 (.slice (some ⟨g, 0, none⟩) (l.length + 1) cap))) (fun k h1 h3 => (set4_heap _ g _ _ _ _ _ _ _ _ k h1).trans (Below.heap_setCell _ _ _ _ h3)) (by simp only [set_size]) ⟨rfl, rfl, rfl⟩
              generalize World.setCell _ _ _ = w4 at *
              go_end0
              have HR3 : Hid (Except.ok (t, x, j, v') = R) := HR2.out
              rw [← HR3.out]
              obtain ⟨hE1, lp2, lc2, xs2, hE2⟩ := hE
              refine ⟨hE1, rfl, ?_⟩
              rw [HT.out]
              exact ⟨kp2, kc2, lp2, lc2, xs2, hE2⟩
      · have HR2 : Hid (Except.error (skipS s i1, 20) = R) := by
          have := HR1.out
          simp only [c58, ne_eq, not_false_eq_true, if_true] at this
          exact this
        have hby : ((byS s (skipS s i1) : Nat) : Int) ≠ 58 := by
          rw [hb2]
          intro h
          apply c58
          apply UInt8.toNat_inj.1
          have : (58 : UInt8).toNat = 58 := rfl
          omega
        refine (pass_bad 58 pb s i1 v o w1 hs' hp1 hj2 hq hby).mono ?_
        rintro e w2 ⟨rfl, hp2, hg2⟩
        unfold Pan
        clear hb1 hb2 c58 HR1 hend hby
        go_wp2_with fail
        rw [← HR2.out]
        exact ⟨rfl, h1.gb.trans hg2, rfl⟩
end Go.Proofs.YtakdhfjlhkejdaaGreatDoor

/-
  CONTRACTS of package json's parser: object.
-/
set_option linter.unusedVariables false
namespace Go.Proofs.YtakdhfjlhkejdaaGreatDoor
open Go.RowKit

abbrev OSt := List ByteArray × List JV × Nat × Nat
def stepO (s : List UInt8) (o n : Nat) (g : OSt) : Except Fail OSt := match fieldP n s g.2.2.1 g.2.2.2 o g.1 with
  | .error e => .error e
  | .ok (t, x, j, v') => .ok (g.1 ++ [⟨t.toArray⟩], g.2.1 ++ [x], j, v')
def posO (g : OSt) : Nat := g.2.2.1
def valsO (g : OSt) : Nat := g.2.2.2
def mvO (g : OSt) (q : Nat) : OSt := (g.1, g.2.1, q, g.2.2.2)
theorem fields_go (s : List UInt8) (o : Nat) : ∀ (n i v : Nat) (ks : List ByteArray) (acc : List JV), fieldsP n s i v o ks acc = goB (stepO s o) posO mvO 125 s n (ks, acc, i, v)
  | 0, _, _, _, _ => by unfold fieldsP goB; rfl
  | n + 1, i, v, ks, acc => by
    unfold fieldsP goB stepO fieldP keyP afterB
    simp only [posO, mvO]
    cases byL s (skipL s i) with
    | none => rfl
    | some c =>
      simp only
      by_cases hc : c = 34
      · simp only [hc, ne_eq, not_true_eq_false, if_false]
        cases quotP (s.length + 1) s (skipL s i + 1) [] with
        | error e => rfl
        | ok tj =>
          obtain ⟨t, i1⟩ := tj
          simp only
          cases hasK ks ⟨t.toArray⟩ with
          | true => rfl
          | false =>
            simp only [Bool.false_eq_true, if_false]
            cases byL s (skipL s i1) with
            | none => rfl
            | some d =>
              simp only
              by_cases hd : d = 58
              · simp only [hd, ne_eq, not_true_eq_false, if_false]
                cases valP n s (skipL s i1 + 1) v o with
                | error e => rfl
                | ok t3 =>
                  obtain ⟨x, j, v'⟩ := t3
                  simp only
                  cases byL s (skipL s j) with
                  | none => rfl
                  | some e =>
                    simp only
                    split
                    · exact fields_go s o n _ _ _ _
                    · rfl
              · simp only [hd, ne_eq, not_false_eq_true, if_true]
      · simp only [hc, ne_eq, not_false_eq_true, if_true]
def objP (n : Nat) (s : List UInt8) (a v o : Nat) : Except Fail (JV × Nat × Nat) := match betB (stepO s (o + 1)) posO mvO 125 s n a o (fun q => ([], [], q, v)) with
  | .error e => .error e
  | .ok g => .ok (.mk 7 noText g.1 g.2.1, g.2.2.1, g.2.2.2)
theorem fieldP_facts (m : Nat) (s : List UInt8) (a v o : Nat) (ks : List ByteArray) (t : List UInt8) (x : JV) (j v' : Nat) (h : fieldP m s a v o ks = .ok (t, x, j, v')) : a < j ∧ j ≤ s.length ∧ (v ≤ 4096 → v' ≤ 4096) := by
  unfold fieldP keyP at h
  have hsk := skipL_le s a
  cases hb : byL s (skipL s a) with
  | none => rw [hb] at h; cases h
  | some c =>
    rw [hb] at h
    simp only at h
    by_cases hc : c = 34
    · simp only [hc, ne_eq, not_true_eq_false, if_false] at h
      cases hq : quotP (s.length + 1) s (skipL s a + 1) [] with
      | error e => rw [hq] at h; cases h
      | ok tj =>
        obtain ⟨t', i1⟩ := tj
        have hq' := quotP_facts _ _ _ _ _ _ hq
        rw [hq] at h
        simp only at h
        cases hh : hasK ks ⟨t'.toArray⟩ with
        | true => rw [hh] at h; cases h
        | false =>
          rw [hh] at h
          simp only [Bool.false_eq_true, if_false] at h
          have hs1 := skipL_le s i1
          cases hd : byL s (skipL s i1) with
          | none => rw [hd] at h; cases h
          | some d =>
            rw [hd] at h
            simp only at h
            split at h
            · cases h
            · cases hv : valP m s (skipL s i1 + 1) v o with
              | error e => rw [hv] at h; cases h
              | ok t3 =>
                obtain ⟨x', j', v2⟩ := t3
                have hf := (valP_facts m).1 s _ v o x' j' v2 hv
                rw [hv] at h
                injection h with h
                injection h with h1 h2
                injection h2 with h2 h3
                injection h3 with h3 h4
                omega
    · simp only [hc, ne_eq, not_false_eq_true, if_true] at h
      cases h
/-- between two fields of an object, as between's state -/
def ObjS (w0 : World) (pb pbx hb hm vb rv : Nat) (s : ByteArray) (o : Nat) (w : World) (g : OSt) : Prop :=
  (∃ kp kc lp lc xs, ObjI w0 pb pbx hb hm vb rv s w g.1 g.1 g.2.1 (.slice kp g.1.length kc) (.slice lp g.2.1.length lc) xs g.2.2.1 g.2.2.2 o) ∧ g.1.length ≤ g.2.2.1 ∧ g.2.1.length ≤ g.2.2.1 ∧ g.2.2.2 ≤ 4096

theorem obj_item (n : Nat) (hIH : ∀ m, m < n → ValOK m) (w0 : World) (pb pbx hb hm vb rv : Nat) (s : ByteArray) (o : Nat) (hs : s.size ≤ 65536) (ho : o + 1 ≤ 48) (m : Nat) (w : World) (g : OSt) (hmn : m < n)
    (hI : ObjS w0 pb pbx hb hm vb rv s (o + 1) w g) (hpos : posO g ≤ s.size) (hf : 2 * (s.size - posO g) + 2 ≤ m) :
    (∀ g', stepO s.data.toList (o + 1) m g = .ok g' → posO g < posO g' ∧ posO g' ≤ s.size) ∧
      Calls Tryz.prog 122 #[.pointer (some ⟨pbx, 0, none⟩), .pointer (some ⟨hb, 0, none⟩), .pointer (some ⟨vb, 0, none⟩)] w (StepEnd pb w0 (ObjS w0 pb pbx hb hm vb rv s (o + 1)) (stepO s.data.toList (o + 1) m g)) := by
  obtain ⟨ks, l, a, v⟩ := g
  obtain ⟨⟨kp, kc, lp, lc, xs, hA⟩, hlen1, hlen2, hv⟩ := hI
  simp only [posO] at *
  have hfact := fun t x j v' h => fieldP_facts m s.data.toList a v (o + 1) ks t x j v' h
  have hsz : s.data.toList.length = s.size := (Lib.size_eq s).symm
  constructor
  · intro g' hg'
    unfold stepO at hg'
    simp only at hg'
    cases hr : fieldP m s.data.toList a v (o + 1) ks with
    | error e => rw [hr] at hg'; cases hg'
    | ok t =>
      obtain ⟨t, x, j, v'⟩ := t
      rw [hr] at hg'
      injection hg' with hg'
      subst hg'
      have := hfact t x j v' hr
      simp only
      omega
  · refine (objItem_any m w0 pb pbx hb hm vb rv s w ks l kp kc lp lc xs a v (o + 1) hA hs hpos (by unfold maxLen; omega) (by omega) (by omega) (fun w1 q hp1 hq1 hq2 => hIH m hmn pb s q v (o + 1) w1 hs hp1 hq2 hv ho (by omega))).mono ?_
    rintro e w' ⟨hg, hr⟩
    refine ⟨hg, ?_⟩
    unfold stepO
    simp only
    cases hc : fieldP m s.data.toList a v (o + 1) ks with
    | error f => rw [hc] at hr; exact hr
    | ok t =>
      obtain ⟨t, x, j, v'⟩ := t
      rw [hc] at hr
      have := hfact t x j v' hc
      refine ⟨hr.1, hr.2, ?_, ?_, this.2.2 hv⟩
      · simp only [List.length_append, List.length_cons, List.length_nil]
        omega
      · simp only [List.length_append, List.length_cons, List.length_nil]
        omega
set_option maxRecDepth 10000000 in
set_option maxHeartbeats 8000000 in
theorem object_any (n : Nat) (hIH : ∀ m, m < n → ValOK m) (pb : Nat) (s : ByteArray) (a v o : Nat) (w : World) (hs : s.size ≤ 65536) (hp : PS w pb s a v o) (ha : a < s.size) (hv : v ≤ 4096) (ho : o ≤ 48) (hn : 2 * (s.size - a) + 1 ≤ n) :
    Calls Tryz.prog 97 #[.pointer (some ⟨pb, 0, none⟩)] w (ValEnd pb s o w (objP n s.data.toList a v o)) := by
  have hlt := hp.lt
  have HIH := Lib.hid hIH
  clear hIH
  generalize hR0 : objP n s.data.toList a v o = R0
  have HR0 := Lib.hid hR0
  clear hR0
  have hmm := @run_makeMap Tryz.prog
  go_enter Tryz.func97, Tryz.ntmps97
  go_wp2_with fail
  have hb1 := heap_alloc_new w (Obj.cells #[Value.pointer (some { block := pb, off := 0 })] 89)
  have hs1 : (w.alloc (Obj.cells #[Value.pointer (some { block := pb, off := 0 })] 89)).heap.size = w.heap.size + 1 := by simp
  have hp1 := hp.alloc (Obj.cells #[Value.pointer (some { block := pb, off := 0 })] 89)
  have hg1 := (GB.refl pb w).alloc (Obj.cells #[Value.pointer (some { block := pb, off := 0 })] 89)
  generalize w.alloc (Obj.cells #[Value.pointer (some { block := pb, off := 0 })] 89) = w1 at *
  have hb2 := (Lib.alloc_old w1 (Obj.cells #[Value.int IntKind.u8 0, Value.string { data := #[] }, Value.slice none 0 0, Value.slice none 0 0] 26) w.heap.size (by omega)).trans hb1
  have hr2 := RB.new w1 (.int .u8 0) (.string ⟨#[]⟩) (.slice none 0 0) (.slice none 0 0)
  rw [hs1] at hr2
  have hp2 := hp1.alloc (Obj.cells #[Value.int IntKind.u8 0, Value.string { data := #[] }, Value.slice none 0 0, Value.slice none 0 0] 26)
  have hg2 := hg1.alloc (Obj.cells #[Value.int IntKind.u8 0, Value.string { data := #[] }, Value.slice none 0 0, Value.slice none 0 0] 26)
  have hs2 : (w1.alloc (Obj.cells #[Value.int IntKind.u8 0, Value.string { data := #[] }, Value.slice none 0 0, Value.slice none 0 0] 26)).heap.size = w.heap.size + 1 + 1 := by simp [hs1]
  generalize w1.alloc (Obj.cells #[Value.int IntKind.u8 0, Value.string { data := #[] }, Value.slice none 0 0, Value.slice none 0 0] 26) = w2 at *
  have hb3 := (Lib.alloc_old w2 (Obj.cells #[Value.int IntKind.u8 7, Value.string { data := #[] }, Value.slice none 0 0, Value.slice none 0 0] 26) w.heap.size (by omega)).trans hb2
  have hr3 := hr2.alloc (Obj.cells #[Value.int IntKind.u8 7, Value.string { data := #[] }, Value.slice none 0 0, Value.slice none 0 0] 26)
  have hv3 := RB.new w2 (.int .u8 7) (.string ⟨#[]⟩) (.slice none 0 0) (.slice none 0 0)
  rw [hs2] at hv3
  have hp3 := hp2.alloc (Obj.cells #[Value.int IntKind.u8 7, Value.string { data := #[] }, Value.slice none 0 0, Value.slice none 0 0] 26)
  have hg3 := hg2.alloc (Obj.cells #[Value.int IntKind.u8 7, Value.string { data := #[] }, Value.slice none 0 0, Value.slice none 0 0] 26)
  have hs3 : (w2.alloc (Obj.cells #[Value.int IntKind.u8 7, Value.string { data := #[] }, Value.slice none 0 0, Value.slice none 0 0] 26)).heap.size = w.heap.size + 1 + 1 + 1 := by simp [hs2]
  generalize w2.alloc (Obj.cells #[Value.int IntKind.u8 7, Value.string { data := #[] }, Value.slice none 0 0, Value.slice none 0 0] 26) = w3 at *
  have hb4 := (Lib.alloc_old w3 (Obj.map #[] 0) w.heap.size (by omega)).trans hb3
  have hr4 := hr3.alloc (Obj.map #[] 0)
  have hv4 := hv3.alloc (Obj.map #[] 0)
  have hm4 := ownsK_made w3
  rw [hs3] at hm4
  have hp4 := hp3.alloc (Obj.map #[] 0)
  have hg4 := hg3.alloc (Obj.map #[] 0)
  have hs4 : (w3.alloc (Obj.map #[] 0)).heap.size = w.heap.size + 1 + 1 + 1 + 1 := by simp [hs3]
  generalize w3.alloc (Obj.map #[] 0) = w4 at *
  have hb5 := (Lib.alloc_old w4 (Obj.cells #[Value.map (some (w.heap.size + 1 + 1 + 1))] 122) w.heap.size (by omega)).trans hb4
  have hr5 := hr4.alloc (Obj.cells #[Value.map (some (w.heap.size + 1 + 1 + 1))] 122)
  have hv5 := hv4.alloc (Obj.cells #[Value.map (some (w.heap.size + 1 + 1 + 1))] 122)
  have hm5 := hm4.of_heap (Lib.alloc_old w4 (Obj.cells #[Value.map (some (w.heap.size + 1 + 1 + 1))] 122) (w.heap.size + 1 + 1 + 1) (by omega))
  have hh5 := heap_alloc_new w4 (Obj.cells #[Value.map (some (w.heap.size + 1 + 1 + 1))] 122)
  rw [hs4] at hh5
  have hp5 := hp4.alloc (Obj.cells #[Value.map (some (w.heap.size + 1 + 1 + 1))] 122)
  have hg5 := hg4.alloc (Obj.cells #[Value.map (some (w.heap.size + 1 + 1 + 1))] 122)
  generalize w4.alloc (Obj.cells #[Value.map (some (w.heap.size + 1 + 1 + 1))] 122) = w5 at *
  have hA0 : ObjI w pb w.heap.size (w.heap.size + 1 + 1 + 1 + 1) (w.heap.size + 1 + 1 + 1) (w.heap.size + 1 + 1) (w.heap.size + 1) s w5 [] [] [] (.slice none 0 0) (.slice none 0 0) [] a v o :=
    ⟨hp5, hb5, hh5, hm5, hv5, hr5, World.ownsRow_nil _ _ _ _, World.ownsRow_nil _ _ _ _, fun k e => by simp [Value.ownBlock] at e, fun k e => by simp [Value.ownBlock] at e, ItemsOK.nil _ _, hg5, by omega, by omega⟩
  clear hb1 hb2 hb3 hb4 hb5 hr2 hr3 hr4 hr5 hv3 hv4 hv5 hm4 hm5 hh5 hp1 hp2 hp3 hp4 hg1 hg2 hg3 hg4 hs1 hs2 hs3 hs4
  refine (between_obj (stepO s.data.toList (o + 1)) posO valsO mvO n w w.heap.size (w.heap.size + 1 + 1 + 1 + 1) (w.heap.size + 1 + 1) pb s o (by omega) (ObjS w pb w.heap.size (w.heap.size + 1 + 1 + 1 + 1) (w.heap.size + 1 + 1 + 1) (w.heap.size + 1 + 1) (w.heap.size + 1) s)
    (fun o w' g h => by obtain ⟨⟨_, _, _, _, _, h⟩, _⟩ := h; exact h.ps) (fun o w' g h => by obtain ⟨⟨_, _, _, _, _, h⟩, _⟩ := h; exact h.gb)
    (fun o o' w w' g q h hg hq hp' => by obtain ⟨⟨kp, kc, lp, lc, xs, h⟩, hl1, hl2, hv⟩ := h; unfold posO at hq; exact ⟨⟨kp, kc, lp, lc, xs, h.below hg hp'⟩, Nat.le_trans hl1 hq, Nat.le_trans hl2 hq, hv⟩) (fun g q => ⟨rfl, rfl⟩)
    (fun h48 m w' g hm hI hq hf => obj_item n HIH.out w pb w.heap.size (w.heap.size + 1 + 1 + 1 + 1) (w.heap.size + 1 + 1 + 1) (w.heap.size + 1 + 1) (w.heap.size + 1) s o hs (by omega) m w' g hm hI hq hf)
    (fun q => ([], [], q, v)) w5 a v hp5 ha ho hg5 (fun o' w' q hg hp' => ⟨⟨none, 0, none, 0, [], hA0.below hg hp'⟩, Nat.zero_le _, Nat.zero_le _, hv⟩) (fun q => ⟨rfl, rfl⟩) hn).mono ?_
  rintro e w6 ⟨hg6, hr⟩
  have HR1 : Hid ((match betB (stepO s.data.toList (o + 1)) posO mvO 125 s.data.toList n a o (fun q => ([], [], q, v)) with
    | .error e => .error e
    | .ok g => .ok (.mk 7 noText g.1 g.2.1, g.2.2.1, g.2.2.2)) = R0) := HR0.out
  clear HR0
  generalize betB (stepO s.data.toList (o + 1)) posO mvO 125 s.data.toList n a o (fun q => ([], [], q, v)) = R at *
  cases R with
  | error f =>
    obtain ⟨i, k⟩ := f
    simp only at hr
    subst hr
    unfold Pan
    have HR2 : Hid (Except.error (i, k) = R0) := HR1.out
    go_wp2_with fail
    rw [← HR2.out]
    exact ⟨rfl, hg6, rfl⟩
  | ok g =>
    obtain ⟨ks, l, j, v'⟩ := g
    obtain ⟨he, ⟨kp, kc, lp, lc, xs, hA⟩, _, _, _⟩ := hr
    subst he
    obtain ⟨b0, b1, b2, b3⟩ := hA.rb.cells
    obtain ⟨d0, d1, d2, d3⟩ := hA.res.cells
    obtain ⟨z0, z1, z2, z3⟩ := hA.res.frozen
    simp only at b2 b3
    have HR2 : Hid (Except.ok (.mk 7 noText ks l, j, v') = R0) := HR1.out
    clear hmm
    go_wp2_with fail
    rw [← HR2.out]
    refine bodyPost_ret (v := .agg #[.int .u8 7, .string ⟨#[]⟩, .slice kp ks.length kc, .slice lp l.length lc]) ?_ rfl ⟨hg6.set4 (by omega) _ _ _ _, _, _, _, _, rfl, ?_, hA.ps.set4 (by omega) _ _ _ _⟩
    · simp [results, Tryz.results97, go_sem, d0, d1, d2, d3]
    · have hrow : ∀ k, k ≠ w.heap.size + 1 → _ := fun k hk => set4_heap w6 (w.heap.size + 1) 0 1 2 3 (.int .u8 7) (.string ⟨#[]⟩) (.slice kp ks.length kc) (.slice lp l.length lc) k hk
      simp only [IsV]
      refine ⟨rfl, rfl, ⟨kp, kc, rfl, ?_⟩, lp, lc, rfl, ?_⟩
      · rcases hA.ownk.2 with ⟨e1, e2⟩ | ⟨g, cap, cur, e1, hlo, hrest⟩
        · exact .inl (List.eq_nil_of_length_eq_zero e2)
        · right
          have hfar := fun k e => hA.far k (.inr e)
          rw [e1] at hfar
          injection e1 with e1 e2 e3
          refine ⟨g, 0, e1, hlo, ?_⟩
          have hgr : g ≠ w.heap.size + 1 := (hfar g rfl).2.2.1
          intro y hy
          have := (hA.ownk.cells (g := g) (by rw [e1]; rfl)) y (.string (ks.getD y ByteArray.empty)) (by rw [List.getElem?_map, List.getD_eq_getElem?_getD, List.getElem?_eq_getElem hy]; rfl)
          have hadd : (⟨g, 0, none⟩ : Addr).add y = ⟨g, y, none⟩ := by unfold Addr.add; split <;> simp_all
          rw [hadd] at this
          rw [Nat.zero_add, World.cell?_of_block (hrow _ hgr)]
          exact this
      · rcases hA.own.2 with ⟨e1, e2⟩ | ⟨g, cap, cur, e1, hlo, hrest⟩
        · exact .inl (List.eq_nil_of_length_eq_zero e2)
        · right
          have hfar := fun k e => hA.far k (.inl e)
          rw [e1] at hfar
          injection e1 with e1 e2 e3
          refine ⟨g, 0, e1, hlo, ?_⟩
          have hgr : g ≠ w.heap.size + 1 := (hfar g rfl).2.2.1
          refine (hA.items.stays (w' := _) ?_).row l xs 0 ?_
          · intro y c hl hy
            rw [hide_cell] at hy
            split at hy
            · cases hy
            · rename_i hn
              have hn2 := hidO_false (by simpa using hn)
              rw [World.cell?_of_block (hrow _ hn2.2.1)]
              exact hy
          · intro y u hu
            have := (hA.own.cells (g := g) (by rw [e1]; rfl)) y u hu
            have hadd : (⟨g, 0, none⟩ : Addr).add y = ⟨g, y, none⟩ := by unfold Addr.add; split <;> simp_all
            rw [hadd] at this
            rw [Nat.zero_add, World.cell?_of_block (hrow _ hgr)]
            exact this
end Go.Proofs.YtakdhfjlhkejdaaGreatDoor

/-
  CONTRACTS of package json's parser: value: all that a value may be.
-/
set_option linter.unusedVariables false
namespace Go.Proofs.YtakdhfjlhkejdaaGreatDoor
open Go.RowKit

theorem val_arr (n : Nat) (s : List UInt8) (a v o : Nat) : (if o = 48 then .error (a, 26)
        else match byL s (skipL s (a + 1)) with
          | none => .error (skipL s (a + 1), 21)
          | some d =>
            if d = 93 then .ok (.mk 6 noText [] [], skipL s (a + 1) + 1, v)
            else match itemsP n s (skipL s (a + 1)) v (o + 1) [] with
              | .error e => .error e
              | .ok (l, j, v') => .ok (.mk 6 noText [] l, j, v')) = arrP n s a v o := by
  unfold arrP betB
  by_cases h : o = 48
  · simp only [h, if_true]
  · simp only [h, if_false]
    cases byL s (skipL s (a + 1)) with
    | none => rfl
    | some d =>
      simp only
      by_cases hd : d = 93
      · simp only [hd, if_true]
      · simp only [hd, if_false]
        rw [items_go]
        cases goB (stepA s (o + 1)) posA mvA 93 s n ([], skipL s (a + 1), v) <;> rfl
theorem val_obj (n : Nat) (s : List UInt8) (a v o : Nat) : (if o = 48 then .error (a, 26)
        else match byL s (skipL s (a + 1)) with
          | none => .error (skipL s (a + 1), 21)
          | some d =>
            if d = 125 then .ok (.mk 7 noText [] [], skipL s (a + 1) + 1, v)
            else match fieldsP n s (skipL s (a + 1)) v (o + 1) [] [] with
              | .error e => .error e
              | .ok (ks, l, j, v') => .ok (.mk 7 noText ks l, j, v')) = objP n s a v o := by
  unfold objP betB
  by_cases h : o = 48
  · simp only [h, if_true]
  · simp only [h, if_false]
    cases byL s (skipL s (a + 1)) with
    | none => rfl
    | some d =>
      simp only
      by_cases hd : d = 125
      · simp only [hd, if_true]
      · simp only [hd, if_false]
        rw [fields_go]
        cases goB (stepO s (o + 1)) posO mvO 125 s n ([], [], skipL s (a + 1), v) <;> rfl
theorem piece_mk (s : ByteArray) (q n : Nat) : (⟨((s.data.toList.drop q).take n).toArray⟩ : ByteArray) = pieceS s q n := by
  rw [← piece_data]
theorem valP_go (n : Nat) (s : ByteArray) (a v o : Nat) : valP (n + 1) s.data.toList a v o = match byL s.data.toList (skipS s a) with
    | none => .error (skipS s a, 21)
    | some c =>
      if v = 4096 then .error (skipS s a, 27)
      else if c = 45 ∨ pDigit (c.toNat : Nat) = true then
        if numS (pieceS s (skipS s a) (spanL pNum (s.data.toList.drop (skipS s a)))) = true then .ok (.mk 4 (pieceS s (skipS s a) (spanL pNum (s.data.toList.drop (skipS s a)))) [] [], skipS s a + spanL pNum (s.data.toList.drop (skipS s a)), v + 1)
        else .error (skipS s a, 22)
      else if pLetter (c.toNat : Nat) = true then match wordS (pieceS s (skipS s a) (spanL pLetter (s.data.toList.drop (skipS s a)))) with
        | some k => .ok (.mk k noText [] [], skipS s a + spanL pLetter (s.data.toList.drop (skipS s a)), v + 1)
        | none => .error (skipS s a, 20)
      else if c = 91 then arrP n s.data.toList (skipS s a) (v + 1) o
      else if c = 123 then objP n s.data.toList (skipS s a) (v + 1) o
      else if c = 34 then match quotP (s.size + 1) s.data.toList (skipS s a + 1) [] with
        | .error e => .error e
        | .ok (t, j) => .ok (.mk 5 ⟨t.toArray⟩ [] [], j, v + 1)
      else .error (skipS s a, 20) := by
  rw [valP]
  rw [show skipL s.data.toList a = skipS s a from rfl]
  cases byL s.data.toList (skipS s a) with
  | none => rfl
  | some c =>
    simp only
    by_cases h1 : v = 4096
    · rw [if_pos h1, if_pos h1]
    · rw [if_neg h1, if_neg h1]
      by_cases h2 : c = 45 ∨ pDigit (c.toNat : Nat) = true
      · rw [if_pos h2, if_pos h2]
        unfold numS
        rw [piece_data, piece_mk]
      · rw [if_neg h2, if_neg h2]
        by_cases h3 : pLetter (c.toNat : Nat) = true
        · rw [if_pos h3, if_pos h3]
          unfold wordS
          rw [piece_data]
          cases wordK ((s.data.toList.drop (skipS s a)).take (spanL pLetter (s.data.toList.drop (skipS s a)))) <;> rfl
        · rw [if_neg h3, if_neg h3]
          by_cases h4 : c = 91
          · rw [if_pos h4, if_pos h4]
            exact val_arr n s.data.toList (skipS s a) (v + 1) o
          · rw [if_neg h4, if_neg h4]
            by_cases h5 : c = 123
            · rw [if_pos h5, if_pos h5]
              exact val_obj n s.data.toList (skipS s a) (v + 1) o
            · rw [if_neg h5, if_neg h5]
              by_cases h6 : c = 34
              · rw [if_pos h6, if_pos h6, show s.data.toList.length = s.size from (Lib.size_eq s).symm]
                cases quotP (s.size + 1) s.data.toList (skipS s a + 1) [] <;> rfl
              · rw [if_neg h6, if_neg h6]
theorem val_flat {w : World} {lo k : Nat} {t : ByteArray} : IsV w lo (.mk k t [] []) (.int .u8 (k : Nat)) (.string t) (.slice none 0 0) (.slice none 0 0) := by
  simp only [IsV]
  exact ⟨trivial, trivial, ⟨none, 0, rfl, .inl rfl⟩, none, 0, rfl, .inl trivial⟩
theorem byS_lt (s : ByteArray) (i : Nat) : byS s i < 256 := by
  unfold byS
  exact UInt8.toNat_lt _
set_option maxRecDepth 10000000 in
set_option maxHeartbeats 16000000 in
theorem val_ok (n : Nat) : ValOK n := by
  induction n using Nat.strongRecOn with
  | _ n ih =>
  intro pb s a v o w hs hp ha hv ho hn
  obtain ⟨n, rfl⟩ : ∃ m, n = m + 1 := ⟨n - 1, by omega⟩
  have HIH : Hid (∀ m, m < n → ValOK m) := fun m hm => ih m (by omega)
  clear ih
  have hs' : s.size ≤ maxLen := by unfold maxLen; omega
  have hlt := hp.lt
  have hqb := skip_le s a ha
  generalize hR : valP (n + 1) s.data.toList a v o = R
  have HR := Lib.hid hR
  rw [valP_go] at HR
  clear hR
  have hp0 := hp.alloc (.cells #[.int .u8 0, .string ⟨#[]⟩, .slice none 0 0, .slice none 0 0] 26)
  have hg0 := (GB.refl pb w).alloc (.cells #[.int .u8 0, .string ⟨#[]⟩, .slice none 0 0, .slice none 0 0] 26)
  have hr0 := RB.new w (.int .u8 0) (.string ⟨#[]⟩) (.slice none 0 0) (.slice none 0 0)
  have hne : w.heap.size ≠ pb := by omega
  go_enter Tryz.func62, Tryz.ntmps62
  go_wp2_with fail
  by_cases hend : skipS s a = s.size
  · refine (next_end pb s a v o _ hs' hp0 ha hend).mono ?_
    rintro e w1 ⟨rfl, hp1, hg1⟩
    unfold Pan
    have HR2 : Hid (Except.error (skipS s a, 21) = R) := by
      have := HR.out
      rw [byL_end (by rw [← Lib.size_eq]; omega)] at this
      exact this
    clear hend HR
    go_wp2_with fail
    rw [← HR2.out]
    exact ⟨rfl, hg0.trans hg1, rfl⟩
  · have hq : skipS s a < s.size := by omega
    refine (next_byte pb s a v o _ hs' hp0 ha hq).mono ?_
    rintro e w1 ⟨rfl, hp1, hg1⟩
    obtain ⟨hb1, hb2⟩ := byS_val s (skipS s a) hq
    rw [hb1] at HR
    simp only at HR
    have hb3 := byS_lt s (skipS s a)
    have hfn : 2 * (s.size - skipS s a) + 1 ≤ n := by omega
    clear hb1 hend
    generalize skipS s a = q at *
    have hr1 := hr0.gb hg1 hne
    have hg1' := hg0.trans hg1
    clear hg0 hg1 hp0 hr0 hp
    obtain ⟨c0, c1, c2, c3⟩ := hp1.cells
    have f2 := hp1.frozen 2
    by_cases h4096 : v = 4096
    · have te : ((v : Int) == 4096) = true := by rw [h4096]; rfl
      have HR2 : Hid (Except.error (q, 27) = R) := by
        have := HR.out
        rw [if_pos h4096] at this
        exact this
      clear h4096 HR
      go_wp2_with fail
      refine (fault_any pb s q v o 27 w1 hp1).mono ?_
      rintro e w2 ⟨rfl, hb4⟩
      go_wp2_with fail
      rw [← HR2.out]
      exact ⟨rfl, hg1'.trans (Below.gb hb4 pb), rfl⟩
    · have te : ((v : Int) == 4096) = false := by rw [beq_eq_false_iff_ne]; omega
      have hv2 : v + 1 ≤ 4096 := by omega
      rw [if_neg h4096] at HR
      have hwr : IntKind.i64.wrap ((v : Int) + 1) = (v : Int) + 1 := by rw [IntWalk.i64_in _ (by omega)]
      generalize hc : s[q]'hq = c at *
      have hcn : ((c.toNat : Nat) : Int) = ((byS s q : Nat) : Int) := by rw [hb2]
      rw [hcn] at HR
      have e45 : (c = 45) = (((byS s q : Nat) : Int) = 45) := by
        apply propext
        rw [← hcn]
        constructor
        · intro h; subst h; rfl
        · intro h; apply UInt8.toNat_inj.1; have : (45 : UInt8).toNat = 45 := rfl; omega
      have e91 : (c = 91) = (((byS s q : Nat) : Int) = 91) := by
        apply propext
        rw [← hcn]
        constructor
        · intro h; subst h; rfl
        · intro h; apply UInt8.toNat_inj.1; have : (91 : UInt8).toNat = 91 := rfl; omega
      have e123 : (c = 123) = (((byS s q : Nat) : Int) = 123) := by
        apply propext
        rw [← hcn]
        constructor
        · intro h; subst h; rfl
        · intro h; apply UInt8.toNat_inj.1; have : (123 : UInt8).toNat = 123 := rfl; omega
      have e34 : (c = 34) = (((byS s q : Nat) : Int) = 34) := by
        apply propext
        rw [← hcn]
        constructor
        · intro h; subst h; rfl
        · intro h; apply UInt8.toNat_inj.1; have : (34 : UInt8).toNat = 34 := rfl; omega
      have HR := Lib.hid (by have := HR.out; simp only [e45, e91, e123, e34] at this; exact this)
      clear e45 e91 e123 e34 hcn hc hb2 h4096
      generalize byS s q = b at *
      have hpz : PS (w1.setCell ⟨pb, 2, none⟩ (.int .i64 ((v : Int) + 1))) pb s q (v + 1) o := hp1.set 2 (.int .i64 ((v : Int) + 1))
      have hgz : GB pb w (w1.setCell ⟨pb, 2, none⟩ (.int .i64 ((v : Int) + 1))) := hg1'.set 2 _
      have hrz : RB (w1.setCell ⟨pb, 2, none⟩ (.int .i64 ((v : Int) + 1))) w.heap.size (.int .u8 0) (.string ⟨#[]⟩) (.slice none 0 0) (.slice none 0 0) := (Below.heap_setCell _ _ _ _ hne).trans hr1
      have hwz : w.heap.size < (w1.setCell ⟨pb, 2, none⟩ (.int .i64 ((v : Int) + 1))).heap.size := hrz.lt
      by_cases k45 : (b : Int) = 45
      · have te1 : ((b : Int) == 45) = true := by rw [k45]; rfl
        have HR1 : Hid ((if numS (pieceS s q (spanL pNum (s.data.toList.drop q))) = true then Except.ok (.mk 4 (pieceS s q (spanL pNum (s.data.toList.drop q))) [] [], q + spanL pNum (s.data.toList.drop q), v + 1) else Except.error (q, 22)) = R) := by
          have := HR.out
          rw [if_pos (.inl k45)] at this
          exact this
        clear k45
        cases hnum : numS (pieceS s q (spanL pNum (s.data.toList.drop q))) with
        | false =>
          have HR2 : Hid (Except.error (q, 22) = R) := by
            have := HR1.out
            rw [hnum] at this
            exact this
          go_wp2_with (go_at_call 85; refine (isDigit_any _ _).mono ?_; rintro e w2 ⟨rfl, rfl⟩)
          refine (number_bad pb s q (v + 1) o _ (by omega) hpz (by omega) hnum).mono ?_
          rintro e w2 ⟨rfl, hp2, hg2⟩
          unfold Pan
          clear hnum HR1 HR
          go_wp2_with fail
          rw [← HR2.out]
          exact ⟨rfl, hgz.trans hg2, rfl⟩
        | true =>
          have HR2 : Hid (Except.ok (.mk 4 (pieceS s q (spanL pNum (s.data.toList.drop q))) [] [], q + spanL pNum (s.data.toList.drop q), v + 1) = R) := by
            have := HR1.out
            rw [hnum] at this
            exact this
          go_wp2_with (go_at_call 85; refine (isDigit_any _ _).mono ?_; rintro e w2 ⟨rfl, rfl⟩)
          refine (number_ok pb s q (v + 1) o _ (by omega) hpz (by omega) hnum).mono ?_
          rintro e w2 ⟨rfl, hpN, hg2⟩
          have hrN := hrz.gb hg2 hne
          have hgN := hgz.trans hg2
          clear hnum HR1 HR
          generalize pieceS s q (spanL pNum (s.data.toList.drop q)) = T at *
          generalize q + spanL pNum (s.data.toList.drop q) = j at *
          obtain ⟨d0, d1, d2, d3⟩ := hrN.cells
          obtain ⟨z0, z1, z2, z3⟩ := hrN.frozen
          go_wp2_with fail
          rw [← HR2.out]
          refine bodyPost_ret (v := .agg #[.int .u8 4, .string T, .slice none 0 0, .slice none 0 0]) ?_ rfl ⟨hgN.set4 (Nat.le_refl _) _ _ _ _, _, _, _, _, rfl, val_flat, hpN.set4 (Ne.symm hne) _ _ _ _⟩
          simp [results, Tryz.results62, go_sem, d0, d1, d2, d3]
      · have te1 : ((b : Int) == 45) = false := by rw [beq_eq_false_iff_ne]; exact k45
        cases kd : pDigit (b : Int) with
        | true =>
          have HR1 : Hid ((if numS (pieceS s q (spanL pNum (s.data.toList.drop q))) = true then Except.ok (.mk 4 (pieceS s q (spanL pNum (s.data.toList.drop q))) [] [], q + spanL pNum (s.data.toList.drop q), v + 1) else Except.error (q, 22)) = R) := by
            have := HR.out
            rw [if_pos (.inr kd)] at this
            exact this
          clear k45
          cases hnum : numS (pieceS s q (spanL pNum (s.data.toList.drop q))) with
          | false =>
            have HR2 : Hid (Except.error (q, 22) = R) := by
              have := HR1.out
              rw [hnum] at this
              exact this
            go_wp2_with (go_at_call 85; refine (isDigit_any _ _).mono ?_; rintro e w2 ⟨rfl, rfl⟩)
            refine (number_bad pb s q (v + 1) o _ (by omega) hpz (by omega) hnum).mono ?_
            rintro e w2 ⟨rfl, hp2, hg2⟩
            unfold Pan
            clear hnum HR1 HR
            go_wp2_with fail
            rw [← HR2.out]
            exact ⟨rfl, hgz.trans hg2, rfl⟩
          | true =>
            have HR2 : Hid (Except.ok (.mk 4 (pieceS s q (spanL pNum (s.data.toList.drop q))) [] [], q + spanL pNum (s.data.toList.drop q), v + 1) = R) := by
              have := HR1.out
              rw [hnum] at this
              exact this
            go_wp2_with (go_at_call 85; refine (isDigit_any _ _).mono ?_; rintro e w2 ⟨rfl, rfl⟩)
            refine (number_ok pb s q (v + 1) o _ (by omega) hpz (by omega) hnum).mono ?_
            rintro e w2 ⟨rfl, hpN, hg2⟩
            have hrN := hrz.gb hg2 hne
            have hgN := hgz.trans hg2
            clear hnum HR1 HR
            generalize pieceS s q (spanL pNum (s.data.toList.drop q)) = T at *
            generalize q + spanL pNum (s.data.toList.drop q) = j at *
            obtain ⟨d0, d1, d2, d3⟩ := hrN.cells
            obtain ⟨z0, z1, z2, z3⟩ := hrN.frozen
            go_wp2_with fail
            rw [← HR2.out]
            refine bodyPost_ret (v := .agg #[.int .u8 4, .string T, .slice none 0 0, .slice none 0 0]) ?_ rfl ⟨hgN.set4 (Nat.le_refl _) _ _ _ _, _, _, _, _, rfl, val_flat, hpN.set4 (Ne.symm hne) _ _ _ _⟩
            simp [results, Tryz.results62, go_sem, d0, d1, d2, d3]
        | false =>
          have HR3 := Lib.hid (by
            have := HR.out
            rw [if_neg (fun h => by rcases h with h | h; exact k45 h; rw [kd] at h; cases h)] at this
            exact this)
          clear HR k45
          cases kl : pLetter (b : Int) with
          | true =>
            have HR4 := Lib.hid (by
              have := HR3.out
              rw [if_pos kl] at this
              exact this)
            clear HR3
            cases hw : wordS (pieceS s q (spanL pLetter (s.data.toList.drop q))) with
            | none =>
              have HR2 : Hid (Except.error (q, 20) = R) := by
                have := HR4.out
                rw [hw] at this
                exact this
              go_wp2_with (first | (go_at_call 85; refine (isDigit_any _ _).mono ?_; rintro e w2 ⟨rfl, rfl⟩) | (go_at_call 94; refine (isLetter_any _ _).mono ?_; rintro e w2 ⟨rfl, rfl⟩))
              refine (word_bad pb s q (v + 1) o _ hs' hpz (by omega) hw).mono ?_
              rintro e w2 ⟨rfl, hp2, hg2⟩
              unfold Pan
              clear hw HR4
              go_wp2_with fail
              rw [← HR2.out]
              exact ⟨rfl, hgz.trans hg2, rfl⟩
            | some k =>
              have HR2 : Hid (Except.ok (.mk k noText [] [], q + spanL pLetter (s.data.toList.drop q), v + 1) = R) := by
                have := HR4.out
                rw [hw] at this
                exact this
              go_wp2_with (first | (go_at_call 85; refine (isDigit_any _ _).mono ?_; rintro e w2 ⟨rfl, rfl⟩) | (go_at_call 94; refine (isLetter_any _ _).mono ?_; rintro e w2 ⟨rfl, rfl⟩))
              refine (word_ok k pb s q (v + 1) o _ hs' hpz (by omega) hw).mono ?_
              rintro e w2 ⟨rfl, hpN, hg2⟩
              have hrN := hrz.gb hg2 hne
              have hgN := hgz.trans hg2
              clear hw HR4
              generalize q + spanL pLetter (s.data.toList.drop q) = j at *
              obtain ⟨d0, d1, d2, d3⟩ := hrN.cells
              obtain ⟨z0, z1, z2, z3⟩ := hrN.frozen
              go_wp2_with fail
              rw [← HR2.out]
              refine bodyPost_ret (v := .agg #[.int .u8 (k : Nat), .string ⟨#[]⟩, .slice none 0 0, .slice none 0 0]) ?_ rfl ⟨hgN.set4 (Nat.le_refl _) _ _ _ _, _, _, _, _, rfl, val_flat, hpN.set4 (Ne.symm hne) _ _ _ _⟩
              simp [results, Tryz.results62, go_sem, d0, d1, d2, d3]
          | false =>
            have HR4 := Lib.hid (by
              have := HR3.out
              rw [if_neg (by rw [kl]; simp)] at this
              exact this)
            clear HR3
            by_cases k91 : (b : Int) = 91
            · have te2 : ((b : Int) == 91) = true := by rw [k91]; rfl
              have HR5 := Lib.hid (by
                have := HR4.out
                rw [if_pos k91] at this
                exact this)
              clear HR4 k91
              go_wp2_with (first | (go_at_call 85; refine (isDigit_any _ _).mono ?_; rintro e w2 ⟨rfl, rfl⟩) | (go_at_call 94; refine (isLetter_any _ _).mono ?_; rintro e w2 ⟨rfl, rfl⟩))
              refine (array_any n HIH.out pb s q (v + 1) o _ hs hpz hq hv2 ho hfn).mono ?_
              rintro e w2 ⟨hg2, hr⟩
              generalize arrP n s.data.toList q (v + 1) o = r at *
              cases r with
              | error f =>
                obtain ⟨i, k⟩ := f
                simp only at hr
                subst hr
                unfold Pan
                have HR2 : Hid (Except.error (i, k) = R) := HR5.out
                go_wp2_with fail
                rw [← HR2.out]
                exact ⟨rfl, hgz.trans hg2, rfl⟩
              | ok t =>
                obtain ⟨x, j, v'⟩ := t
                obtain ⟨c0, c1, c2, c3, he, hV, hpN⟩ := hr
                subst he
                have HR2 : Hid (Except.ok (x, j, v') = R) := HR5.out
                have hV0 := hV
                obtain ⟨k0, t0, ka, kl', kc, la, ll, lc', rfl, rfl, rfl, rfl⟩ := hV.shape
                have hrN := hrz.gb hg2 hne
                have hgN := hgz.trans hg2
                obtain ⟨d0, d1, d2, d3⟩ := hrN.cells
                obtain ⟨z0, z1, z2, z3⟩ := hrN.frozen
                go_wp2_with fail
                rw [← HR2.out]
                refine bodyPost_ret (v := .agg #[.int .u8 (k0 : Nat), .string t0, .slice ka kl' kc, .slice la ll lc']) ?_ rfl ⟨hgN.set4 (Nat.le_refl _) _ _ _ _, _, _, _, _, rfl, hV0.stays (fun y c hl hy => by rw [World.cell?_of_block (set4_heap _ _ _ _ _ _ _ _ _ _ _ (by omega))]; exact hy) (by omega), hpN.set4 (Ne.symm hne) _ _ _ _⟩
                simp [results, Tryz.results62, go_sem, d0, d1, d2, d3]
            · have te2 : ((b : Int) == 91) = false := by rw [beq_eq_false_iff_ne]; exact k91
              by_cases k123 : (b : Int) = 123
              · have te3 : ((b : Int) == 123) = true := by rw [k123]; rfl
                have HR5 := Lib.hid (by
                  have := HR4.out
                  rw [if_neg k91, if_pos k123] at this
                  exact this)
                clear HR4 k91 k123
                go_wp2_with (first | (go_at_call 85; refine (isDigit_any _ _).mono ?_; rintro e w2 ⟨rfl, rfl⟩) | (go_at_call 94; refine (isLetter_any _ _).mono ?_; rintro e w2 ⟨rfl, rfl⟩))
                refine (object_any n HIH.out pb s q (v + 1) o _ hs hpz hq hv2 ho hfn).mono ?_
                rintro e w2 ⟨hg2, hr⟩
                generalize objP n s.data.toList q (v + 1) o = r at *
                cases r with
                | error f =>
                  obtain ⟨i, k⟩ := f
                  simp only at hr
                  subst hr
                  unfold Pan
                  have HR2 : Hid (Except.error (i, k) = R) := HR5.out
                  go_wp2_with fail
                  rw [← HR2.out]
                  exact ⟨rfl, hgz.trans hg2, rfl⟩
                | ok t =>
                  obtain ⟨x, j, v'⟩ := t
                  obtain ⟨c0, c1, c2, c3, he, hV, hpN⟩ := hr
                  subst he
                  have HR2 : Hid (Except.ok (x, j, v') = R) := HR5.out
                  have hV0 := hV
                  obtain ⟨k0, t0, ka, kl', kc, la, ll, lc', rfl, rfl, rfl, rfl⟩ := hV.shape
                  have hrN := hrz.gb hg2 hne
                  have hgN := hgz.trans hg2
                  obtain ⟨d0, d1, d2, d3⟩ := hrN.cells
                  obtain ⟨z0, z1, z2, z3⟩ := hrN.frozen
                  go_wp2_with fail
                  rw [← HR2.out]
                  refine bodyPost_ret (v := .agg #[.int .u8 (k0 : Nat), .string t0, .slice ka kl' kc, .slice la ll lc']) ?_ rfl ⟨hgN.set4 (Nat.le_refl _) _ _ _ _, _, _, _, _, rfl, hV0.stays (fun y c hl hy => by rw [World.cell?_of_block (set4_heap _ _ _ _ _ _ _ _ _ _ _ (by omega))]; exact hy) (by omega), hpN.set4 (Ne.symm hne) _ _ _ _⟩
                  simp [results, Tryz.results62, go_sem, d0, d1, d2, d3]
              · have te3 : ((b : Int) == 123) = false := by rw [beq_eq_false_iff_ne]; exact k123
                by_cases k34 : (b : Int) = 34
                · have te4 : ((b : Int) == 34) = true := by rw [k34]; rfl
                  have HR5 : Hid ((match quotP (s.size + 1) s.data.toList (q + 1) [] with
                    | .error e => .error e
                    | .ok (t, j) => .ok (.mk 5 ⟨t.toArray⟩ [] [], j, v + 1)) = R) := by
                    have := HR4.out
                    rw [if_neg k91, if_neg k123, if_pos k34] at this
                    exact this
                  clear HR4 k91 k123 k34
                  go_wp2_with (first | (go_at_call 85; refine (isDigit_any _ _).mono ?_; rintro e w2 ⟨rfl, rfl⟩) | (go_at_call 94; refine (isLetter_any _ _).mono ?_; rintro e w2 ⟨rfl, rfl⟩))
                  refine (quoted_any pb s q (v + 1) o _ (by omega) hpz hq).mono ?_
                  rintro e w2 ⟨hg2, hr⟩
                  generalize quotP (s.size + 1) s.data.toList (q + 1) [] = r at *
                  cases r with
                  | error f =>
                    obtain ⟨i, k⟩ := f
                    simp only at hr
                    subst hr
                    unfold Pan
                    have HR2 : Hid (Except.error (i, k) = R) := HR5.out
                    go_wp2_with fail
                    rw [← HR2.out]
                    exact ⟨rfl, hgz.trans hg2, rfl⟩
                  | ok t =>
                    obtain ⟨t, j⟩ := t
                    obtain ⟨he, hpN⟩ := hr
                    subst he
                    have HR2 : Hid (Except.ok (.mk 5 ⟨t.toArray⟩ [] [], j, v + 1) = R) := HR5.out
                    have hrN := hrz.gb hg2 hne
                    have hgN := hgz.trans hg2
                    generalize ByteArray.mk t.toArray = T at *
                    obtain ⟨d0, d1, d2, d3⟩ := hrN.cells
                    obtain ⟨z0, z1, z2, z3⟩ := hrN.frozen
                    go_wp2_with fail
                    rw [← HR2.out]
                    refine bodyPost_ret (v := .agg #[.int .u8 5, .string T, .slice none 0 0, .slice none 0 0]) ?_ rfl ⟨hgN.set4 (Nat.le_refl _) _ _ _ _, _, _, _, _, rfl, val_flat, hpN.set4 (Ne.symm hne) _ _ _ _⟩
                    simp [results, Tryz.results62, go_sem, d0, d1, d2, d3]
                · have te4 : ((b : Int) == 34) = false := by rw [beq_eq_false_iff_ne]; exact k34
                  have HR2 : Hid (Except.error (q, 20) = R) := by
                    have := HR4.out
                    rw [if_neg k91, if_neg k123, if_neg k34] at this
                    exact this
                  clear HR4 k91 k123 k34
                  go_wp2_with (first | (go_at_call 85; refine (isDigit_any _ _).mono ?_; rintro e w2 ⟨rfl, rfl⟩) | (go_at_call 94; refine (isLetter_any _ _).mono ?_; rintro e w2 ⟨rfl, rfl⟩))
                  refine (fault_any pb s q (v + 1) o 20 _ hpz).mono ?_
                  rintro e w2 ⟨rfl, hb4⟩
                  go_wp2_with fail
                  rw [← HR2.out]
                  exact ⟨rfl, hgz.trans (Below.gb hb4 pb), rfl⟩
end Go.Proofs.YtakdhfjlhkejdaaGreatDoor

/-
  CONTRACTS of package json's parser: whole: a text to its end.
-/
set_option linter.unusedVariables false
namespace Go.Proofs.YtakdhfjlhkejdaaGreatDoor
open Go.RowKit

/-- what whole comes to -/
def WholeEnd (pb : Nat) (w : World) (r : Except Fail JV) (e : Ending) (w' : World) : Prop :=
  GB pb w w' ∧ match r with
  | .ok x => ∃ c0 c1 c2 c3, e = .returned (.agg #[c0, c1, c2, c3]) ∧ IsV w' w.heap.size x c0 c1 c2 c3
  | .error (i, k) => e = Pan i k
set_option maxRecDepth 10000000 in
set_option maxHeartbeats 8000000 in
theorem whole_any (pb : Nat) (s : ByteArray) (w : World) (hs : s.size ≤ maxLen) (hp : PS w pb s 0 0 0) :
    Calls Tryz.prog 31 #[.pointer (some ⟨pb, 0, none⟩)] w (WholeEnd pb w (readP s.data.toList)) := by
  have hs' := hs
  unfold maxLen at hs'
  have hlt := hp.lt
  have hsz : s.data.toList.length = s.size := (Lib.size_eq s).symm
  generalize hR : readP s.data.toList = R
  have HR : Hid ((if 65536 < s.size then .error (0, 4)
    else if lenF s.data.toList ≠ s.size then .error (lenF s.data.toList, 24)
    else match valP (2 * s.size + 2) s.data.toList 0 0 0 with
      | .error e => .error e
      | .ok (v, i, _) => if skipS s i < s.size then .error (skipS s i, 28) else .ok v) = R) := by
    have := hR
    unfold readP at this
    rw [hsz] at this
    exact this
  clear hR
  have hp0 := hp.alloc (.cells #[.int .u8 0, .string ⟨#[]⟩, .slice none 0 0, .slice none 0 0] 26)
  have hg0 := (GB.refl pb w).alloc (.cells #[.int .u8 0, .string ⟨#[]⟩, .slice none 0 0, .slice none 0 0] 26)
  have hr0 := RB.new w (.int .u8 0) (.string ⟨#[]⟩) (.slice none 0 0) (.slice none 0 0)
  have hne : w.heap.size ≠ pb := by omega
  obtain ⟨c0, c1, c2, c3⟩ := hp0.cells
  go_enter Tryz.func31, Tryz.ntmps31
  by_cases hbig : 65536 < s.size
  · have hb : (65536 : Int) < (s.size : Nat) := by omega
    have HR2 : Hid (Except.error (0, 4) = R) := by
      have := HR.out
      rw [if_pos hbig] at this
      exact this
    clear HR
    go_wp2_with fail
    refine (fault_any pb s 0 0 0 4 _ hp0).mono ?_
    rintro e w1 ⟨rfl, hb1⟩
    go_wp2_with fail
    rw [← HR2.out]
    exact ⟨rfl, hg0.trans (Below.gb hb1 pb), rfl⟩
  · have hb : ¬ (65536 : Int) < (s.size : Nat) := by omega
    have HR2 : Hid ((if lenF s.data.toList ≠ s.size then .error (lenF s.data.toList, 24)
      else match valP (2 * s.size + 2) s.data.toList 0 0 0 with
        | .error e => .error e
        | .ok (v, i, _) => if skipS s i < s.size then .error (skipS s i, 28) else .ok v) = R) := by
      have := HR.out
      rw [if_neg hbig] at this
      exact this
    clear HR
    go_wp2_with fail
    refine (bad_any s _ hs).mono ?_
    rintro e w1 ⟨rfl, hb1⟩
    have hp1 := hp0.below hb1
    have hg1 := hg0.trans (Below.gb hb1 pb)
    have hr1 := hr0.below hb1
    clear hp0 hg0 hr0 hb1 c0 c1 c2 c3
    by_cases hlen : lenF s.data.toList = s.size
    · have hbad : badI s = -1 := by
        unfold badI
        rw [if_pos hlen]
      have HR3 : Hid ((match valP (2 * s.size + 2) s.data.toList 0 0 0 with
        | .error e => .error e
        | .ok (v, i, _) => if skipS s i < s.size then .error (skipS s i, 28) else .ok v) = R) := by
        have := HR2.out
        rw [if_neg (by simp [hlen])] at this
        exact this
      clear HR2 hlen
      rw [hbad]
      clear hbad
      go_wp2_with fail
      refine (val_ok (2 * s.size + 2) pb s 0 0 0 _ (by omega) hp1 (Nat.zero_le _) (by omega) (by omega) (by omega)).mono ?_
      rintro e w2 ⟨hg2, hr⟩
      have hfac := fun x j v' h => (valP_facts (2 * s.size + 2)).1 s.data.toList 0 0 0 x j v' h
      generalize valP (2 * s.size + 2) s.data.toList 0 0 0 = r at *
      cases r with
      | error f =>
        obtain ⟨i, k⟩ := f
        simp only at hr
        subst hr
        unfold Pan
        have HR4 : Hid (Except.error (i, k) = R) := HR3.out
        clear hfac
        go_wp2_with fail
        rw [← HR4.out]
        exact ⟨rfl, hg1.trans hg2, rfl⟩
      | ok t =>
        obtain ⟨x, j, v'⟩ := t
        obtain ⟨d0, d1, d2, d3, he, hV, hp2⟩ := hr
        subst he
        have hj := hfac x j v' rfl
        rw [hsz] at hj
        have HR4 : Hid ((if skipS s j < s.size then Except.error (skipS s j, 28) else Except.ok x) = R) := HR3.out
        have hqb := skip_le s j hj.2.1
        have Hk := Lib.hid (skip_at s j)
        clear HR3 hfac
        obtain ⟨k0, t0, ka, kl, kc, la, ll, lc, rfl, rfl, rfl, rfl⟩ := (IsV.shape hV)
        have hr2 := hr1.gb hg2 hne
        have hg12 := hg1.trans hg2
        have hp3 := hp2.alloc (.cells #[.int .u8 (k0 : Nat), .string t0, .slice ka kl kc, .slice la ll lc] 26)
        have hg3 := hg12.alloc (.cells #[.int .u8 (k0 : Nat), .string t0, .slice ka kl kc, .slice la ll lc] 26)
        have hr3 := hr2.alloc (.cells #[.int .u8 (k0 : Nat), .string t0, .slice ka kl kc, .slice la ll lc] 26)
        have hl3 := RB.new w2 (.int .u8 (k0 : Nat)) (.string t0) (.slice ka kl kc) (.slice la ll lc)
        have hV3 := hV.stays (Below.stays ((Below.refl _ w2).alloc (Nat.le_refl _) (.cells #[.int .u8 (k0 : Nat), .string t0, .slice ka kl kc, .slice la ll lc] 26)) w1.heap.size) (Nat.le_refl _)
        have hs3 : w.heap.size < w1.heap.size := hr1.lt
        have hs4 := hg2.size
        go_wp2_with fail
        refine (take_white pb s j v' 0 _ hs hp3 hj.2.1).mono ?_
        rintro e w4 ⟨rfl, hp4, hg4⟩
        rw [← Hk.out] at hp4
        rw [← Hk.out]
        have hr4 := hr3.gb hg4 hne
        have hl4 := hl3.gb hg4 (by omega)
        have hV4 := hV3.stays (w' := w4) (fun y c hl hy => hg4.cell hy (by omega)) (Nat.le_refl _)
        have hg5 := hg3.trans hg4
        clear hV hV3 hg2 hg12 hg3 hp1 hp2 hp3 hr1 hr2 hr3 hl3 Hk
        generalize w2.heap.size = lb at *
        generalize s.extract j _ = cut
        generalize skipS s j = q at *
        obtain ⟨x0, x1, x2, x3⟩ := hp4.cells
        obtain ⟨b0, b1, b2, b3⟩ := hl4.cells
        obtain ⟨y0, y1, y2, y3⟩ := hr4.cells
        obtain ⟨z0, z1, z2, z3⟩ := hr4.frozen
        by_cases hmore : q < s.size
        · have tm : (q : Int) < (s.size : Nat) := by omega
          have HR5 : Hid (Except.error (q, 28) = R) := by
            have := HR4.out
            rw [if_pos hmore] at this
            exact this
          clear HR4 hmore
          go_wp2_with fail
          go_region
          go_wp2_with fail
          refine (fault_any pb s q v' 0 28 w4.drew hp4).mono ?_
          rintro e w5 ⟨rfl, hb5⟩
          go_wp2_with fail
          rw [← HR5.out]
          exact ⟨rfl, hg5.drew.trans (Below.gb hb5 pb), rfl⟩
        · have tm : ¬ (q : Int) < (s.size : Nat) := by omega
          have HR5 : Hid (Except.ok x = R) := by
            have := HR4.out
            rw [if_neg hmore] at this
            exact this
          clear HR4 hmore
          go_wp2_with fail
          go_region
          go_wp2_with fail
          rw [← HR5.out]
          refine bodyPost_ret (v := .agg #[.int .u8 (k0 : Nat), .string t0, .slice ka kl kc, .slice la ll lc]) ?_ rfl ⟨(hg5.set4 (Nat.le_refl _) _ _ _ _).drew, _, _, _, _, rfl, ?_⟩
          · simp [results, Tryz.results31, go_sem, y0, y1, y2, y3]
          · refine hV4.stays (fun y c hl hy => ?_) (by omega)
            have : ((((w4.setCell ⟨w.heap.size, 0, none⟩ (.int .u8 (k0 : Nat))).setCell ⟨w.heap.size, 1, none⟩ (.string t0)).setCell ⟨w.heap.size, 2, none⟩ (.slice ka kl kc)).setCell ⟨w.heap.size, 3, none⟩ (.slice la ll lc)).cell? y = some c := by
              rw [World.cell?_of_block (set4_heap _ _ _ _ _ _ _ _ _ _ _ (by omega))]
              exact hy
            exact this
    · have hbad : badI s = (lenF s.data.toList : Nat) := by
        unfold badI
        rw [if_neg hlen]
      have HR3 : Hid (Except.error (lenF s.data.toList, 24) = R) := by
        have := HR2.out
        rw [if_pos hlen] at this
        exact this
      clear HR2 hlen
      rw [hbad]
      clear hbad
      generalize lenF s.data.toList = q at *
      go_wp2_with fail
      rw [← HR3.out]
      exact ⟨rfl, hg1, rfl⟩
end Go.Proofs.YtakdhfjlhkejdaaGreatDoor

/-
  CONTRACTS of package json's Parse: its deferred closure, in both modes; Parse itself.
-/
set_option linter.unusedVariables false
namespace Go.Proofs.YtakdhfjlhkejdaaGreatDoor
open Go.RowKit

/-- a fault's block of the call's own -/
def FB (w : World) (fb : Nat) (a k : Int) : Prop := w.heap[fb]? = some (.cells #[.int .i64 a, .int .i64 k] 29 (0, 0))
theorem FB.cells {w : World} {fb : Nat} {a k : Int} (h : FB w fb a k) : w.cell? ⟨fb, 0, none⟩ = some (.int .i64 a) ∧ w.cell? ⟨fb, 1, none⟩ = some (.int .i64 k) ∧ w.frozen? ⟨fb, 0, none⟩ = false ∧ w.frozen? ⟨fb, 1, none⟩ = false := by
  unfold FB at h
  exact ⟨by rw [Lib.cell_of_heap h]; rfl, by rw [Lib.cell_of_heap h]; rfl, Lib.frozen_of_heap h 0, Lib.frozen_of_heap h 1⟩
theorem heap_set {w : World} {b : Nat} {cs : Array Value} {t : TypeId} (h : w.heap[b]? = some (.cells cs t (0, 0))) (i : Nat) (x : Value) : (w.setCell ⟨b, i, none⟩ x).heap[b]? = some (.cells (cs.setIfInBounds i x) t (0, 0)) := by
  simp [World.setCell, Array.getElem?_modify, h]
theorem RB.s0 {w : World} {rb : Nat} {c0 c1 c2 c3 : Value} (h : RB w rb c0 c1 c2 c3) (x : Value) : RB (w.setCell ⟨rb, 0, none⟩ x) rb x c1 c2 c3 := heap_set h 0 x
theorem RB.s1 {w : World} {rb : Nat} {c0 c1 c2 c3 : Value} (h : RB w rb c0 c1 c2 c3) (x : Value) : RB (w.setCell ⟨rb, 1, none⟩ x) rb c0 x c2 c3 := heap_set h 1 x
theorem RB.s2 {w : World} {rb : Nat} {c0 c1 c2 c3 : Value} (h : RB w rb c0 c1 c2 c3) (x : Value) : RB (w.setCell ⟨rb, 2, none⟩ x) rb c0 c1 x c3 := heap_set h 2 x
theorem RB.s3 {w : World} {rb : Nat} {c0 c1 c2 c3 : Value} (h : RB w rb c0 c1 c2 c3) (x : Value) : RB (w.setCell ⟨rb, 3, none⟩ x) rb c0 c1 c2 x := heap_set h 3 x
theorem FB.s0 {w : World} {fb : Nat} {a k : Int} (h : FB w fb a k) (x : Int) : FB (w.setCell ⟨fb, 0, none⟩ (.int .i64 x)) fb x k := heap_set h 0 _
theorem FB.s1 {w : World} {fb : Nat} {a k : Int} (h : FB w fb a k) (x : Int) : FB (w.setCell ⟨fb, 1, none⟩ (.int .i64 x)) fb a x := heap_set h 1 _
theorem RB.off {w : World} {rb : Nat} {c0 c1 c2 c3 : Value} (h : RB w rb c0 c1 c2 c3) {b : Nat} (i : Nat) (x : Value) (hb : rb ≠ b) : RB (w.setCell ⟨b, i, none⟩ x) rb c0 c1 c2 c3 := (Below.heap_setCell _ _ _ _ hb).trans h
theorem FB.off {w : World} {fb : Nat} {a k : Int} (h : FB w fb a k) {b : Nat} (i : Nat) (x : Value) (hb : fb ≠ b) : FB (w.setCell ⟨b, i, none⟩ x) fb a k := (Below.heap_setCell _ _ _ _ hb).trans h
theorem KB.off {p q : Nat} {a w : World} (h : KB p q a w) {b : Nat} (i : Nat) (x : Value) (hb : b = p ∨ b = q) : KB p q a (w.setCell ⟨b, i, none⟩ x) :=
  ⟨h.os, h.tape, h.output, by rw [set_size]; exact h.size, fun k hk h1 h2 => (Below.heap_setCell _ _ _ _ (show k ≠ b by omega)).trans (h.block k hk h1 h2)⟩
theorem KB.ofBelow {p q : Nat} {a w : World} (h : Below a.heap.size a w) : KB p q a w := ⟨h.os, h.tape, h.output, h.size, fun k hk _ _ => h.block k hk⟩
/-- the world behind the closure's stores -/
def caughtW (w : World) (rb fb : Nat) (a k : Int) : World := (((((w.setCell ⟨rb, 0, none⟩ (.int .u8 0)).setCell ⟨rb, 1, none⟩ (.string ⟨#[]⟩)).setCell ⟨rb, 2, none⟩ (.slice none 0 0)).setCell ⟨rb, 3, none⟩ (.slice none 0 0)).setCell ⟨fb, 0, none⟩ (.int .i64 a)).setCell ⟨fb, 1, none⟩ (.int .i64 k)
theorem caught_end (w wA : World) (rb fb : Nat) (a k a0 k0 : Int) (hbA : Below w.heap.size w wA) (hrA : RB wA rb (.int .u8 0) (.string ⟨#[]⟩) (.slice none 0 0) (.slice none 0 0)) (hfA : FB wA fb a0 k0) (hne : rb ≠ fb) :
    RB (caughtW wA rb fb a k) rb (.int .u8 0) (.string ⟨#[]⟩) (.slice none 0 0) (.slice none 0 0) ∧ FB (caughtW wA rb fb a k) fb a k ∧ KB rb fb w (caughtW wA rb fb a k) :=
  ⟨((((((hrA.s0 _).s1 _).s2 _).s3 _).off 0 _ hne).off 1 _ hne), ((((((hfA.off 0 _ (Ne.symm hne)).off 1 _ (Ne.symm hne)).off 2 _ (Ne.symm hne)).off 3 _ (Ne.symm hne)).s0 a).s1 k),
    ((((((KB.ofBelow hbA).off 0 _ (.inl rfl)).off 1 _ (.inl rfl)).off 2 _ (.inl rfl)).off 3 _ (.inl rfl)).off 0 _ (.inr rfl)).off 1 _ (.inr rfl)⟩
theorem caught_post (c₀ : Frame) (cs : List Frame) (rb fb : Nat) (a k : Int) (older : List PanicEntry) (w : World) : ∀ (q : World) (ts : Array Value), RB q rb (.int .u8 0) (.string ⟨#[]⟩) (.slice none 0 0) (.slice none 0 0) ∧ FB q fb a k ∧ KB rb fb w q → bodyPostS Tryz.prog Tryz.f30 c₀ cs (fun e u' w' => e = .returned (.tuple #[]) ∧ u' = .panicking ({ v := .iface 29 (.agg #[.int .i64 a, .int .i64 k]), recovered := true } :: older) ∧ RB w' rb (.int .u8 0) (.string ⟨#[]⟩) (.slice none 0 0) (.slice none 0 0) ∧ FB w' fb a k ∧ KB rb fb w w') .normal { tmps := ts, defers := [] } ({ c₀ with mode := .panicking ({ v := .iface 29 (.agg #[.int .i64 a, .int .i64 k]), recovered := true } :: older) } :: cs) q := by
  intro q ts hq
  refine ⟨rfl, _, rfl, .tuple #[], ?_, rfl, rfl, hq⟩
  simp [results, Tryz.results30, go_sem]
theorem caught_drew {rb fb : Nat} {a k : Int} {w q : World} (h : RB q rb (.int .u8 0) (.string ⟨#[]⟩) (.slice none 0 0) (.slice none 0 0) ∧ FB q fb a k ∧ KB rb fb w q) :
    RB q.drew rb (.int .u8 0) (.string ⟨#[]⟩) (.slice none 0 0) (.slice none 0 0) ∧ FB q.drew fb a k ∧ KB rb fb w q.drew := ⟨h.1, h.2.1, h.2.2.os, h.2.2.tape, h.2.2.output, h.2.2.size, h.2.2.block⟩
set_option maxRecDepth 10000000 in
set_option maxHeartbeats 8000000 in
theorem catch_fault (rb fb : Nat) (a k a0 k0 : Int) (older : List PanicEntry) (w : World) (hr : RB w rb (.int .u8 0) (.string ⟨#[]⟩) (.slice none 0 0) (.slice none 0 0)) (hf : FB w fb a0 k0) (hne : rb ≠ fb) :
    CallsD Tryz.prog 30 #[.pointer (some ⟨rb, 0, none⟩), .pointer (some ⟨fb, 0, none⟩)] (.panicking ({ v := .iface 29 (.agg #[.int .i64 a, .int .i64 k]), recovered := false } :: older)) w fun e u' w' =>
      e = .returned (.tuple #[]) ∧ u' = .panicking ({ v := .iface 29 (.agg #[.int .i64 a, .int .i64 k]), recovered := true } :: older) ∧
        RB w' rb (.int .u8 0) (.string ⟨#[]⟩) (.slice none 0 0) (.slice none 0 0) ∧ FB w' fb a k ∧ KB rb fb w w' := by
  refine callsD_of_wpS Tryz.func30 rfl fun c₀ cs hu => ?_
  apply wpS_seq
  apply wpS_region
  simp [wpOpsS, go_sem, recoverD, hu, Tryz.ntmps30, Exit.thenS]
  refine wpS_of_wp ?_
  rw [show ∀ x y V : Value, (#[x, y] ++ ((Array.replicate 15 undef).setIfInBounds 3 V).setIfInBounds 0 V) = #[x, y, V, undef, undef, V, undef, undef, undef, undef, undef, undef, undef, undef, undef, undef, undef] from fun _ _ _ => rfl]
  have hta : ∀ w : World, (Instr.typeAssert (.iface 29 (.agg #[.int .i64 a, .int .i64 k])) 20 29 true).run Tryz.prog w = .ok (.tuple #[.agg #[.int .i64 a, .int .i64 k], .bool true]) w := fun _ => by kernel_rfl
  obtain ⟨c0, c1, c2, c3⟩ := hr.cells
  obtain ⟨z0, z1, z2, z3⟩ := hr.frozen
  go_wp2_with fail
  have hrA := hr.alloc (.cells #[.int .i64 a, .int .i64 k] 29)
  have hfl : fb < w.heap.size := (Array.getElem?_eq_some_iff.1 hf).1
  have hfA : FB (w.alloc (.cells #[.int .i64 a, .int .i64 k] 29)) fb a0 k0 := (Lib.alloc_old w _ fb hfl).trans hf
  have hlA : FB (w.alloc (.cells #[.int .i64 a, .int .i64 k] 29)) w.heap.size a k := heap_alloc_new w _
  have hbA : Below w.heap.size w (w.alloc (.cells #[.int .i64 a, .int .i64 k] 29)) := (Below.refl _ w).alloc (Nat.le_refl _) _
  have n1 : w.heap.size ≠ rb := by have := hr.lt; omega
  have n2 : w.heap.size ≠ fb := by omega
  have n3 : fb ≠ rb := Ne.symm hne
  have n4 : rb ≠ w.heap.size := Ne.symm n1
  have n5 : fb ≠ w.heap.size := Ne.symm n2
  clear c0 c1 c2 c3 z0 z1 z2 z3 hta
  generalize w.alloc (.cells #[.int .i64 a, .int .i64 k] 29) = wA at *
  obtain ⟨c0, c1, c2, c3⟩ := hrA.cells
  obtain ⟨z0, z1, z2, z3⟩ := hrA.frozen
  obtain ⟨f0, f1, y0, y1⟩ := hfA.cells
  obtain ⟨l0, l1, _, _⟩ := hlA.cells
  go_region
  have hE2 := caught_drew (caught_end w wA rb fb a k a0 k0 hbA hrA hfA hne)
  unfold caughtW at hE2
  clear c0 c1 c2 c3 z0 z1 z2 z3 f0 f1 y0 y1 l0 l1 hrA hfA hlA hbA
  exact caught_post c₀ cs rb fb a k older w _ _ hE2
/-- where nothing panicked the closure changes nothing that stood -/
theorem catch_idle (rb fb : Nat) (w : World) :
    CallsD Tryz.prog 30 #[.pointer (some ⟨rb, 0, none⟩), .pointer (some ⟨fb, 0, none⟩)] .returning w fun e u' w' => e = .returned (.tuple #[]) ∧ u' = .returning ∧ Below w.heap.size w w' := by
  refine callsD_of_wpS Tryz.func30 rfl fun c₀ cs hu => ?_
  apply wpS_seq
  apply wpS_region
  simp [wpOpsS, go_sem, recoverD, hu, Tryz.ntmps30, Exit.thenS]
  refine wpS_of_wp ?_
  rw [show ∀ x y V : Value, (#[x, y] ++ ((Array.replicate 15 undef).setIfInBounds 3 V).setIfInBounds 0 V) = #[x, y, V, undef, undef, V, undef, undef, undef, undef, undef, undef, undef, undef, undef, undef, undef] from fun _ _ _ => rfl]
  have hta : ∀ w : World, (Instr.typeAssert Value.nilIface 20 29 true).run Tryz.prog w = .ok (.tuple #[.agg #[.int .i64 0, .int .i64 0], .bool false]) w := fun _ => by kernel_rfl
  go_wp2_with fail
  refine ⟨rfl, _, rfl, .tuple #[], ?_, rfl, hu, (Below.refl _ w).alloc (Nat.le_refl _) _⟩
  simp [results, Tryz.results30, go_sem]
end Go.Proofs.YtakdhfjlhkejdaaGreatDoor

/-
  MATHEMATICS for package json's Copy: one value of a row is taken.
-/
set_option linter.unusedVariables false
namespace Go.Proofs.YtakdhfjlhkejdaaGreatDoor
open Go.RowKit
theorem CopyJ.next {w0 wr w' : World} {lo wb m0 g i r cap r' cap' k : Nat} {v : JV} {l lx : List JV} {S ext : List CE} {cur cur' : Array Value} {t : ByteArray} {ks : List ByteArray} {c2' c3' : Value} (h : CopyJ w0 lo v wb m0 l g i S r cap wr cur)
    (hx : l[i]? = some (.mk k t ks lx)) (hkeep : ∀ b, b < wr.heap.size → b ≠ g → b ≠ r → w'.heap[b]? = wr.heap[b]?) (hr : r' = r ∨ wr.heap.size ≤ r')
    (hown : w'.ownsRow lo 24 1 (.slice (some ⟨r', 0, none⟩) (S ++ ext).length cap') (S ++ ext).length ((S ++ ext).map sliceOf))
    (hrow : w'.heap[g]? = some (.cells cur' 26 (0, 0))) (hcur : ∀ q, q < i * 4 + 2 ∨ i * 4 + 4 ≤ q → cur'[q]? = cur[q]?) (h2 : cur'[i * 4 + 2]? = some c2') (h3 : cur'[i * 4 + 3]? = some c3') (hbel : Below w0.heap.size w0 w')
    (hkeys : ∃ ka kc, c2' = .slice ka ks.length kc ∧ (ks = [] ∨ ∃ kb off, ka = some ⟨kb, off, none⟩ ∧ wr.heap.size ≤ kb ∧ kb ≠ r' ∧ (∀ e ∈ ext, e.1 ≠ kb) ∧ ∀ j, j < ks.length → (plainW w').cell? ⟨kb, off + j, none⟩ = some (.string (ks.getD j ByteArray.empty))))
    (hext : (ext = [] ∧ lx = [] ∧ ∃ a cp, c3' = .slice a 0 cp) ∨ ∃ g' cp, ext = [(g', lx, cp)] ∧ wr.heap.size ≤ g' ∧ RowOK w0 w' lo r' (g', lx, cp) ∧ c3' = .slice (some ⟨g', 0, none⟩) lx.length cp) :
    CopyJ w0 lo v wb m0 l g (i + 1) (S ++ ext) r' cap' w' cur' := by
  have glt : g < wr.heap.size := (Array.getElem?_eq_some_iff.1 h.row).1
  have rlt : r < wr.heap.size := (h.own.lt r rfl).2
  have hwz : lo ≤ wr.heap.size := Nat.le_trans h.los h.bel.size
  have elt : ∀ e ∈ ext, wr.heap.size ≤ e.1 ∧ RowOK w0 w' lo r' e := by
    intro e he
    rcases hext with ⟨rfl, _⟩ | ⟨g', cp, rfl, hg', hok, _⟩
    · simp at he
    · rw [List.mem_singleton] at he
      subst he
      exact ⟨hg', hok⟩
  have hgr : g ≠ r' := by
    rcases hr with e | e
    · rw [e]; exact h.gfar
    · omega
  have hPS : ∀ b m, Pend S b m → Pend (S ++ ext) b m := fun b m ⟨c, hc⟩ => ⟨c, List.mem_append_left _ hc⟩
  have hPG : ∀ b m, Pend ((g, l, 0) :: S) b m → Pend ((g, l, 0) :: (S ++ ext)) b m := by
    rintro b m ⟨c, hc⟩
    rcases List.mem_cons.1 hc with hc | hc
    · exact ⟨c, by rw [hc]; exact List.mem_cons_self ..⟩
    · exact ⟨c, List.mem_cons_of_mem _ (List.mem_append_left _ hc)⟩
  have hst : Stays lo (hideP wr (hidS r ((g, l, 0) :: S))) (hideP w' (hidS r' ((g, l, 0) :: (S ++ ext)))) := by
    intro x c _ hc
    obtain ⟨hn0, hp0, hc⟩ := hideP_some hc
    · have hn : ¬ (hidS r ((g, l, 0) :: S) x.block = true) := by rw [hn0]; simp
      have hlt := cell_lt hc
      have n1 : x.block ≠ r := fun e => hn (hidS_iff.2 (.inl e))
      have n2 : x.block ≠ g := fun e => hn (hidS_iff.2 (.inr ⟨_, List.mem_cons_self .., e.symm⟩))
      have n3 : ∀ e ∈ S, e.1 ≠ x.block := fun e he e2 => hn (hidS_iff.2 (.inr ⟨e, List.mem_cons_of_mem _ he, e2⟩))
      have n4 : x.block ≠ r' := by
        rcases hr with e | e
        · rw [e]; exact n1
        · omega
      refine hideP_of (hidS_no n4 ?_) ((plainB_eq (hkeep _ hlt n2 n1)).trans hp0) ((World.cell?_of_block (hkeep _ hlt n2 n1)).trans hc)
      · intro e he
        rcases List.mem_cons.1 he with rfl | he
        · exact Ne.symm n2
        · rcases List.mem_append.1 he with he | he
          · exact n3 e he
          · have := (elt e he).1
            omega
  refine ⟨hown, ?_, ?_, h.gnew, hgr, ?_, hrow, ?_, ?_, ?_, h.wnew, ?_, h.los, hbel⟩
  · intro e he
    rcases List.mem_append.1 he with he | he
    · have ho := h.rows e he
      have hlt := ho.lt
      obtain ⟨c, hc, hc2⟩ := ho.old
      refine ⟨ho.new, ?_, ho.ne, ho.sz, ho.kz, c, (hkeep e.1 hlt (h.gdis e he) ho.far).trans hc, hc2⟩
      rcases hr with e2 | e2
      · rw [e2]; exact ho.far
      · omega
    · exact (elt e he).2
  · rw [List.map_append, List.nodup_append]
    refine ⟨h.dis, ?_, ?_⟩
    · rcases hext with ⟨rfl, _⟩ | ⟨g', cp, rfl, _⟩
      · simp
      · simp
    · intro a ha b hb e
      obtain ⟨x, hx1, hx2⟩ := List.mem_map.1 ha
      obtain ⟨y, hy1, hy2⟩ := List.mem_map.1 hb
      have q1 := (h.rows x hx1).lt
      have q2 := (elt y hy1).1
      omega
  · intro e he
    rcases List.mem_append.1 he with he | he
    · exact h.gdis e he
    · have := (elt e he).1
      omega
  · intro j x hj hjx
    obtain ⟨c0, c1, c2, c3, q0, q1, q2, q3, hq⟩ := h.old j x (by omega) hjx
    exact ⟨c0, c1, c2, c3, (hcur _ (.inr (by omega))).trans q0, (hcur _ (.inr (by omega))).trans q1, (hcur _ (.inr (by omega))).trans q2, (hcur _ (.inr (by omega))).trans q3, hq⟩
  · intro j x hj hjx
    rcases Nat.lt_or_ge j i with hji | hji
    · obtain ⟨c0, c1, c2, c3, q0, q1, q2, q3, hq⟩ := h.don j x hji hjx
      exact ⟨c0, c1, c2, c3, (hcur _ (.inl (by omega))).trans q0, (hcur _ (.inl (by omega))).trans q1, (hcur _ (.inl (by omega))).trans q2, (hcur _ (.inl (by omega))).trans q3, CV.step hst (fun b m hb => .inl (hPS b m hb)) _ _ _ _ _ hq⟩
    · obtain rfl : j = i := by omega
      rw [hx] at hjx
      cases hjx
      obtain ⟨c0, c1, c2, c3, q0, q1, q2, q3, hq⟩ := h.old j _ (Nat.le_refl _) hx
      simp only [IsV] at hq
      obtain ⟨e0, e1, _⟩ := hq
      refine ⟨c0, c1, c2', c3', (hcur _ (.inl (by omega))).trans q0, (hcur _ (.inl (by omega))).trans q1, h2, h3, ?_⟩
      simp only [CV]
      refine ⟨e0, e1, ?_, ?_⟩
      · obtain ⟨ka, kc, rfl, hk⟩ := hkeys
        refine ⟨ka, kc, rfl, ?_⟩
        rcases hk with hk | ⟨kb, off, e, hkb, hkr, hke, hk⟩
        · exact .inl hk
        · refine .inr ⟨kb, off, e, by omega, fun q hq => ?_⟩
          obtain ⟨_, hp0, hk0⟩ := hideP_some (hk q hq)
          refine hideP_of (hidS_no hkr fun y hy => ?_) hp0 hk0
          show y.1 ≠ kb
          rcases List.mem_cons.1 hy with rfl | hy
          · show g ≠ kb
            omega
          · rcases List.mem_append.1 hy with hy | hy
            · have := (h.rows y hy).lt
              omega
            · exact hke y hy
      · rcases hext with ⟨rfl, rfl, a, cp, rfl⟩ | ⟨g', cp, rfl, hg', _, rfl⟩
        · exact ⟨a, cp, rfl, .inl rfl⟩
        · exact ⟨_, cp, rfl, .inr ⟨g', rfl, by omega, .inl ⟨cp, by simp⟩⟩⟩
  · rcases h.root with hr2 | hr2
    · exact .inl (hPG _ _ hr2)
    · exact .inr (CRow.step hst (fun b m hb => .inl (hPG b m hb)) _ _ _ h.wnew hr2)
  · have ht := h.tot
    rw [sizeL_split hx] at ht
    simp only [sizeV] at ht
    rw [totC_append]
    rcases hext with ⟨rfl, rfl, _⟩ | ⟨g', cp, rfl, _⟩
    · simp only [totC, sizeL] at ht ⊢
      omega
    · simp only [totC]
      omega
theorem own_caps {w : World} {base : Nat} {e : TypeId} {size n m g cap : Nat} {xs : List Value} (h : w.ownsRow base e size (.slice (some ⟨g, 0, none⟩) m cap) n xs) : n ≤ cap ∧ cap ≤ 9223372036854775807 ∧ base ≤ g ∧ g < w.heap.size := by
  rcases h.2 with ⟨h0, _⟩ | ⟨g', cap', cur, hv, hb, hg, h1, h2, _⟩
  · cases h0
  · cases hv
    exact ⟨h1, by unfold maxLen at h2; omega, hb, (Array.getElem?_eq_some_iff.1 hg).1⟩
theorem CopyI.top {w0 wr : World} {lo wb N m g c r cap : Nat} {v : JV} {l : List JV} {S : List CE} (h : CopyI w0 lo v wb N m (S ++ [(g, l, c)]) r cap wr) :
    wr.cell? ⟨r, S.length, none⟩ = some (.slice (some ⟨g, 0, none⟩) l.length c) ∧ S.length + 1 ≤ cap ∧ cap ≤ 9223372036854775807 ∧ 0 < l.length ∧ sizeL l ≤ 1000000000000 ∧ keysL l ≤ 1000000000000 := by
  have hown := h.own
  rw [List.map_append] at hown
  have he := h.rows (g, l, c) (by simp)
  have hc := own_caps hown
  rw [List.length_append, List.length_singleton] at hc
  exact ⟨own_cellAt hown S.length _ (by rw [List.getElem?_append_right (by simp)]; simp [sliceOf]), hc.1, hc.2.1, List.length_pos_iff.2 he.ne, he.sz, he.kz⟩
theorem CopyJ.short {w0 wr : World} {lo wb m0 g i r cap : Nat} {v : JV} {l : List JV} {S : List CE} {cur : Array Value} (h : CopyJ w0 lo v wb m0 l g i S r cap wr cur) : S.length ≤ m0 := by
  have h1 := totC_len S h.rows
  have h2 := h.tot
  omega
theorem row_cell {w : World} {g q : Nat} {cur : Array Value} {T : TypeId} {u : Value} (h : w.heap[g]? = some (.cells cur T (0, 0))) (hq : cur[q]? = some u) : w.cell? ⟨g, q, none⟩ = some u := (Lib.cell_of_heap h q).trans hq
/-- the two stores of a round -/
theorem copy_two {w0 wr w1 w3 : World} {g p q : Nat} {x y : Value} {cur : Array Value} {T : TypeId} (hb1 : Below wr.heap.size wr w1) (hb3 : Below (w1.setCell ⟨g, p, none⟩ x).heap.size (w1.setCell ⟨g, p, none⟩ x) w3) (hrow : wr.heap[g]? = some (.cells cur T (0, 0)))
    (hbel : Below w0.heap.size w0 wr) (hg : w0.heap.size ≤ g) :
    (∀ b, b < w1.heap.size → b ≠ g → (w3.setCell ⟨g, q, none⟩ y).heap[b]? = w1.heap[b]?) ∧ (∀ b, b < wr.heap.size → b ≠ g → (w3.setCell ⟨g, q, none⟩ y).heap[b]? = wr.heap[b]?) ∧
      (w3.setCell ⟨g, q, none⟩ y).heap[g]? = some (.cells ((cur.setIfInBounds p x).setIfInBounds q y) T (0, 0)) ∧ wr.heap.size ≤ w1.heap.size ∧ w1.heap.size ≤ (w3.setCell ⟨g, q, none⟩ y).heap.size ∧ Below w0.heap.size w0 (w3.setCell ⟨g, q, none⟩ y) := by
  have hlt : g < wr.heap.size := (Array.getElem?_eq_some_iff.1 hrow).1
  have s1 := hb1.size
  have s2 : (w1.setCell ⟨g, p, none⟩ x).heap.size = w1.heap.size := set_size _ _ _
  have s3 := hb3.size
  have s4 : (w3.setCell ⟨g, q, none⟩ y).heap.size = w3.heap.size := set_size _ _ _
  have k1 : ∀ b, b < w1.heap.size → b ≠ g → (w3.setCell ⟨g, q, none⟩ y).heap[b]? = w1.heap[b]? := fun b hb hne =>
    (Below.heap_setCell _ _ _ _ hne).trans ((hb3.block b (by omega)).trans (Below.heap_setCell _ _ _ _ hne))
  have h1 : w1.heap[g]? = some (.cells cur T (0, 0)) := (hb1.block g hlt).trans hrow
  have h2 := heap_set h1 p x
  have h3 : w3.heap[g]? = some (.cells (cur.setIfInBounds p x) T (0, 0)) := (hb3.block g (by omega)).trans h2
  have h4 := heap_set h3 q y
  refine ⟨k1, fun b hb hne => (k1 b (by omega) hne).trans (hb1.block b hb), h4, s1, by omega, ?_⟩
  have hA : Below w0.heap.size w0 w1 := hbel.trans (hb1.mono hbel.size)
  have hB : Below w0.heap.size w0 (w1.setCell ⟨g, p, none⟩ x) := hA.setCell (p := ⟨g, p, none⟩) hg _
  have hC : Below w0.heap.size w0 w3 := hB.trans (hb3.mono hB.size)
  exact hC.setCell (p := ⟨g, q, none⟩) hg _
theorem cur_two {cur : Array Value} {i : Nat} {x y z2 z3 : Value} (h2 : cur[i * 4 + 2]? = some z2) (h3 : cur[i * 4 + 3]? = some z3) :
    (∀ q, q < i * 4 + 2 ∨ i * 4 + 4 ≤ q → ((cur.setIfInBounds (i * 4 + 2) x).setIfInBounds (i * 4 + 3) y)[q]? = cur[q]?) ∧ ((cur.setIfInBounds (i * 4 + 2) x).setIfInBounds (i * 4 + 3) y)[i * 4 + 2]? = some x ∧ ((cur.setIfInBounds (i * 4 + 2) x).setIfInBounds (i * 4 + 3) y)[i * 4 + 3]? = some y := by
  have l2 := (Array.getElem?_eq_some_iff.1 h2).1
  have l3 := (Array.getElem?_eq_some_iff.1 h3).1
  refine ⟨fun q hq => ?_, ?_, ?_⟩
  · rw [Array.getElem?_setIfInBounds_ne (by omega), Array.getElem?_setIfInBounds_ne (by omega)]
  · rw [Array.getElem?_setIfInBounds_ne (by omega), Array.getElem?_setIfInBounds_self_of_lt l2]
  · rw [Array.getElem?_setIfInBounds_self_of_lt (by rw [Array.size_setIfInBounds]; exact l3)]
theorem keys_lt {w : World} {lo : Nat} {ks : List ByteArray} {ka : Option Addr} {kc : Nat} (h : IsKeys w lo ks (.slice ka ks.length kc)) : ks = [] ∨ ∃ kb off, ka = some ⟨kb, off, none⟩ ∧ lo ≤ kb ∧ kb < w.heap.size ∧ ∀ j, j < ks.length → w.cell? ⟨kb, off + j, none⟩ = some (.string (ks.getD j ByteArray.empty)) := by
  obtain ⟨a, c, e, h⟩ := h
  cases e
  rcases h with h | ⟨kb, off, e, hl, hc⟩
  · exact .inl h
  · rcases Nat.eq_zero_or_pos ks.length with h0 | h0
    · exact .inl (List.length_eq_zero_iff.1 h0)
    · exact .inr ⟨kb, off, e, hl, cell_lt (hc 0 h0), hc⟩
theorem CopyJ.rnew {w0 wr : World} {lo wb m0 g i r cap : Nat} {v : JV} {l : List JV} {S : List CE} {cur : Array Value} (h : CopyJ w0 lo v wb m0 l g i S r cap wr cur) : lo ≤ r := (own_caps h.own).2.2.1
theorem CopyJ.skip {w0 wr w1 w3 : World} {lo wb m0 g i r cap k kc cp : Nat} {v : JV} {l lx : List JV} {S : List CE} {cur : Array Value} {t : ByteArray} {ks : List ByteArray} {ka a' : Option Addr} {z2 z3 : Value} (h : CopyJ w0 lo v wb m0 l g i S r cap wr cur)
    (hx : l[i]? = some (.mk k t ks lx)) (q2 : cur[i * 4 + 2]? = some z2) (q3 : cur[i * 4 + 3]? = some z3) (h0 : lx.length = 0) (hb1 : Below wr.heap.size wr w1)
    (hb3 : Below (w1.setCell ⟨g, i * 4 + 2, none⟩ (.slice ka ks.length kc)).heap.size (w1.setCell ⟨g, i * 4 + 2, none⟩ (.slice ka ks.length kc)) w3) (hK : IsKeys (plainW w1) wr.heap.size ks (.slice ka ks.length kc)) (hg : w0.heap.size ≤ g) :
    CopyJ w0 lo v wb m0 l g (i + 1) S r cap (w3.setCell ⟨g, i * 4 + 3, none⟩ (.slice a' 0 cp)) ((cur.setIfInBounds (i * 4 + 2) (.slice ka ks.length kc)).setIfInBounds (i * 4 + 3) (.slice a' 0 cp)) := by
  have glt : g < wr.heap.size := (Array.getElem?_eq_some_iff.1 h.row).1
  have rlt : r < wr.heap.size := (h.own.lt r rfl).2
  obtain ⟨t1, t2, t3, t4, t5, t6⟩ := copy_two (q := i * 4 + 3) (y := .slice a' 0 cp) hb1 hb3 h.row h.bel hg
  obtain ⟨u1, u2, u3⟩ := cur_two (x := .slice ka ks.length kc) (y := .slice a' 0 cp) q2 q3
  have := CopyJ.next (ext := []) (r' := r) (cap' := cap) h hx (fun b hb h1 _ => t2 b hb h1) (.inl rfl) (by rw [List.append_nil]; exact own_eq h.own (t2 r rlt (Ne.symm h.gfar))) t3 u1 u2 u3 t6 ?_ (.inl ⟨rfl, List.length_eq_zero_iff.1 h0, _, _, rfl⟩)
  · rw [List.append_nil] at this
    exact this
  · refine ⟨ka, kc, rfl, ?_⟩
    rcases keys_lt hK with hk | ⟨kb, off, e, hl, hlt, hc⟩
    · exact .inl hk
    · rw [hideP_size] at hlt
      exact .inr ⟨kb, off, e, hl, by omega, by simp, fun j hj => (plain_cell (t1 kb hlt (by omega))).trans (hc j hj)⟩
theorem CopyJ.push {w0 wr w1 w3 w6 : World} {O : Obj} {lo wb m0 g i r cap k kc cp g' r2 cap2 : Nat} {v : JV} {l lx : List JV} {S : List CE} {cur cur' : Array Value} {t : ByteArray} {ks : List ByteArray} {ka : Option Addr} {z2 z3 : Value} (h : CopyJ w0 lo v wb m0 l g i S r cap wr cur)
    (hx : l[i]? = some (.mk k t ks lx)) (q2 : cur[i * 4 + 2]? = some z2) (q3 : cur[i * 4 + 3]? = some z3) (h0 : 0 < lx.length) (hb1 : Below wr.heap.size wr w1)
    (hb3 : Below (w1.setCell ⟨g, i * 4 + 2, none⟩ (.slice ka ks.length kc)).heap.size (w1.setCell ⟨g, i * 4 + 2, none⟩ (.slice ka ks.length kc)) w3) (hK : IsKeys (plainW w1) wr.heap.size ks (.slice ka ks.length kc)) (hg : w0.heap.size ≤ g)
    (hr0 : w0.heap.size ≤ r) (hsl : sizeL l ≤ 1000000000000) (hkl : keysL l ≤ 1000000000000) (hg' : (w1.setCell ⟨g, i * 4 + 2, none⟩ (.slice ka ks.length kc)).heap.size ≤ g') (hc' : w3.heap[g']? = some (.cells cur' 26 (0, 0))) (ho' : OldFrom w0 lx cur' 0)
    (hgrow : ((w3.setCell ⟨g, i * 4 + 3, none⟩ (.slice (some ⟨g', 0, none⟩) lx.length cp)).alloc O).grownBy w6 (some r)) (hat : some r = some r2 ∨ r2 = ((w3.setCell ⟨g, i * 4 + 3, none⟩ (.slice (some ⟨g', 0, none⟩) lx.length cp)).alloc O).heap.size)
    (hown6 : w6.ownsRow lo 24 1 (.slice (some ⟨r2, 0, none⟩) (S.length + 1) cap2) (S.length + 1) (S.map sliceOf ++ [.slice (some ⟨g', 0, none⟩) lx.length cp])) :
    CopyJ w0 lo v wb m0 l g (i + 1) (S ++ [(g', lx, cp)]) r2 cap2 w6 ((cur.setIfInBounds (i * 4 + 2) (.slice ka ks.length kc)).setIfInBounds (i * 4 + 3) (.slice (some ⟨g', 0, none⟩) lx.length cp)) := by
  have glt : g < wr.heap.size := (Array.getElem?_eq_some_iff.1 h.row).1
  have rlt : r < wr.heap.size := (h.own.lt r rfl).2
  obtain ⟨t1, t2, t3, t4, t5, t6⟩ := copy_two (q := i * 4 + 3) (y := .slice (some ⟨g', 0, none⟩) lx.length cp) hb1 hb3 h.row h.bel hg
  obtain ⟨u1, u2, u3⟩ := cur_two (x := .slice ka ks.length kc) (y := .slice (some ⟨g', 0, none⟩) lx.length cp) q2 q3
  have gl' : g' < w3.heap.size := (Array.getElem?_eq_some_iff.1 hc').1
  rw [set_size] at hg'
  have hc4 : (w3.setCell ⟨g, i * 4 + 3, none⟩ (.slice (some ⟨g', 0, none⟩) lx.length cp)).heap[g']? = some (.cells cur' 26 (0, 0)) := (Below.heap_setCell _ _ _ _ (show g' ≠ g by omega)).trans hc'
  have hs4 : (w3.setCell ⟨g, i * 4 + 3, none⟩ (.slice (some ⟨g', 0, none⟩) lx.length cp)).heap.size = w3.heap.size := set_size _ _ _
  generalize w3.setCell ⟨g, i * 4 + 3, none⟩ (.slice (some ⟨g', 0, none⟩) lx.length cp) = w4 at *
  have hsa : (w4.alloc O).heap.size = w4.heap.size + 1 := World.size_alloc _ _
  have k6 : ∀ b, b < w4.heap.size → b ≠ r → w6.heap[b]? = w4.heap[b]? := fun b hb hne => (hgrow.block b (by omega) (by intro e; cases e; exact hne rfl)).trans (Lib.alloc_old _ _ _ hb)
  have hr2 : r2 = r ∨ wr.heap.size ≤ r2 := by
    rcases hat with e | e
    · cases e; exact .inl rfl
    · right; omega
  have hgr2 : g' ≠ r2 := by
    rcases hat with e | e
    · cases e; omega
    · omega
  have hxs : sizeV (.mk k t ks lx) ≤ sizeL l := sizeV_in hx
  have hxk : keysV (.mk k t ks lx) ≤ keysL l := keysV_in hx
  simp only [sizeV, keysV] at hxs hxk
  have hlo := h.los
  have hws := h.bel.size
  have hb6 : Below w0.heap.size w0 w6 := by
    have hA : Below w0.heap.size w0 (w4.alloc O) := t6.alloc t6.size _
    exact ⟨hgrow.os.trans hA.os, hgrow.tape.trans hA.tape, hgrow.output.trans hA.output, Nat.le_trans hA.size hgrow.size, fun b hb => (k6 b (by have := t6.size; omega) (by omega)).trans (t6.block b hb)⟩
  refine CopyJ.next (ext := [(g', lx, cp)]) (r' := r2) (cap' := cap2) h hx (fun b hb h1 h2 => (k6 b (by omega) h2).trans (t2 b hb h1)) hr2 ?_ ((k6 g (by omega) h.gfar).trans t3) u1 u2 u3 hb6 ?_ (.inr ⟨g', cp, rfl, by omega, ⟨by show lo ≤ g'; omega, hgr2, List.length_pos_iff.1 h0, by show sizeL lx ≤ _; omega, by show keysL lx ≤ _; omega, cur', (k6 g' (by omega) (by omega)).trans hc4, ho'⟩, rfl⟩)
  · rw [List.length_append, List.map_append]
    exact hown6
  · refine ⟨ka, kc, rfl, ?_⟩
    rcases keys_lt hK with hk | ⟨kb, off, e, hl, hlt, hc⟩
    · exact .inl hk
    · rw [hideP_size] at hlt
      have hkr : kb ≠ r2 := by
        rcases hat with e | e
        · cases e; omega
        · omega
      refine .inr ⟨kb, off, e, hl, hkr, ?_, fun j hj => ?_⟩
      · intro e he
        rw [List.mem_singleton] at he
        subst he
        show g' ≠ kb
        omega
      · exact (plain_cell ((k6 kb (by omega) (by omega)).trans (t1 kb hlt (by omega)))).trans (hc j hj)
theorem new_behind (w3 : World) (a : Addr) (y z : Value) (T : TypeId) : ((w3.setCell a y).alloc (.cells #[z] T)).heap[w3.heap.size]? = some (.cells #[z] T (0, 0)) := by
  have h := heap_alloc_new (w3.setCell a y) (.cells #[z] T)
  rw [set_size] at h
  exact h
end Go.Proofs.YtakdhfjlhkejdaaGreatDoor
