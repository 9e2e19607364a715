/-
  CONTRACT of codicilref02.quoted: a text in quotes. Rows of numbers that grow (as XShaApp has them). (gen_rqu.py writes it.)
-/
import Derived.Test.YtakdhfjlhkejdaaGreatDoorN8
import Derived.Test.YtakdhfjlhkejdaaGreatDoorCJsonRNum
import Derived.Laws.OwnMore
import Derived.OwnWalk
import Derived.BigRegion
import Derived.BigQuiet
import Derived.Deep.QuietTactic
import Derived.Deep.WholeRow
import Derived.Deep.RegionWith
import Derived.Deep.AppendLies
set_option linter.unusedSimpArgs false
set_option linter.unusedVariables false
set_option linter.unusedVariables false
set_option linter.unusedSimpArgs false
namespace Go.Proofs.YtakdhfjlhkejdaaGreatDoor
open Go.RowKit
/-- numbers of a kind, of b bytes each, in slices of type T -/
structure ElQ (T E : TypeId) (k : IntKind) (b : Nat) : Prop where
  ht : Tryz.prog.underlying T = some (.slice E)
  hi : (Tryz.prog.info? E).map (fun i => (i.zero, i.size, i.bytes)) = some (some (.int k 0), 1, b)
theorem elQ8 : ElQ 52 5 .u8 1 := ⟨Tryz.underlying52, by kernel_rfl⟩

/-- v owns the numbers xs, in a block from B on -/
def OQ (E : TypeId) (k : IntKind) (w : World) (B : Nat) (v : Value) (xs : List Int) : Prop := w.ownsRow B E 1 v xs.length (xs.map (Value.int k))
section
variable {T E : TypeId} {k : IntKind} {b B : Nat} {w : World} {v : Value} {xs : List Int}
theorem OQ.nil (E : TypeId) (k : IntKind) (w : World) (B : Nat) : OQ E k w B (.slice none 0 0) [] := World.ownsRow_nil _ _ _ _
theorem OQ.alloc (h : OQ E k w B v xs) (o : Obj) : OQ E k (w.alloc o) B v xs := World.ownsRow.alloc h o
theorem OQ.drew (h : OQ E k w B v xs) : OQ E k w.drew B v xs := h
theorem OQ.below (h : OQ E k w B v xs) {B' : Nat} {w' : World} (hb : Below B' w w') (hv : ∀ g, v.ownBlock = some g → g < B') : OQ E k w' B v xs := by
  refine ⟨h.1, ?_⟩
  rcases h.2 with hn | ⟨g, cap, cur, rfl, h1, h2, h3⟩
  · exact .inl hn
  · exact .inr ⟨g, cap, cur, rfl, h1, (hb.block g (hv g rfl)).trans h2, h3⟩
theorem OQ.lt (h : OQ E k w B v xs) : ∀ g, v.ownBlock = some g → g < w.heap.size := fun g hg => (World.ownsRow.lt h g hg).2
theorem OQ.keep (h : OQ E k w B v xs) {w' : World} (hb : Below w.heap.size w w') : OQ E k w' B v xs := h.below hb h.lt
/-- the shape of a value that owns something -/
theorem OQ.shape (h : OQ E k w B v xs) (hn : xs ≠ []) : ∃ g cap, v = .slice (some ⟨g, 0, none⟩) xs.length cap ∧ B ≤ g ∧ g < w.heap.size ∧ xs.length ≤ cap := by
  rcases h.2 with ⟨_, hz⟩ | ⟨g, cap, cur, rfl, h1, h2, h3, _⟩
  · exact absurd (List.eq_nil_of_length_eq_zero hz) hn
  · exact ⟨g, cap, rfl, h1, (Array.getElem?_eq_some_iff.1 h2).1, h3⟩
theorem OQ.cell {g cap : Nat} (h : OQ E k w B (.slice (some ⟨g, 0, none⟩) xs.length cap) xs) {j : Nat} (hj : j < xs.length) : w.cell? ⟨g, j, none⟩ = some (.int k (xs.getD j 0)) := by
  rw [World.ownsRow.cellAt h j (by omega)]
  simp [List.getD, List.getElem?_eq_getElem hj]
theorem OQ.free {g cap : Nat} (h : OQ E k w B (.slice (some ⟨g, 0, none⟩) xs.length cap) xs) (j : Nat) : w.frozen? ⟨g, j, none⟩ = false := World.ownsRow.frozenAt h j
theorem OQ.set {g cap : Nat} (h : OQ E k w B (.slice (some ⟨g, 0, none⟩) xs.length cap) xs) (j : Nat) (u : Int) : OQ E k (w.setCell ⟨g, j, none⟩ (.int k u)) B (.slice (some ⟨g, 0, none⟩) (xs.set j u).length cap) (xs.set j u) := by
  have := (World.ownsRow.stored h j (.int k u)).1
  unfold OQ
  rw [List.length_set, List.map_set]
  exact this
/-- a literal's own row -/
theorem OQ.lit (w : World) (E : TypeId) (k : IntKind) (ns : List Int) (hB : B ≤ w.heap.size) (hm : ns.length ≤ maxLen) : OQ E k (w.alloc (.cells (ns.map (Value.int k)).toArray E)) B (.slice (some ⟨w.heap.size, 0, none⟩) ns.length ns.length) ns := by
  refine ⟨by simp, .inr ⟨w.heap.size, ns.length, _, rfl, hB, heap_alloc_new w _, Nat.le_refl _, hm, by simp, by simp [List.take_of_length_le]⟩⟩

theorem op_appQ {o : Oper} {a : Act} {K : Act → World → Prop} {Q : Exit → Act → World → Prop} (el : ElQ T E k b) (s x : Operand)
    (ho : o.op = .call { callee := .builtin .append, args := #[s, x], argTypes := #[T, T] }) (hs : a.eval s = v) (hown : OQ E k w B v xs)
    (ns : List Int) (m : Nat) (hx : a.eval x = .slice (some ⟨w.heap.size, 0, none⟩) m m) (hm : ns.length = m) (hbytes : (xs.length + m) * b ≤ 140737488355328) (hb : 0 < b) (hbase : B ≤ w.heap.size)
    (h : ∀ v' w', OQ E k w' B v' (xs ++ ns) → Below B w w' → K (a.put o.dst v') w') : o.wp Tryz.prog a (w.alloc (.cells (ns.map (Value.int k)).toArray E)) K Q := by
  obtain ⟨i0, hi, hz0, hz1, hz2⟩ := info_parts el.hi
  have hl : xs.length + m ≤ maxLen := by
    have : xs.length + m ≤ (xs.length + m) * b := Nat.le_mul_of_pos_right _ hb
    unfold maxLen
    omega
  refine wp_append_own _ s x T ho B E i0 (.int k 0) 1 b el.ht hi hz0 hz1 hz2 rfl (by decide) v xs.length _ hs (World.ownsRow.alloc hown _) ⟨w.heap.size, 0, none⟩ m m (ns.map (Value.int k)) hx (by simp [hm]) ?_ ?_ hl hbytes (by simp; omega) ?_
  · intro j u hj
    have hn : (⟨w.heap.size, 0, none⟩ : Addr).add j = ⟨w.heap.size, j, none⟩ := by unfold Addr.add; split <;> simp_all
    rw [hn, cell_of_row _ _ j _ E (0, 0) (heap_alloc_new w _)]
    simpa using hj
  · intro u hu
    simp only [List.mem_map] at hu
    obtain ⟨z, _, rfl⟩ := hu
    rfl
  · intro v' w' h1 h2 _
    refine h v' w' ?_ ?_
    · have e : (xs ++ ns).length = xs.length + m := by simp [hm]
      unfold OQ
      rw [e, List.map_append]
      exact h1
    · refine ((Below.refl B w).alloc hbase _).grown h2 (by simp; omega) ?_
      intro g hg
      exact (World.ownsRow.lt hown g hg).1
theorem wp_appQ {ops : Array Oper} {rest : List Oper} {o : Oper} {a : Act} {Q : Exit → Act → World → Prop} (el : ElQ T E k b) (hgd : o.guard = none) (s x : Operand)
    (ho : o.op = .call { callee := .builtin .append, args := #[s, x], argTypes := #[T, T] }) (hs : a.eval s = v) (hown : OQ E k w B v xs)
    (ns : List Int) (m : Nat) (hx : a.eval x = .slice (some ⟨w.heap.size, 0, none⟩) m m) (hm : ns.length = m) (hbytes : (xs.length + m) * b ≤ 140737488355328) (hb : 0 < b) (hbase : B ≤ w.heap.size)
    (h : ∀ v' w', OQ E k w' B v' (xs ++ ns) → Below B w w' → wpList Tryz.prog ops Q rest (a.put o.dst v') w') : wpList Tryz.prog ops Q (o :: rest) a (w.alloc (.cells (ns.map (Value.int k)).toArray E)) :=
  wpList_plain hgd fun _ hK => op_appQ el s x ho hs hown ns m hx hm hbytes hb hbase fun v' w' h1 h2 => hK _ _ (h v' w' h1 h2)
end
theorem conv_ownQ {w : World} {B : Nat} {v : Value} {xs : List Int} (h : OQ 5 .u8 w B v xs) :
    (convert 52 9 v).run Tryz.prog w = .ok (.string (strOfNums xs)) w := by
  rcases h.2 with ⟨rfl, hz⟩ | ⟨g, cap, cur, rfl, h1, h2, h3⟩
  · rw [run_convert_bytes_nil _ 52 5 Tryz.underlying52 Tryz.underlying5 0 0 9 Tryz.underlying9, List.eq_nil_of_length_eq_zero hz]
    rfl
  · refine run_convert_bytes_arg _ 52 5 Tryz.underlying52 Tryz.underlying5 _ 0 _ _ xs rfl ?_ 9 Tryz.underlying9
    intro j hj
    rw [Nat.zero_add]
    exact OQ.cell h hj

/-! ### What is quoted, as numbers -/
def qI (l : List UInt8) : List Int := l.map fun b => ((b.toNat : Nat) : Int)
theorem qI_app (l m : List UInt8) : qI (l ++ m) = qI l ++ qI m := by simp [qI]
theorem qI_str (l : List UInt8) : strOfNums (qI l) = ⟨l.toArray⟩ := by
  unfold strOfNums qI
  rw [List.map_map]
  congr 2
  conv => rhs; rw [← List.map_id l]
  refine List.map_congr_left fun b _ => ?_
  simp
theorem qI_len (l : List UInt8) : (qI l).length = l.length := by simp [qI]
/-- what has been written when i bytes are behind -/
def quA (s : ByteArray) (i : Nat) : List Int := qI (34 :: quoM (s.data.toList.take i))
theorem quA_len (s : ByteArray) (i : Nat) : (quA s i).length ≤ 6 * s.size + 1 := by
  unfold quA
  rw [qI_len, List.length_cons]
  have h1 := quoM_len (s.data.toList.take i)
  have h2 := List.length_take_le i s.data.toList
  have h3 := List.length_take_le' i s.data.toList
  rw [Lib.size_eq]
  omega
theorem quA_on (s : ByteArray) (i : Nat) (hi : i < s.size) : quA s (i + 1) = quA s i ++ qI (quoB s[i]) := by
  have hi2 : i < s.data.toList.length := by rw [← Lib.size_eq]; exact hi
  have e : s.data.toList[i]'hi2 = s[i] := rfl
  unfold quA
  rw [List.take_succ_eq_append_getElem hi2, quoM_append, e, ← List.cons_append, qI_app]
  simp [quoM]
theorem quA_end (s : ByteArray) : strOfNums (quA s s.size ++ [34]) = ⟨(quoL s.data.toList).toArray⟩ := by
  have e : quA s s.size ++ [34] = qI (quoL s.data.toList) := by
    unfold quA quoL
    rw [Lib.size_eq, List.take_length, ← List.cons_append, qI_app]
    rfl
  rw [e, qI_str]
theorem quB_two (b : UInt8) (h : b = 34 ∨ b = 92) : qI (quoB b) = [92, ((b.toNat : Nat) : Int)] := by
  rcases h with rfl | rfl <;> rfl
theorem hexQ_low : ∀ n : Nat, n < 32 → hexD (n / 16) = UInt8.ofNat (48 + n / 16) := by decide
theorem quB_hexB : ∀ n : Nat, n < 32 → (n == 8 || n == 12 || n == 10 || n == 13 || n == 9 || qI (quoB (UInt8.ofNat n)) == [92, 117, 48, 48, ((48 + n / 16 : Nat) : Int), (((hexD (n % 16)).toNat : Nat) : Int)]) = true := by decide +kernel
theorem quB_hex (n : Nat) (h : n < 32) (h1 : n ≠ 8) (h2 : n ≠ 12) (h3 : n ≠ 10) (h4 : n ≠ 13) (h5 : n ≠ 9) : qI (quoB (UInt8.ofNat n)) = [92, 117, 48, 48, ((48 + n / 16 : Nat) : Int), (((hexD (n % 16)).toNat : Nat) : Int)] := by
  have := quB_hexB n h
  simpa [h1, h2, h3, h4, h5] using this
theorem quB_plain : ∀ n : Nat, n < 256 → 32 ≤ n → n ≠ 34 → n ≠ 92 → qI (quoB (UInt8.ofNat n)) = [((n : Nat) : Int)] := by decide +kernel
theorem run_index_qu (s : ByteArray) (i : Nat) (k : IntKind) (hi : i < s.size) (w : World) :
    (Instr.index 9 (.string s) (.int k i)).run Tryz.prog w = .ok (.int .u8 ((s[i].toNat : Nat) : Int)) w := by
  have h0 : (0 : Int) ≤ (i : Int) := by omega
  simp [Instr.index, run_underlying Tryz.underlying9, asIntOf, hi, go_sem]
def hexS : ByteArray := ⟨#[48, 49, 50, 51, 52, 53, 54, 55, 56, 57, 97, 98, 99, 100, 101, 102]⟩
theorem run_hexS (n : Nat) (h : n < 16) (w : World) : (Instr.index 9 (.string ⟨#[48, 49, 50, 51, 52, 53, 54, 55, 56, 57, 97, 98, 99, 100, 101, 102]⟩) (.int .u8 (n : Nat))).run Tryz.prog w = .ok (.int .u8 (((hexD n).toNat : Nat) : Int)) w := by
  rw [run_index_qu ⟨#[48, 49, 50, 51, 52, 53, 54, 55, 56, 57, 97, 98, 99, 100, 101, 102]⟩ n .u8 h]
  have e : ∀ m : Fin 16, (ByteArray.mk #[48, 49, 50, 51, 52, 53, 54, 55, 56, 57, 97, 98, 99, 100, 101, 102])[m.val]'m.isLt = hexD m.val := by decide
  rw [e ⟨n, h⟩]
theorem hexS_lt (n : Nat) : n % 16 < (ByteArray.mk #[48, 49, 50, 51, 52, 53, 54, 55, 56, 57, 97, 98, 99, 100, 101, 102]).size := by show n % 16 < 16; omega
theorem hexS_at (n : Nat) : (ByteArray.mk #[48, 49, 50, 51, 52, 53, 54, 55, 56, 57, 97, 98, 99, 100, 101, 102])[n % 16]'(hexS_lt n) = hexD (n % 16) := by
  have e : ∀ m : Fin 16, (ByteArray.mk #[48, 49, 50, 51, 52, 53, 54, 55, 56, 57, 97, 98, 99, 100, 101, 102])[m.val]'m.isLt = hexD m.val := by decide
  exact e ⟨n % 16, by omega⟩
set_option maxRecDepth 10000000 in
set_option maxHeartbeats 8000000 in
theorem refQuoted_any (s : ByteArray) (w : World) (hs : s.size ≤ 1000000000000) :
    Calls Tryz.prog 46 #[.string s] w fun e w' => e = .returned (.string ⟨(quoL s.data.toList).toArray⟩) ∧ Below w.heap.size w w' := by
  have E := Lib.hid (quA_end s)
  have HL := Lib.hid (quA_len s)
  have HO := Lib.hid (quA_on s)
  generalize ByteArray.mk (quoL s.data.toList).toArray = Q at *
  go_enter Tryz.func46, Tryz.ntmps46
  go_wp2_with fail
  have hO0 : OQ 5 .u8 (w.alloc (.cells #[.int .u8 34] 5)) w.heap.size (.slice (some ⟨w.heap.size, 0, none⟩) 1 1) (quA s 0) := OQ.lit w 5 .u8 [34] (Nat.le_refl _) (by unfold maxLen; decide)
  have hb0 : Below w.heap.size w (w.alloc (.cells #[.int .u8 34] 5)) := (Below.refl _ _).alloc (Nat.le_refl _) _
  go_loopw [3, 4] (fun vs vi wr => ∃ j : Nat, vi = .int .i64 j ∧ j ≤ s.size ∧ OQ 5 .u8 wr w.heap.size vs (quA s j) ∧ Below w.heap.size w wr) (fun _ vi _ => s.size - (intOf vi).toNat)
  case atStart => exact ⟨0, rfl, Nat.zero_le _, hO0, hb0⟩
  case round =>
    obtain ⟨j, rfl, hj, hO, hB⟩ := hrel
    by_cases hlt : j < s.size
    · have HO1 := Lib.hid (HO.out j hlt)
      have hlen := HL.out j
      have hlt2 : (j : Int) < (s.size : Int) := by omega
      obtain ⟨b, hb⟩ : ∃ b, b = s[j] := ⟨_, rfl⟩
      rw [← hb] at HO1
      have hbn := b.toNat_lt
      have hbo : UInt8.ofNat b.toNat = b := by simp
      have HH := Lib.hid (quB_hex b.toNat)
      have HP := Lib.hid (quB_plain b.toNat hbn)
      have HT := Lib.hid (quB_two b)
      rw [hbo] at HH HP
      obtain ⟨n, hn⟩ : ∃ n, n = b.toNat := ⟨_, rfl⟩
      generalize quA s j = A at *
      have HJ := Lib.hid hlen
      have hA : (A.length + 6) * 1 ≤ 140737488355328 := by omega
      clear hlen hO0 hb0
      have FIN : ∀ (ns : List Int) (v' : Value) (W' : World), qI (quoB b) = ns → OQ 5 .u8 W' w.heap.size v' (A ++ ns) → Below w.heap.size w W' → ∃ j' : Nat, (Value.int .i64 ((j : Int) + 1)) = .int .i64 (j' : Nat) ∧ j' ≤ s.size ∧ OQ 5 .u8 W' w.heap.size v' (quA s j') ∧ Below w.heap.size w W' := fun ns v' W' e h1 h2 => ⟨j + 1, by go_num, hlt, by rw [HO1.out, e]; exact h1, h2⟩
      have HF := Lib.hid FIN
      clear FIN
      obtain ⟨x, hx⟩ : ∃ x : Int, x = ((b.toNat : Nat) : Int) := ⟨_, rfl⟩
      have hx0 : ∀ w : World, (Instr.index 9 (.string s) (.int .i64 (j : Nat))).run Tryz.prog w = .ok (.int .u8 x) w := fun w => by have h := run_index_qu s j .i64 hlt w; rw [← hb, ← hx] at h; exact h
      have hxn : x = (n : Int) := by omega
      have hx0r : 0 ≤ x ∧ x < 256 := by omega
      have HX := Lib.hid hx
      have HN := Lib.hid hn
      have HXN := Lib.hid hxn
      have HBO := Lib.hid hbo
      clear hb hx hn hxn hbo
      by_cases c0 : x = 34
      · have e : b = 34 := by have := HXN.out; rw [← HBO.out, ← HN.out, show n = 34 by omega]; rfl
        subst c0
        go_wp2_with (at_builtin; refine wp_appQ elQ8 rfl (.tmp 27) (.tmp 29) rfl rfl hO [92, 34] 2 rfl rfl (by omega) (by decide) hB.size ?_; intro v' w1 hO1 hb1)
        go_roundw
        case rel => exact HF.out _ _ _ (by rw [e]; rfl) hO1 (hB.trans hb1)
        case measure => simp [intOf]; omega
      by_cases c1 : x = 92
      · have e : b = 92 := by have := HXN.out; rw [← HBO.out, ← HN.out, show n = 92 by omega]; rfl
        subst c1
        go_wp2_with (at_builtin; refine wp_appQ elQ8 rfl (.tmp 27) (.tmp 29) rfl rfl hO [92, 92] 2 rfl rfl (by omega) (by decide) hB.size ?_; intro v' w1 hO1 hb1)
        go_roundw
        case rel => exact HF.out _ _ _ (by rw [e]; rfl) hO1 (hB.trans hb1)
        case measure => simp [intOf]; omega
      by_cases c2 : x = 8
      · have e : b = 8 := by have := HXN.out; rw [← HBO.out, ← HN.out, show n = 8 by omega]; rfl
        subst c2
        go_wp2_with (at_builtin; refine wp_appQ elQ8 rfl (.tmp 34) (.tmp 35) rfl rfl hO [92, 98] 2 rfl rfl (by omega) (by decide) hB.size ?_; intro v' w1 hO1 hb1)
        go_roundw
        case rel => exact HF.out _ _ _ (by rw [e]; rfl) hO1 (hB.trans hb1)
        case measure => simp [intOf]; omega
      by_cases c3 : x = 12
      · have e : b = 12 := by have := HXN.out; rw [← HBO.out, ← HN.out, show n = 12 by omega]; rfl
        subst c3
        go_wp2_with (at_builtin; refine wp_appQ elQ8 rfl (.tmp 40) (.tmp 41) rfl rfl hO [92, 102] 2 rfl rfl (by omega) (by decide) hB.size ?_; intro v' w1 hO1 hb1)
        go_roundw
        case rel => exact HF.out _ _ _ (by rw [e]; rfl) hO1 (hB.trans hb1)
        case measure => simp [intOf]; omega
      by_cases c4 : x = 10
      · have e : b = 10 := by have := HXN.out; rw [← HBO.out, ← HN.out, show n = 10 by omega]; rfl
        subst c4
        go_wp2_with (at_builtin; refine wp_appQ elQ8 rfl (.tmp 46) (.tmp 47) rfl rfl hO [92, 110] 2 rfl rfl (by omega) (by decide) hB.size ?_; intro v' w1 hO1 hb1)
        go_roundw
        case rel => exact HF.out _ _ _ (by rw [e]; rfl) hO1 (hB.trans hb1)
        case measure => simp [intOf]; omega
      by_cases c5 : x = 13
      · have e : b = 13 := by have := HXN.out; rw [← HBO.out, ← HN.out, show n = 13 by omega]; rfl
        subst c5
        go_wp2_with (at_builtin; refine wp_appQ elQ8 rfl (.tmp 52) (.tmp 53) rfl rfl hO [92, 114] 2 rfl rfl (by omega) (by decide) hB.size ?_; intro v' w1 hO1 hb1)
        go_roundw
        case rel => exact HF.out _ _ _ (by rw [e]; rfl) hO1 (hB.trans hb1)
        case measure => simp [intOf]; omega
      by_cases c6 : x = 9
      · have e : b = 9 := by have := HXN.out; rw [← HBO.out, ← HN.out, show n = 9 by omega]; rfl
        subst c6
        go_wp2_with (at_builtin; refine wp_appQ elQ8 rfl (.tmp 58) (.tmp 59) rfl rfl hO [92, 116] 2 rfl rfl (by omega) (by decide) hB.size ?_; intro v' w1 hO1 hb1)
        go_roundw
        case rel => exact HF.out _ _ _ (by rw [e]; rfl) hO1 (hB.trans hb1)
        case measure => simp [intOf]; omega
      by_cases c7 : x < 32
      · have e0 : (x == 34) = false := beq_false_of_ne (by omega)
        have e1 : (x == 92) = false := beq_false_of_ne (by omega)
        have e2 : (x == 8) = false := beq_false_of_ne (by omega)
        have e3 : (x == 12) = false := beq_false_of_ne (by omega)
        have e4 : (x == 10) = false := beq_false_of_ne (by omega)
        have e5 : (x == 13) = false := beq_false_of_ne (by omega)
        have e6 : (x == 9) = false := beq_false_of_ne (by omega)
        have q1 : x / 16 = ((n / 16 : Nat) : Int) := by have := HXN.out; omega
        have q2 : x % 16 = ((n % 16 : Nat) : Int) := by have := HXN.out; omega
        go_wp2_with (at_builtin; refine wp_appQ elQ8 rfl (.tmp 64) (.tmp 71) rfl rfl hO [92, 117, 48, 48, 48 + (n : Int) / 16, ((((ByteArray.mk #[48, 49, 50, 51, 52, 53, 54, 55, 56, 57, 97, 98, 99, 100, 101, 102])[n % 16]'(hexS_lt n)).toNat : Nat) : Int)] 6 rfl rfl (by omega) (by decide) hB.size ?_; intro v' w1 hO1 hb1)
        go_roundw
        case rel => exact HF.out _ _ _ (by rw [hexS_at]; have := HXN.out; have := HN.out; rw [show (48 + (n : Int) / 16) = ((48 + n / 16 : Nat) : Int) by omega, HN.out]; exact HH.out (by omega) (by omega) (by omega) (by omega) (by omega) (by omega)) hO1 (hB.trans hb1)
        case measure => simp [intOf]; omega
      · have e0 : (x == 34) = false := beq_false_of_ne (by omega)
        have e1 : (x == 92) = false := beq_false_of_ne (by omega)
        have e2 : (x == 8) = false := beq_false_of_ne (by omega)
        have e3 : (x == 12) = false := beq_false_of_ne (by omega)
        have e4 : (x == 10) = false := beq_false_of_ne (by omega)
        have e5 : (x == 13) = false := beq_false_of_ne (by omega)
        have e6 : (x == 9) = false := beq_false_of_ne (by omega)
        go_wp2_with (at_builtin; refine wp_appQ elQ8 rfl (.tmp 16) (.tmp 18) rfl rfl hO [x] 1 rfl rfl (by omega) (by decide) hB.size ?_; intro v' w1 hO1 hb1)
        go_roundw
        case rel => exact HF.out _ _ _ (by have := HXN.out; have := HN.out; rw [HX.out]; exact HP.out (by omega) (by omega) (by omega)) hO1 (hB.trans hb1)
        case measure => simp [intOf]; omega
    · have hjn : j = s.size := by omega
      subst hjn
      have hlen := HL.out s.size
      go_wp2_with (at_builtin; refine wp_appQ elQ8 rfl (.tmp 73) (.tmp 74) rfl rfl hO [34] 1 rfl rfl (by omega) (by decide) hB.size ?_; intro v' w1 hO1 hb1; have hcv := conv_ownQ hO1)
      go_ret
      exact ⟨by rw [E.out]; rfl, hB.trans hb1⟩
end Go.Proofs.YtakdhfjlhkejdaaGreatDoor
