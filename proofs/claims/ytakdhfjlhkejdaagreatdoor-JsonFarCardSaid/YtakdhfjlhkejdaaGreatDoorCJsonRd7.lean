/-
  CONTRACT of codicilref02's Reader: object, given value. (gen_rd7.py writes it.)
-/
import Derived.Test.YtakdhfjlhkejdaaGreatDoorCJsonRd6
import Derived.Test.YtakdhfjlhkejdaaGreatDoorCJsonRGet
set_option linter.unusedSimpArgs false
set_option linter.unusedVariables false
set_option linter.unusedVariables false
set_option linter.unusedSimpArgs false
namespace Go.Proofs.YtakdhfjlhkejdaaGreatDoor
open Go.RowKit
def objE (r : Except Fail (List ByteArray × List JV × Nat × Nat)) : Except Fail (JV × Nat × Nat) := match r with
  | .error e => .error e
  | .ok (ks, l, j, v) => .ok (.mk 7 noText ks l, j, v)
def objR (n : Nat) (s : List UInt8) (i v o : Nat) : Except Fail (JV × Nat × Nat) := match byL s (skipL s i) with
  | none => .error (skipL s i, 21)
  | some d => if d = 125 then .ok (.mk 7 noText [] [], skipL s i + 1, v) else objE (fieldsP n s (skipL s i) v o [] [])
/-- a field behind its key -/
def fieldsT (m : Nat) (s : List UInt8) (i1 v o : Nat) (ks : List ByteArray) (acc : List JV) (T : ByteArray) : Except Fail (List ByteArray × List JV × Nat × Nat) := match byL s (skipL s i1) with
  | none => .error (skipL s i1, 21)
  | some d => if d ≠ 58 then .error (skipL s i1, 20) else match valP m s (skipL s i1 + 1) v o with
    | .error e => .error e
    | .ok (x, i2, v2) => match byL s (skipL s i2) with
      | none => .error (skipL s i2, 21)
      | some e => if e = 44 then fieldsP m s (skipL s i2 + 1) v2 o (ks ++ [T]) (acc ++ [x]) else if e = 125 then .ok (ks ++ [T], acc ++ [x], skipL s i2 + 1, v2) else .error (skipL s i2, 20)
section
variable {m : Nat} {s : List UInt8} {i v o : Nat} {ks : List ByteArray} {acc : List JV}
theorem fields_none (h : byL s (skipL s i) = none) : fieldsP (m + 1) s i v o ks acc = .error (skipL s i, 21) := by rw [fieldsP, h]
theorem fields_byte {c : UInt8} (h : byL s (skipL s i) = some c) (hc : c ≠ 34) : fieldsP (m + 1) s i v o ks acc = .error (skipL s i, 20) := by rw [fieldsP, h]; simp only [if_pos hc]
theorem fields_quot {e : Fail} (h : byL s (skipL s i) = some 34) (hq : quotP (s.length + 1) s (skipL s i + 1) [] = .error e) : fieldsP (m + 1) s i v o ks acc = .error e := by
  rw [fieldsP, h]
  simp only [hq]
  rfl
theorem fields_twice {t : List UInt8} {i1 : Nat} (h : byL s (skipL s i) = some 34) (hq : quotP (s.length + 1) s (skipL s i + 1) [] = .ok (t, i1)) (hk : hasK ks ⟨t.toArray⟩ = true) : fieldsP (m + 1) s i v o ks acc = .error (skipL s i, 25) := by
  rw [fieldsP, h]
  simp only [hq, hk]
  rfl
theorem fields_tail {t : List UInt8} {i1 : Nat} (h : byL s (skipL s i) = some 34) (hq : quotP (s.length + 1) s (skipL s i + 1) [] = .ok (t, i1)) (hk : hasK ks ⟨t.toArray⟩ = false) : fieldsP (m + 1) s i v o ks acc = fieldsT m s i1 v o ks acc ⟨t.toArray⟩ := by
  rw [fieldsP, h]
  simp only [hq, hk]
  rfl
variable {i1 : Nat} {T : ByteArray}
theorem ft_none (h : byL s (skipL s i1) = none) : fieldsT m s i1 v o ks acc T = .error (skipL s i1, 21) := by unfold fieldsT; rw [h]
theorem ft_byte {c : UInt8} (h : byL s (skipL s i1) = some c) (hc : c ≠ 58) : fieldsT m s i1 v o ks acc T = .error (skipL s i1, 20) := by unfold fieldsT; rw [h]; simp only [if_pos hc]
theorem ft_verr {e : Fail} (h : byL s (skipL s i1) = some 58) (hv : valP m s (skipL s i1 + 1) v o = .error e) : fieldsT m s i1 v o ks acc T = .error e := by
  unfold fieldsT
  rw [h]
  simp only [hv]
  rfl
theorem ft_vok {x : JV} {i2 v2 : Nat} (h : byL s (skipL s i1) = some 58) (hv : valP m s (skipL s i1 + 1) v o = .ok (x, i2, v2)) : fieldsT m s i1 v o ks acc T = match byL s (skipL s i2) with
      | none => .error (skipL s i2, 21)
      | some e => if e = 44 then fieldsP m s (skipL s i2 + 1) v2 o (ks ++ [T]) (acc ++ [x]) else if e = 125 then .ok (ks ++ [T], acc ++ [x], skipL s i2 + 1, v2) else .error (skipL s i2, 20) := by
  unfold fieldsT
  rw [h]
  simp only [hv]
  rfl
end
theorem hasK_no {ks : List ByteArray} {T : ByteArray} (h : ∀ j, j < ks.length → ks.getD j ByteArray.empty ≠ T) : hasK ks T = false := by
  unfold hasK
  rw [List.any_eq_false]
  intro x hx e
  obtain ⟨j, hj, rfl⟩ := List.mem_iff_getElem.1 hx
  refine h j hj ?_
  rw [List.getD_eq_getElem?_getD, List.getElem?_eq_getElem hj]
  have e2 : ks[j].data.toList = T.data.toList := by simpa using e
  exact ByteArray.ext (Array.toList_inj.1 e2)
theorem hasK_yes {ks : List ByteArray} {T : ByteArray} {j : Nat} (hj : j < ks.length) (h : ks.getD j ByteArray.empty = T) : hasK ks T = true := by
  unfold hasK
  rw [List.any_eq_true]
  refine ⟨ks[j], List.getElem_mem hj, ?_⟩
  rw [List.getD_eq_getElem?_getD, List.getElem?_eq_getElem hj] at h
  rw [← h]
  simp
theorem text_end {rb : Nat} {s : ByteArray} {v : Nat} {r : Except Fail (List UInt8 × Nat)} {e : Ending} {w' : World} (h : TextEnd rb s v r e w') : ∃ T : ByteArray, e = .returned (.string T) ∧ ((∃ i1, r = .ok (T.data.toList, i1) ∧ RS w' rb s i1 v 0 0) ∨ (∃ i k a', r = .error (i, k) ∧ RS w' rb s a' v i k)) := by
  unfold TextEnd at h
  rcases r with ⟨i, k⟩ | ⟨t, j⟩
  · obtain ⟨⟨T, hT⟩, a', h2⟩ := h
    exact ⟨T, hT, .inr ⟨i, k, a', rfl, h2⟩⟩
  · exact ⟨_, h.1, .inl ⟨j, rfl, h.2⟩⟩
section
variable {w0 wr w2 : World} {rb k : Nat} {ks : List ByteArray} {kv lv : Value} {l : List JV} {xs : List Value}
theorem AQ.val (h : AQ w0 rb k wr ks kv l lv xs) {x : JV} {c0 c1 c2 c3 : Value} (hV : IsV w2 wr.heap.size x c0 c1 c2 c3) : IsV (hideW w2 (hidQ w0.heap.size lv kv)) w0.heap.size x c0 c1 c2 c3 := by
  have hlt := h.lt
  have hsz := h.size
  have hown0 : ∀ j, lv.ownBlock = some j → w0.heap.size + 2 ≤ j ∧ j < wr.heap.size := h.own.lt
  have hkown0 : ∀ j, kv.ownBlock = some j → w0.heap.size + 2 ≤ j ∧ j < wr.heap.size := h.kown.lt
  refine IsV.stays (lo := wr.heap.size) ?_ (by omega) _ _ _ _ _ hV
  intro y c hl hy
  rw [hide_cell, if_neg (hidQ_mk (by omega) (by omega) (fun e => by have := (hown0 _ e.symm).2; omega) (fun e => by have := (hkown0 _ e.symm).2; omega))]
  exact hy
/-- a value, while the keys take one -/
theorem AQ.key_val (h : AQ w0 rb k wr ks kv l lv xs) {w3 w4 : World} {g : Nat} (cap : Nat)
    (h23 : Below wr.heap.size wr w3)
    (hgrow : w3.grownBy w4 kv.ownBlock) (hat : kv.ownBlock = some g ∨ g = w3.heap.size) {x : JV} {c0 c1 c2 c3 : Value}
    (hV : IsV (hideW wr (hidQ w0.heap.size lv kv)) w0.heap.size x c0 c1 c2 c3) : IsV (hideW (w4.setCell ⟨w0.heap.size + 1, 2, none⟩ (.slice (some ⟨g, 0, none⟩) (ks.length + 1) cap)) (hidQ w0.heap.size lv (.slice (some ⟨g, 0, none⟩) (ks.length + 1) cap))) w0.heap.size x c0 c1 c2 c3 := by
  have hs2 := h23.size
  refine IsV.stays (lo := w0.heap.size) ?_ (Nat.le_refl _) _ _ _ _ _ hV
  intro y c hl hy
  rw [hide_cell] at hy
  split at hy
  · cases hy
  · rename_i hn
    have hyl := cell_lt hy
    obtain ⟨n0, n1, n2, n3⟩ := hidQ_no hn
    have hyg : y.block ≠ g := by
      rcases hat with e | e
      · intro e2; rw [← e2] at e; exact n3 e.symm
      · omega
    rw [hide_cell, if_neg (hidQ_mk n0 n1 n2 (show some y.block ≠ (Value.slice (some ⟨g, 0, none⟩) (ks.length + 1) cap).ownBlock from fun e => hyg (Option.some.inj e)))]
    rw [World.cell?_of_block (w := wr) (by rw [Below.heap_setCell _ _ _ _ n1, hgrow.block _ (by omega) n3, h23.block _ hyl])]
    exact hy
/-- the list takes a value that stands already -/
theorem AQ.put (h : AQ w0 rb k wr ks kv l lv xs) {w3 w4 : World} {x : JV} {c0 c1 c2 c3 : Value} {g cap : Nat}
    (hV : IsV (hideW wr (hidQ w0.heap.size lv kv)) w0.heap.size x c0 c1 c2 c3) (h23 : Below wr.heap.size wr w3)
    (hgrow : w3.grownBy w4 lv.ownBlock) (hat : lv.ownBlock = some g ∨ g = w3.heap.size)
    (hown : w4.ownsRow (w0.heap.size + 2) 26 4 (.slice (some ⟨g, 0, none⟩) (l.length + 1) cap) (l.length + 1) (xs ++ [c0, c1, c2, c3])) :
    AQ w0 rb k (w4.setCell ⟨w0.heap.size + 1, 3, none⟩ (.slice (some ⟨g, 0, none⟩) (l.length + 1) cap)) ks kv (l ++ [x]) (.slice (some ⟨g, 0, none⟩) (l.length + 1) cap) (xs ++ [c0, c1, c2, c3]) := by
  have hlt := h.lt
  have hsz := h.size
  have hs2 := h23.size
  have hs3 := hgrow.size
  have hgl := hown.lt g rfl
  have hown0 : ∀ j, lv.ownBlock = some j → w0.heap.size + 2 ≤ j ∧ j < wr.heap.size := h.own.lt
  have hkown0 : ∀ j, kv.ownBlock = some j → w0.heap.size + 2 ≤ j ∧ j < wr.heap.size := h.kown.lt
  have hkg : kv.ownBlock ≠ some g := by
    rcases hat with e | e
    · exact h.apart g e
    · intro e2; have := (hkown0 g e2).2; omega
  have hkey : ∀ j, j < wr.heap.size → j ≠ w0.heap.size + 1 → some j ≠ lv.ownBlock → (w4.setCell ⟨w0.heap.size + 1, 3, none⟩ (.slice (some ⟨g, 0, none⟩) (l.length + 1) cap)).heap[j]? = wr.heap[j]? := by
    intro j hj h1 h2
    rw [Below.heap_setCell _ _ _ _ h1, hgrow.block j (by omega) h2, h23.block j (by omega)]
  have hlen : (l ++ [x]).length = l.length + 1 := by simp
  have hl1 : ∀ j, some j = lv.ownBlock → w0.heap.size + 2 ≤ j ∧ j < wr.heap.size := fun j e => hown0 j e.symm
  have hst : Stays w0.heap.size (hideW wr (hidQ w0.heap.size lv kv)) (hideW (w4.setCell ⟨w0.heap.size + 1, 3, none⟩ (.slice (some ⟨g, 0, none⟩) (l.length + 1) cap)) (hidQ w0.heap.size (.slice (some ⟨g, 0, none⟩) (l.length + 1) cap) kv)) := by
    intro y c hl hy
    rw [hide_cell] at hy
    split at hy
    · cases hy
    · rename_i hn
      have hyl := cell_lt hy
      obtain ⟨n0, n1, n2, n3⟩ := hidQ_no hn
      have hyg : y.block ≠ g := by
        rcases hat with e | e
        · intro e2; rw [← e2] at e; exact n2 e.symm
        · omega
      have hh : ¬ hidQ w0.heap.size (.slice (some ⟨g, 0, none⟩) (l.length + 1) cap) kv y.block = true := hidQ_mk n0 n1 (fun e => hyg (Option.some.inj e)) n3
      rw [hide_cell, if_neg hh, World.cell?_of_block (hkey y.block hyl n1 n2)]
      exact hy
  refine ⟨?_, ?_, ?_, ?_, ?_, ?_, ?_, hlt⟩
  · exact (hkey _ (by omega) (by omega) (fun e => by have := (hl1 _ e).1; omega)).trans h.res
  · refine RB.set3 (c3 := lv) ?_ _
    exact ((hgrow.block _ (by omega) (fun e => by have := (hl1 _ e).1; omega)).trans (h23.block _ (by omega))).trans h.new
  · rw [hlen]; exact own_kept hown fun j hj => Below.heap_setCell _ _ _ _ (by show j ≠ w0.heap.size + 1; have e1 : g = j := Option.some.inj hj; have := hgl.1; omega)
  · exact own_kept h.kown fun j hj => hkey j (hkown0 j hj).2 (by have := (hkown0 j hj).1; omega) (fun e => h.apart j e.symm hj)
  · intro j hj e
    have := Option.some.inj hj
    subst this
    exact hkg e
  · exact ItemsOK.snoc (h.items.stays hst) (IsV.stays (lo := w0.heap.size) hst (Nat.le_refl _) _ _ _ _ _ hV)
  · refine ⟨hgrow.os.trans (h23.os.trans h.gb.os), hgrow.tape.trans (h23.tape.trans h.gb.tape), hgrow.output.trans (h23.output.trans h.gb.output), by have := h.gb.size; rw [set_size]; omega, fun j hj hn => ?_⟩
    have := h.gb.size
    exact (hkey j (by omega) (by omega) (fun e => by have := (hl1 _ e).1; omega)).trans (h.gb.block j hj hn)
end
set_option maxRecDepth 10000000 in
set_option maxHeartbeats 16000000 in
theorem rObject_any (n : Nat) (IH : ∀ m, m < n → ValR m) (rb : Nat) (s : ByteArray) (a v o : Nat) (w : World) (hs : s.size ≤ 1000000000) (h : RS w rb s a v 0 0) (ha : a ≤ s.size) (hv : v ≤ 4096) (ho : o ≤ 48) (hn : 2 * (s.size - a) + 2 ≤ n) :
    Calls Tryz.prog 71 #[.pointer (some ⟨rb, 0, none⟩), .int .i64 (o : Nat)] w (VEnd rb s w (objR n s.data.toList a v o)) := by
  have hs' : s.size ≤ maxLen := by unfold maxLen; omega
  have HIV := Lib.hid infoValue
  have HIS := Lib.hid infoString
  obtain ⟨K, hK⟩ : ∃ K, skipL s.data.toList a = K := ⟨_, rfl⟩
  have hKb := skip_bd s a ha
  rw [hK] at hKb
  have hrl := h.lt
  have hz2' : ((w.alloc (.cells #[.int .u8 0, .string ⟨#[]⟩, .slice none 0 0, .slice none 0 0] 26)).alloc (.cells #[.int .u8 7, .string ⟨#[]⟩, .slice none 0 0, .slice none 0 0] 26)).heap.size = w.heap.size + 2 := by simp
  have hb0 : Below w.heap.size w ((w.alloc (.cells #[.int .u8 0, .string ⟨#[]⟩, .slice none 0 0, .slice none 0 0] 26)).alloc (.cells #[.int .u8 7, .string ⟨#[]⟩, .slice none 0 0, .slice none 0 0] 26)) := ((Below.refl _ w).alloc (Nat.le_refl _) _).alloc (by simp) _
  have hA0 : AQ w rb 7 ((w.alloc (.cells #[.int .u8 0, .string ⟨#[]⟩, .slice none 0 0, .slice none 0 0] 26)).alloc (.cells #[.int .u8 7, .string ⟨#[]⟩, .slice none 0 0, .slice none 0 0] 26)) [] (.slice none 0 0) [] (.slice none 0 0) [] :=
    ⟨heap_alloc2_old w (.cells #[.int .u8 0, .string ⟨#[]⟩, .slice none 0 0, .slice none 0 0] 26) (.cells #[.int .u8 7, .string ⟨#[]⟩, .slice none 0 0, .slice none 0 0] 26), heap_alloc2_new w (.cells #[.int .u8 0, .string ⟨#[]⟩, .slice none 0 0, .slice none 0 0] 26) (.cells #[.int .u8 7, .string ⟨#[]⟩, .slice none 0 0, .slice none 0 0] 26), ⟨rfl, .inl ⟨rfl, rfl⟩⟩, ⟨rfl, .inl ⟨rfl, rfl⟩⟩, fun g hg => by simp [Value.ownBlock] at hg, ItemsOK.nil _ _, Below.gb hb0 rb, hrl⟩
  have hR0 : RS ((w.alloc (.cells #[.int .u8 0, .string ⟨#[]⟩, .slice none 0 0, .slice none 0 0] 26)).alloc (.cells #[.int .u8 7, .string ⟨#[]⟩, .slice none 0 0, .slice none 0 0] 26)) rb s a v 0 0 := h.below hb0
  obtain ⟨X, hX⟩ : ∃ X, X = objR n s.data.toList a v o := ⟨_, rfl⟩
  rw [← hX]
  unfold objR at hX
  rw [hK] at hX
  go_enter Tryz.func71, Tryz.ntmps71
  go_upto_region 2 with fail
  generalize (w.alloc (.cells #[.int .u8 0, .string ⟨#[]⟩, .slice none 0 0, .slice none 0 0] 26)).alloc (.cells #[.int .u8 7, .string ⟨#[]⟩, .slice none 0 0, .slice none 0 0] 26) = W at *
  by_cases hlt : K < s.size
  · obtain ⟨x, hx⟩ : ∃ x : Int, x = ((s[K].toNat : Nat) : Int) := ⟨_, rfl⟩
    have cH := rHere_some rb s a v K x W hR0 hs' ha hK hlt hx
    rw [show byL s.data.toList K = some s[K] from byL_at s K hlt] at hX
    simp only at hX
    by_cases h125 : x = 125
    · rw [if_pos (UInt8.toNat_inj.1 (show s[K].toNat = (125 : UInt8).toNat by show s[K].toNat = 125; omega))] at hX
      have HX := Lib.hid hX
      subst h125
      clear hX hx hK
      go_upto_region 4 with (go_at_call 66; refine cH.mono ?_; rintro e w1 ⟨rfl, h1, g1⟩; obtain ⟨c0, c1, c2, c3, c4⟩ := h1.cells; have f1 := h1.frozen 1)
      have hA1 := hA0.go (g1.set 1 (.int .i64 ((K : Int) + 1)))
      have h2 : RS (w1.setCell ⟨rb, 1, none⟩ (.int .i64 ((K : Int) + 1))) rb s (K + 1) v 0 0 := h1.s1 (K + 1)
      clear c0 c1 c2 c3 c4 f1 g1 h1 hA0 hR0 cH
      generalize w1.setCell ⟨rb, 1, none⟩ (.int .i64 ((K : Int) + 1)) = W1 at *
      obtain ⟨r0, r1, r2, r3⟩ := hA1.res.cells; obtain ⟨u0, u1, u2, u3⟩ := hA1.res.frozen; obtain ⟨y0, y1, y2, y3⟩ := hA1.new.cells
      go_wp2_with fail
      have hRBq := hA1.res.set4 (.int .u8 7) (.string ⟨#[]⟩) (.slice none 0 0) (.slice none 0 0)
      have hVq := hA1.done (w' := (((((W1).setCell ⟨w.heap.size, 0, none⟩ (.int .u8 7)).setCell ⟨w.heap.size, 1, none⟩ (.string ⟨#[]⟩)).setCell ⟨w.heap.size, 2, none⟩ (.slice none 0 0)).setCell ⟨w.heap.size, 3, none⟩ (.slice none 0 0))) (fun j hj => set4_heap W1 _ _ _ _ _ _ _ _ _ j hj)
      have hGq : GB rb w (((((W1).setCell ⟨w.heap.size, 0, none⟩ (.int .u8 7)).setCell ⟨w.heap.size, 1, none⟩ (.string ⟨#[]⟩)).setCell ⟨w.heap.size, 2, none⟩ (.slice none 0 0)).setCell ⟨w.heap.size, 3, none⟩ (.slice none 0 0)) := hA1.gb.set4 (Nat.le_refl _) _ _ _ _
      have hRq : RS (((((W1).setCell ⟨w.heap.size, 0, none⟩ (.int .u8 7)).setCell ⟨w.heap.size, 1, none⟩ (.string ⟨#[]⟩)).setCell ⟨w.heap.size, 2, none⟩ (.slice none 0 0)).setCell ⟨w.heap.size, 3, none⟩ (.slice none 0 0)) rb s (K + 1) v 0 0 := (set4_heap W1 _ _ _ _ _ _ _ _ _ rb (by have := hA1.lt; omega)).trans h2
      clear hA1
      generalize (((((W1).setCell ⟨w.heap.size, 0, none⟩ (.int .u8 7)).setCell ⟨w.heap.size, 1, none⟩ (.string ⟨#[]⟩)).setCell ⟨w.heap.size, 2, none⟩ (.slice none 0 0)).setCell ⟨w.heap.size, 3, none⟩ (.slice none 0 0)) = wE at *
      obtain ⟨z0, z1, z2, z3⟩ := hRBq.cells
      refine bodyPost_ret (v := .agg #[.int .u8 7, .string ⟨#[]⟩, .slice none 0 0, .slice none 0 0]) ?_ rfl ?_
      · simp [results, Tryz.results71, go_sem, z0, z1, z2, z3]
      · rw [HX.out]; exact ⟨hGq, _, _, _, _, _, _, _, _, _, rfl, hVq, rfl, hRq⟩
    · have HC : Hid (¬ s[K] = 125) := Lib.hid (fun e => h125 (by rw [hx, e]; rfl))
      rw [if_neg HC.out] at hX
      have HX := Lib.hid hX
      have b125 : (x == 125) = false := beq_false_of_ne h125
      clear hX hx hK h125
      go_upto_region 5 with (go_at_call 66; refine cH.mono ?_; rintro e w1 ⟨rfl, h1, g1⟩; have hA1 := hA0.go g1)
      go_loopg [] (s.size + 1) (fun q wr => ∃ (i m vv : Nat) (ks : List ByteArray) (ka : Option Addr) (kc : Nat) (l : List JV) (la : Option Addr) (lc : Nat) (xs : List Value), i ≤ s.size ∧ l.length ≤ i ∧ ks.length = l.length ∧ s.size + 1 ≤ i + q ∧ m < n ∧ 2 * (s.size - i) + 1 ≤ m ∧ X = objE (fieldsP (m + 1) s.data.toList i vv o ks l) ∧ vv ≤ 4096 ∧ AQ w rb 7 wr ks (.slice ka ks.length kc) l (.slice la l.length lc) xs ∧ RS wr rb s i vv 0 0)
      case atStart => exact ⟨K, n - 1, v, [], none, 0, [], none, 0, [], hKb.2, Nat.zero_le _, rfl, by omega, by omega, by omega, by rw [show n - 1 + 1 = n by omega]; exact HX.out, hv, hA1, h1⟩
      case round =>
        obtain ⟨i, m, vv, ks, ka, kc, l, la, lc, xs, hi, hli, hkl0, hq, hm, hfu, hXX, hvv, hA, hR⟩ := hrel
        generalize gk = g0 at *
        have HKL := Lib.hid hkl0
        have hkl : ks.length ≤ i := by omega
        clear hA0 hR0 hA1 h1 g1 HX HC cH b125 hkl0 hlt
        have cO := rOk_any rb s i vv 0 0 _ hR
        obtain ⟨Q, hQ⟩ : ∃ Q, skipL s.data.toList i = Q := ⟨_, rfl⟩
        have hQb := skip_bd s i hi
        rw [hQ] at hQb
        by_cases hlt : Q < s.size
        · obtain ⟨z, hz⟩ : ∃ z : Int, z = ((s[Q].toNat : Nat) : Int) := ⟨_, rfl⟩
          have cH := rHere_some rb s i vv Q z _ hR hs' hi hQ hlt hz
          have hby : byL s.data.toList (skipL s.data.toList i) = some s[Q] := by rw [hQ]; exact byL_at s Q hlt
          by_cases h34 : z = 34
          · have hc34 : s[Q] = 34 := UInt8.toNat_inj.1 (show s[Q].toNat = 34 by omega)
            rw [hc34] at hby
            have cT := fun (w2 : World) (h2 : RS w2 rb s Q vv 0 0) => rText_any rb s Q vv w2 h2 hs hlt
            have H1 := Lib.hid (fun (e : Fail) he => hXX.trans (by rw [fields_quot (e := e) hby he]; rfl : objE (fieldsP (m + 1) s.data.toList i vv o ks l) = .error e))
            have H2 := Lib.hid (fun (t : List UInt8) (i1 : Nat) he hk => hXX.trans (by rw [fields_twice (t := t) (i1 := i1) hby he hk]; rfl : objE (fieldsP (m + 1) s.data.toList i vv o ks l) = .error (skipL s.data.toList i, 25)))
            have H3 := Lib.hid (fun (t : List UInt8) (i1 : Nat) he hk => hXX.trans (by rw [fields_tail (t := t) (i1 := i1) hby he hk] : objE (fieldsP (m + 1) s.data.toList i vv o ks l) = objE (fieldsT m s.data.toList i1 vv o ks l ⟨t.toArray⟩)))
            have H4 := Lib.hid (quotP_facts (s.data.toList.length + 1) s.data.toList (skipL s.data.toList i + 1) [])
            have H5 := Lib.hid (fun a k he => quot_err (s.data.toList.length + 1) s.data.toList (skipL s.data.toList i + 1) [] a k he (by omega))
            have H6 := Lib.hid (fun t j he => quotP_len (s.data.toList.length + 1) s.data.toList (skipL s.data.toList i + 1) [] t j he (by simp))
            rw [hQ, ← Lib.size_eq] at H1 H2 H3 H4 H5 H6
            generalize quotP (s.size + 1) s.data.toList (Q + 1) [] = r at *
            subst h34
            clear hz hc34 hby hXX hQ
            go_upto_region 11 with (first
              | (go_at_call 36; refine cO.mono ?_; rintro e w1 ⟨rfl, rfl⟩)
              | (go_at_call 66; refine cH.mono ?_; rintro e w2 ⟨rfl, h2, g2⟩; obtain ⟨c0, c1, c2, c3, c4⟩ := h2.cells)
              | (go_at_call 67; refine (cT _ h2).mono ?_; rintro e w3 ⟨hT0, g3⟩; obtain ⟨T, rfl, hT⟩ := text_end hT0; clear hT0))
            have hA3 := (hA.go g2).go g3
            clear hA hR h2 g2 g3 c0 c1 c2 c3 c4 cT cH cO
            have hst0 : (∃ i1, r = .ok (T.data.toList, i1) ∧ RS w3 rb s i1 vv 0 0) ∨ (∃ a' fi fk, fk ≠ 0 ∧ X = .error (fi, fk) ∧ RS w3 rb s a' vv fi fk) := by
              rcases hT with h | ⟨fi, fk, a', hr, h⟩
              · exact .inl h
              · exact .inr ⟨a', fi, fk, H5.out fi fk hr, H1.out (fi, fk) hr, h⟩
            clear hT
            go_loopg [8] (ks.length + 2) (fun q vi wr => ∃ j : Nat, vi = .int .i64 (j : Nat) ∧ j ≤ ks.length ∧ ks.length + 2 ≤ j + q ∧ AQ w rb 7 wr ks (.slice ka ks.length kc) l (.slice la l.length lc) xs ∧ ((∃ i1, r = .ok (T.data.toList, i1) ∧ RS wr rb s i1 vv 0 0 ∧ ∀ j', j' < j → ks.getD j' ByteArray.empty ≠ T) ∨ (∃ a' fi fk, fk ≠ 0 ∧ X = .error (fi, fk) ∧ RS wr rb s a' vv fi fk)))
            case atStart => exact ⟨0, rfl, Nat.zero_le _, by omega, hA3, hst0.imp (fun ⟨i1, h1, h2⟩ => ⟨i1, h1, h2, fun j' hj => absurd hj (Nat.not_lt_zero j')⟩) id⟩
            case round =>
              clear hA3 hst0
              obtain ⟨j, rfl, hj, hjq, hA, hst⟩ := hrel
              rcases hst with ⟨i1, hr, hR, hne⟩ | ⟨a', fi, fk, hfk, hXe, hR⟩
              · have cO := rOk_any rb s i1 vv 0 0 _ hR
                by_cases hjk : j < ks.length
                · obtain ⟨kb, ko, rfl, ck⟩ := keys_cell hA.keys (Below.refl _ _) hjk
                  have hjI : (j : Int) < (ks.length : Int) := by omega
                  obtain ⟨y0, y1, y2, y3⟩ := hA.new.cells
                  by_cases he : ks.getD j ByteArray.empty = T
                  · have HXe : Hid (X = .error (Q, 25)) := Lib.hid (H2.out _ _ hr (hasK_yes hjk he))
                    have cF := fun (w2 : World) (h2 : RS w2 rb s i1 vv 0 0) => rFail_any rb s i1 vv 0 Q 25 w2 h2
                    rw [he] at ck
                    have hb3 : (T.toList == T.toList) = true := by simp
                    clear he hne hr H1 H2 H3 H4 H5 H6
                    go_wp2_with (first
                      | (go_at_call 36; refine cO.mono ?_; rintro e w4 ⟨rfl, rfl⟩)
                      | (go_at_call 37; refine (cF _ hR).mono ?_; rintro e w5 ⟨rfl, h5, g5⟩))
                    go_roundg (gk - 1)
                    case measure => omega
                    case rel => exact ⟨j + 1, by go_num, by omega, by omega, hA.go g5, .inr ⟨_, Q, 25, by omega, HXe.out, h5⟩⟩
                  · have HN : Hid (∀ j', j' < j + 1 → ks.getD j' ByteArray.empty ≠ T) := Lib.hid (fun j' hj' => by
                      rcases Nat.lt_or_ge j' j with h | h
                      · exact hne j' h
                      · have : j' = j := by omega
                        subst this
                        exact he)
                    have hb3 : (((ks.getD j ByteArray.empty).toList) == T.toList) = false := beq_false_of_ne (fun h => he (by rwa [tl_eq] at h))
                    generalize ks.getD j ByteArray.empty = y at *
                    have HR := Lib.hid hr
                    clear he hne hr
                    go_wp2_with (go_at_call 36; refine cO.mono ?_; rintro e w4 ⟨rfl, rfl⟩)
                    go_roundg (gk - 1)
                    case measure => omega
                    case rel => exact ⟨j + 1, by go_num, hjk, by omega, hA, .inl ⟨i1, HR.out, hR, HN.out⟩⟩
                · have hjI : ¬ (j : Int) < (ks.length : Int) := by omega
                  have hXT : X = objE (fieldsT m s.data.toList i1 vv o ks l T) := H3.out _ _ hr (hasK_no fun j' hj' => hne j' (by omega))
                  have hi1 := H4.out _ _ hr
                  have hTz := H6.out _ _ hr
                  rw [← Lib.size_eq] at hTz
                  clear H1 H2 H3 H4 H5 H6 hne hr
                  obtain ⟨Q2, hQ2⟩ : ∃ Q2, skipL s.data.toList i1 = Q2 := ⟨_, rfl⟩
                  have hQ2b := skip_bd s i1 hi1.2
                  rw [hQ2] at hQ2b
                  obtain ⟨r0, r1, r2, r3⟩ := hA.res.cells; obtain ⟨u0, u1, u2, u3⟩ := hA.res.frozen; obtain ⟨y0, y1, y2, y3⟩ := hA.new.cells
                  by_cases hlt2 : Q2 < s.size
                  · obtain ⟨z2, hz2⟩ : ∃ z2 : Int, z2 = ((s[Q2].toNat : Nat) : Int) := ⟨_, rfl⟩
                    have cH := rHere_some rb s i1 vv Q2 z2 _ hR hs' hi1.2 hQ2 hlt2 hz2
                    have hby2 : byL s.data.toList (skipL s.data.toList i1) = some s[Q2] := by rw [hQ2]; exact byL_at s Q2 hlt2
                    by_cases h58 : z2 = 58
                    · have hc58 : s[Q2] = 58 := UInt8.toNat_inj.1 (show s[Q2].toNat = 58 by omega)
                      rw [hc58] at hby2
                      have HVE := Lib.hid (fun (e : Fail) he => hXT.trans (by rw [ft_verr (e := e) hby2 he]; rfl : objE (fieldsT m s.data.toList i1 vv o ks l T) = .error e))
                      have HVO := Lib.hid (fun (x : JV) (i2 v2 : Nat) he => hXT.trans (congrArg objE (ft_vok (x := x) (i2 := i2) (v2 := v2) hby2 he)))
                      have HF := Lib.hid (fun y i2 v2 => (valP_facts m).1 s.data.toList (skipL s.data.toList i1 + 1) vv o y i2 v2)
                      have HN := Lib.hid (fun fi fk he => (valP_err m).1 s.data.toList (skipL s.data.toList i1 + 1) vv o fi fk he (by rw [← Lib.size_eq, hQ2]; omega))
                      rw [hQ2] at HVE HVO HF HN
                      subst h58
                      clear hz2 hc58 hby2 hXT hQ2
                      go_upto_region 19 with (first
                        | (go_at_call 36; first | (refine cO.mono ?_; rintro e w4 ⟨rfl, rfl⟩) | (refine (rOk_any rb s Q2 vv 0 0 _ h4).mono ?_; rintro e w5 ⟨rfl, rfl⟩))
                        | (go_at_call 66; refine cH.mono ?_; rintro e w4 ⟨rfl, h4, g4⟩; obtain ⟨c0, c1, c2, c3, c4⟩ := h4.cells; have f1 := h4.frozen 1))
                      have hA5 := hA.go (g4.set 1 (.int .i64 ((Q2 : Int) + 1)))
                      have h5 : RS (w5.setCell ⟨rb, 1, none⟩ (.int .i64 ((Q2 : Int) + 1))) rb s (Q2 + 1) vv 0 0 := h4.s1 (Q2 + 1)
                      clear c0 c1 c2 c3 c4 f1 g4 h4 hA hR cH cO y0 y1 y2 y3 u0 u1 u2 u3 r0 r1 r2 r3
                      generalize w5.setCell ⟨rb, 1, none⟩ (.int .i64 ((Q2 : Int) + 1)) = W5 at *
                      have cV := IH m hm rb s (Q2 + 1) vv o W5 hs h5 (by omega) hvv ho (by omega)
                      generalize valP m s.data.toList (Q2 + 1) vv o = r2 at *
                      clear h5
                      go_upto_region 20 with (go_at_call 34; refine cV.mono ?_; rintro e w6 ⟨hg6, x, k1, t1, qa, ql, qc, ra, rl, rc, rfl, hV6, hst⟩)
                      have hs12 := hg6.size
                      have hAs := hA5.size
                      have hn3 : (w6.alloc (.cells #[.int .u8 (k1 : Nat), .string t1, .slice qa ql qc, .slice ra rl rc] 26)).heap.size = w6.heap.size + 1 := by simp
                      have hB3 : RB (w6.alloc (.cells #[.int .u8 (k1 : Nat), .string t1, .slice qa ql qc, .slice ra rl rc] 26)) w6.heap.size (.int .u8 (k1 : Nat)) (.string t1) (.slice qa ql qc) (.slice ra rl rc) := RB.new w6 _ _ _ _
                      have h23 : Below w6.heap.size w6 (w6.alloc (.cells #[.int .u8 (k1 : Nat), .string t1, .slice qa ql qc, .slice ra rl rc] 26)) := (Below.refl _ _).alloc (Nat.le_refl _) _
                      have hg3 : GB rb W5 (w6.alloc (.cells #[.int .u8 (k1 : Nat), .string t1, .slice qa ql qc, .slice ra rl rc] 26)) := hg6.belowB (h23.mono hs12)
                      have hV3 := hA5.val (IsV.stays (Below.stays h23 W5.heap.size) (Nat.le_refl _) _ _ _ _ _ hV6)
                      have hA3 := hA5.go hg3
                      have hrb3 : (w6.alloc (.cells #[.int .u8 (k1 : Nat), .string t1, .slice qa ql qc, .slice ra rl rc] 26)).heap[rb]? = w6.heap[rb]? := h23.block rb (by omega)
                      have hk0 : ∀ g, (Value.slice ka ks.length kc).ownBlock = some g → g ≠ w6.heap.size := fun g e => by have := (hA5.kown.lt g e).2; omega
                      clear h23 hV6 hg6 hA5
                      generalize w6.alloc (.cells #[.int .u8 (k1 : Nat), .string t1, .slice qa ql qc, .slice ra rl rc] 26) = W3 at *
                      generalize w6.heap.size = n3 at *
                      have hn3a : n3 < W3.heap.size := by omega
                      clear hn3
                      have hkown := hA3.kown.lt
                      have hkownlt : ∀ g, some g = (Value.slice ka ks.length kc).ownBlock → g ≠ n3 ∧ g < W3.heap.size := fun g e => ⟨hk0 g e.symm, (hkown g e.symm).2⟩
                      obtain ⟨y0, y1, y2, y3⟩ := hA3.new.cells
                      obtain ⟨iq, hiq, hq0, hq1, hq2⟩ := info_parts HIS.out
                      have hNq := heap_alloc_new W3 (.cells #[.string T] 9)
                      have hrowq : Below W3.heap.size W3 (W3.alloc (.cells #[.string T] 9)) := (Below.refl _ _).alloc (Nat.le_refl _) _
                      have hownq := (hA3.go (Below.gb hrowq rb)).kown
                      have hrsq : (W3.alloc (.cells #[.string T] 9)).heap.size = W3.heap.size + 1 := by simp
                      go_upto_region 21 with (at_builtin; refine wpList_append_lies _ rfl _ _ _ rfl (w.heap.size + 2) 9 iq _ 1 16 Tryz.underlying23 hiq hq0 hq1 hq2 rfl (by omega) (.slice ka ks.length kc) ks.length (ks.map .string) (by rfl) hownq ⟨W3.heap.size, 0, none⟩ 1 1 [.string T] (by rfl) (by rfl) (World.news_of_block hNq) (by simp [Value.oneCell']) (by omega) (by unfold maxLen; omega) (by omega) (by omega) _ rfl ?_; intro gq capq w4 hown4 hgrow hat hglt; have hR4 : RB w4 (w.heap.size + 1) (.int .u8 (7 : Nat)) (.string ⟨#[]⟩) (.slice ka ks.length kc) (.slice la l.length lc) := ((hgrow.block _ (by omega) (fun e => by have := (hkown _ e.symm).1; omega)).trans (hrowq.block _ (by omega))).trans hA3.new; obtain ⟨_, _, v2, _⟩ := hR4.cells; obtain ⟨_, _, f2, _⟩ := hR4.frozen)
                      have hA6 := hA3.key (w2 := W3) (GB.refl rb W3) hrowq hgrow hat hown4
                      have hV6 := hA3.key_val capq hrowq hgrow hat hV3
                      have hB6 : RB (w4.setCell ⟨w.heap.size + 1, 2, none⟩ (.slice (some ⟨gq, 0, none⟩) (ks.length + 1) capq)) n3 (.int .u8 (k1 : Nat)) (.string t1) (.slice qa ql qc) (.slice ra rl rc) := ((Below.heap_setCell _ _ _ _ (by show n3 ≠ w.heap.size + 1; omega)).trans ((hgrow.block _ (by omega) (fun e => by have := (hkownlt _ e).1; omega)).trans (hrowq.block _ hn3a))).trans hB3
                      have hrb6 : (w4.setCell ⟨w.heap.size + 1, 2, none⟩ (.slice (some ⟨gq, 0, none⟩) (ks.length + 1) capq)).heap[rb]? = w6.heap[rb]? := (Below.heap_setCell _ _ _ _ (by show rb ≠ w.heap.size + 1; omega)).trans (((hgrow.block rb (by omega) (fun e => by have := (hkown _ e.symm).1; omega)).trans (hrowq.block rb (by omega))).trans hrb3)
                      have hn6 : n3 < (w4.setCell ⟨w.heap.size + 1, 2, none⟩ (.slice (some ⟨gq, 0, none⟩) (ks.length + 1) capq)).heap.size := by have := hgrow.size; rw [set_size]; omega
                      clear hgrow hat hown4 hR4 v2 f2 hownq hrowq hrsq hNq hB3 hV3 hA3 y0 y1 y2 y3 hglt hkown hkownlt hrb3 hn3a hiq hq0 hq1 hq2
                      have hklen : (ks ++ [T]).length = ks.length + 1 := by rw [List.length_append]; rfl
                      generalize w4.setCell ⟨w.heap.size + 1, 2, none⟩ (.slice (some ⟨gq, 0, none⟩) (ks.length + 1) capq) = W6 at *
                      obtain ⟨i0, hi0, hz0, hz1, hz2⟩ := info_parts HIV.out
                      obtain ⟨b0, b1, b2, b3⟩ := hB6.cells
                      obtain ⟨y0, y1, y2, y3⟩ := hA6.new.cells
                      have hone : ∀ u ∈ [Value.int .u8 (k1 : Nat), .string t1, .slice qa ql qc, .slice ra rl rc], u.oneCell' = true := by intro u hu; simp only [List.mem_cons, List.not_mem_nil, or_false] at hu; rcases hu with rfl | rfl | rfl | rfl <;> rfl
                      have hN := heap_alloc_new W6 (.cells #[.int .u8 (k1 : Nat), .string t1, .slice qa ql qc, .slice ra rl rc] 26)
                      have hrow : Below W6.heap.size W6 (W6.alloc (.cells #[.int .u8 (k1 : Nat), .string t1, .slice qa ql qc, .slice ra rl rc] 26)) := (Below.refl _ _).alloc (Nat.le_refl _) _
                      have hown3 := (hA6.go (Below.gb hrow rb)).own
                      have hrs : (W6.alloc (.cells #[.int .u8 (k1 : Nat), .string t1, .slice qa ql qc, .slice ra rl rc] 26)).heap.size = W6.heap.size + 1 := by simp
                      have hlo := hA6.own.lt
                      have hAs6 := hA6.size
                      go_upto_region 22 with (at_builtin; refine wpList_append_lies _ rfl _ _ _ rfl (w.heap.size + 2) 26 i0 _ 4 72 Tryz.underlying24 hi0 hz0 hz1 hz2 rfl (by omega) (.slice la l.length lc) l.length xs (by rfl) hown3 ⟨W6.heap.size, 0, none⟩ 1 1 [.int .u8 (k1 : Nat), .string t1, .slice qa ql qc, .slice ra rl rc] (by rfl) (by rfl) (World.news_of_block hN) hone (by omega) (by unfold maxLen; omega) (by omega) (by omega) _ rfl ?_; intro g cap2 w4 hown4 hgrow hat hglt; have hR4 : RB w4 (w.heap.size + 1) (.int .u8 (7 : Nat)) (.string ⟨#[]⟩) (.slice (some ⟨gq, 0, none⟩) (ks.length + 1) capq) (.slice la l.length lc) := ((hgrow.block _ (by omega) (fun e => by have := (hlo _ e.symm).1; omega)).trans (hrow.block _ (by omega))).trans hA6.new; obtain ⟨_, _, _, v3⟩ := hR4.cells; obtain ⟨_, _, _, f3⟩ := hR4.frozen)
                      have hA9 := hA6.put hV6 hrow hgrow hat hown4
                      have hrb9 : (w4.setCell ⟨w.heap.size + 1, 3, none⟩ (.slice (some ⟨g, 0, none⟩) (l.length + 1) cap2)).heap[rb]? = w6.heap[rb]? := (Below.heap_setCell _ _ _ _ (by show rb ≠ w.heap.size + 1; omega)).trans (((hgrow.block rb (by omega) (fun e => by have := (hlo _ e.symm).1; omega)).trans (hrow.block rb (by omega))).trans hrb6)
                      clear hgrow hat hown4 hR4 v3 f3 hown3 hrow hrs hN hB6 hV6 hA6 b0 b1 b2 b3 y0 y1 y2 y3 hglt hlo hrb6 hn6 hone hi0 hz0 hz1 hz2
                      generalize w4.setCell ⟨w.heap.size + 1, 3, none⟩ (.slice (some ⟨g, 0, none⟩) (l.length + 1) cap2) = W9 at *
                      rcases r2 with ⟨i', f⟩ | ⟨y, i2, v1⟩
                      · obtain ⟨a', v', hRe⟩ := hst
                        have hR9 := hRe.on hrb9
                        have hfe : f ≠ 0 := HN.out _ _ rfl
                        have HXe : Hid (X = .error (i', f)) := Lib.hid (HVE.out _ rfl)
                        have cO := rOk_any rb s a' v' i' f _ hR9
                        rw [decide_eq_false hfe] at cO
                        clear hfe HVE HVO HF HN
                        obtain ⟨r0, r1, r2, r3⟩ := hA9.res.cells; obtain ⟨u0, u1, u2, u3⟩ := hA9.res.frozen; obtain ⟨y0, y1, y2, y3⟩ := hA9.new.cells
                        go_wp2_with (go_at_call 36; refine cO.mono ?_; rintro e w8 ⟨rfl, rfl⟩)
                        have hRBq := hA9.res.set4 (.int .u8 7) (.string ⟨#[]⟩) (.slice (some ⟨gq, 0, none⟩) (ks.length + 1) capq) (.slice (some ⟨g, 0, none⟩) (l.length + 1) cap2)
                        have hVq := hA9.done (w' := (((((w8).setCell ⟨w.heap.size, 0, none⟩ (.int .u8 7)).setCell ⟨w.heap.size, 1, none⟩ (.string ⟨#[]⟩)).setCell ⟨w.heap.size, 2, none⟩ (.slice (some ⟨gq, 0, none⟩) (ks.length + 1) capq)).setCell ⟨w.heap.size, 3, none⟩ (.slice (some ⟨g, 0, none⟩) (l.length + 1) cap2))) (fun j hj => set4_heap w8 _ _ _ _ _ _ _ _ _ j hj)
                        have hGq : GB rb w (((((w8).setCell ⟨w.heap.size, 0, none⟩ (.int .u8 7)).setCell ⟨w.heap.size, 1, none⟩ (.string ⟨#[]⟩)).setCell ⟨w.heap.size, 2, none⟩ (.slice (some ⟨gq, 0, none⟩) (ks.length + 1) capq)).setCell ⟨w.heap.size, 3, none⟩ (.slice (some ⟨g, 0, none⟩) (l.length + 1) cap2)) := hA9.gb.set4 (Nat.le_refl _) _ _ _ _
                        have hRq : RS (((((w8).setCell ⟨w.heap.size, 0, none⟩ (.int .u8 7)).setCell ⟨w.heap.size, 1, none⟩ (.string ⟨#[]⟩)).setCell ⟨w.heap.size, 2, none⟩ (.slice (some ⟨gq, 0, none⟩) (ks.length + 1) capq)).setCell ⟨w.heap.size, 3, none⟩ (.slice (some ⟨g, 0, none⟩) (l.length + 1) cap2)) rb s a' v' i' f := (set4_heap w8 _ _ _ _ _ _ _ _ _ rb (by have := hA9.lt; omega)).trans hR9
                        clear hA9
                        generalize (((((w8).setCell ⟨w.heap.size, 0, none⟩ (.int .u8 7)).setCell ⟨w.heap.size, 1, none⟩ (.string ⟨#[]⟩)).setCell ⟨w.heap.size, 2, none⟩ (.slice (some ⟨gq, 0, none⟩) (ks.length + 1) capq)).setCell ⟨w.heap.size, 3, none⟩ (.slice (some ⟨g, 0, none⟩) (l.length + 1) cap2)) = wE at *
                        obtain ⟨z0, z1, z2, z3⟩ := hRBq.cells
                        refine bodyPost_ret (v := .agg #[.int .u8 7, .string ⟨#[]⟩, .slice (some ⟨gq, 0, none⟩) (ks.length + 1) capq, .slice (some ⟨g, 0, none⟩) (l.length + 1) cap2]) ?_ rfl ?_
                        · simp [results, Tryz.results71, go_sem, z0, z1, z2, z3]
                        · rw [HXe.out]; exact ⟨hGq, _, _, _, _, _, _, _, _, _, rfl, hVq, _, _, hRq⟩
                      · obtain ⟨rfl, hRe⟩ := hst
                        have hR9 := hRe.on hrb9
                        have hf := HF.out _ _ _ rfl
                        rw [← Lib.size_eq] at hf
                        have hv1 : v1 ≤ 4096 := hf.2.2 hvv
                        have hi2 : i2 ≤ s.size := hf.2.1
                        have hi2' : Q2 + 1 < i2 := hf.1
                        have cO := rOk_any rb s i2 v1 0 0 _ hR9
                        have cG := rGoes_any rb s i2 v1 125 _ hR9 hs' hi2 (.inr rfl)
                        have HX2 := Lib.hid (HVO.out _ _ _ rfl)
                        have hKb1 := skip_bd s i2 hi2
                        generalize skipL s.data.toList i2 = K1 at *
                        unfold GoesEnd at cG
                        clear hf HVE HVO HF HN
                        have hlen : (l ++ [x]).length = l.length + 1 := by rw [List.length_append]; rfl
                        cases hby : byL s.data.toList K1 with
                        | none =>
                          rw [hby] at cG HX2
                          have HX3 : Hid (X = .error (K1, 21)) := HX2
                          clear HX2 hby
                          simp only at cG
                          go_wp2_with (first
                            | (go_at_call 36; refine cO.mono ?_; rintro e w8 ⟨rfl, rfl⟩)
                            | (go_at_call 101; refine cG.mono ?_; rintro e w7 ⟨⟨rfl, h7⟩, g7⟩; have hA7 := hA9.go g7; obtain ⟨r0, r1, r2, r3⟩ := hA7.res.cells; obtain ⟨u0, u1, u2, u3⟩ := hA7.res.frozen; obtain ⟨y0, y1, y2, y3⟩ := hA7.new.cells))
                          have hRBq := hA7.res.set4 (.int .u8 7) (.string ⟨#[]⟩) (.slice (some ⟨gq, 0, none⟩) (ks.length + 1) capq) (.slice (some ⟨g, 0, none⟩) (l.length + 1) cap2)
                          have hVq := hA7.done (w' := (((((w7).setCell ⟨w.heap.size, 0, none⟩ (.int .u8 7)).setCell ⟨w.heap.size, 1, none⟩ (.string ⟨#[]⟩)).setCell ⟨w.heap.size, 2, none⟩ (.slice (some ⟨gq, 0, none⟩) (ks.length + 1) capq)).setCell ⟨w.heap.size, 3, none⟩ (.slice (some ⟨g, 0, none⟩) (l.length + 1) cap2))) (fun j hj => set4_heap w7 _ _ _ _ _ _ _ _ _ j hj)
                          have hGq : GB rb w (((((w7).setCell ⟨w.heap.size, 0, none⟩ (.int .u8 7)).setCell ⟨w.heap.size, 1, none⟩ (.string ⟨#[]⟩)).setCell ⟨w.heap.size, 2, none⟩ (.slice (some ⟨gq, 0, none⟩) (ks.length + 1) capq)).setCell ⟨w.heap.size, 3, none⟩ (.slice (some ⟨g, 0, none⟩) (l.length + 1) cap2)) := hA7.gb.set4 (Nat.le_refl _) _ _ _ _
                          have hRq : RS (((((w7).setCell ⟨w.heap.size, 0, none⟩ (.int .u8 7)).setCell ⟨w.heap.size, 1, none⟩ (.string ⟨#[]⟩)).setCell ⟨w.heap.size, 2, none⟩ (.slice (some ⟨gq, 0, none⟩) (ks.length + 1) capq)).setCell ⟨w.heap.size, 3, none⟩ (.slice (some ⟨g, 0, none⟩) (l.length + 1) cap2)) rb s K1 v1 K1 21 := (set4_heap w7 _ _ _ _ _ _ _ _ _ rb (by have := hA7.lt; omega)).trans h7
                          clear hA7
                          generalize (((((w7).setCell ⟨w.heap.size, 0, none⟩ (.int .u8 7)).setCell ⟨w.heap.size, 1, none⟩ (.string ⟨#[]⟩)).setCell ⟨w.heap.size, 2, none⟩ (.slice (some ⟨gq, 0, none⟩) (ks.length + 1) capq)).setCell ⟨w.heap.size, 3, none⟩ (.slice (some ⟨g, 0, none⟩) (l.length + 1) cap2)) = wE at *
                          obtain ⟨z0, z1, z2, z3⟩ := hRBq.cells
                          refine bodyPost_ret (v := .agg #[.int .u8 7, .string ⟨#[]⟩, .slice (some ⟨gq, 0, none⟩) (ks.length + 1) capq, .slice (some ⟨g, 0, none⟩) (l.length + 1) cap2]) ?_ rfl ?_
                          · simp [results, Tryz.results71, go_sem, z0, z1, z2, z3]
                          · rw [HX3.out]; exact ⟨hGq, _, _, _, _, _, _, _, _, _, rfl, hVq, _, _, hRq⟩
                        | some c =>
                          have hK1 : K1 < s.size := byL_lt hby
                          rw [hby] at cG HX2
                          clear hby
                          simp only at cG HX2
                          by_cases h44 : c = 44
                          · subst h44
                            rw [if_pos rfl] at HX2
                            simp only [if_pos (show UInt8.toNat 44 = 44 from rfl)] at cG
                            go_wp2_with (first
                              | (go_at_call 36; refine cO.mono ?_; rintro e w8 ⟨rfl, rfl⟩)
                              | (go_at_call 101; refine cG.mono ?_; rintro e w7 ⟨⟨rfl, h7⟩, g7⟩; have hA7 := hA9.go g7; obtain ⟨r0, r1, r2, r3⟩ := hA7.res.cells; obtain ⟨u0, u1, u2, u3⟩ := hA7.res.frozen; obtain ⟨y0, y1, y2, y3⟩ := hA7.new.cells))
                            go_roundg (g0 - 1)
                            case measure => omega
                            case rel => exact ⟨K1 + 1, m - 1, v1, ks ++ [T], some ⟨gq, 0, none⟩, capq, l ++ [x], some ⟨g, 0, none⟩, cap2, _, by omega, by rw [hlen]; omega, by rw [hlen, hklen, HKL.out], by omega, by omega, by omega, by rw [show m - 1 + 1 = m by omega]; exact HX2.out, hv1, by rw [hlen, hklen]; exact hA7, h7⟩
                          · rw [if_neg h44] at HX2
                            simp only [if_neg (fun e => h44 (UInt8.toNat_inj.1 e) : ¬ c.toNat = 44)] at cG
                            by_cases h125 : c = 125
                            · subst h125
                              rw [if_pos rfl] at HX2
                              simp only [if_pos (show UInt8.toNat 125 = 125 from rfl)] at cG
                              have HX3 : Hid (X = .ok (.mk 7 noText (ks ++ [T]) (l ++ [x]), K1 + 1, v1)) := HX2
                              clear HX2 h44
                              go_wp2_with (first
                                | (go_at_call 36; refine cO.mono ?_; rintro e w8 ⟨rfl, rfl⟩)
                                | (go_at_call 101; refine cG.mono ?_; rintro e w7 ⟨⟨rfl, h7⟩, g7⟩; have hA7 := hA9.go g7; obtain ⟨r0, r1, r2, r3⟩ := hA7.res.cells; obtain ⟨u0, u1, u2, u3⟩ := hA7.res.frozen; obtain ⟨y0, y1, y2, y3⟩ := hA7.new.cells))
                              have hRBq := hA7.res.set4 (.int .u8 7) (.string ⟨#[]⟩) (.slice (some ⟨gq, 0, none⟩) (ks.length + 1) capq) (.slice (some ⟨g, 0, none⟩) (l.length + 1) cap2)
                              have hVq := hA7.done (w' := (((((w7).setCell ⟨w.heap.size, 0, none⟩ (.int .u8 7)).setCell ⟨w.heap.size, 1, none⟩ (.string ⟨#[]⟩)).setCell ⟨w.heap.size, 2, none⟩ (.slice (some ⟨gq, 0, none⟩) (ks.length + 1) capq)).setCell ⟨w.heap.size, 3, none⟩ (.slice (some ⟨g, 0, none⟩) (l.length + 1) cap2))) (fun j hj => set4_heap w7 _ _ _ _ _ _ _ _ _ j hj)
                              have hGq : GB rb w (((((w7).setCell ⟨w.heap.size, 0, none⟩ (.int .u8 7)).setCell ⟨w.heap.size, 1, none⟩ (.string ⟨#[]⟩)).setCell ⟨w.heap.size, 2, none⟩ (.slice (some ⟨gq, 0, none⟩) (ks.length + 1) capq)).setCell ⟨w.heap.size, 3, none⟩ (.slice (some ⟨g, 0, none⟩) (l.length + 1) cap2)) := hA7.gb.set4 (Nat.le_refl _) _ _ _ _
                              have hRq : RS (((((w7).setCell ⟨w.heap.size, 0, none⟩ (.int .u8 7)).setCell ⟨w.heap.size, 1, none⟩ (.string ⟨#[]⟩)).setCell ⟨w.heap.size, 2, none⟩ (.slice (some ⟨gq, 0, none⟩) (ks.length + 1) capq)).setCell ⟨w.heap.size, 3, none⟩ (.slice (some ⟨g, 0, none⟩) (l.length + 1) cap2)) rb s (K1 + 1) v1 0 0 := (set4_heap w7 _ _ _ _ _ _ _ _ _ rb (by have := hA7.lt; omega)).trans h7
                              clear hA7
                              generalize (((((w7).setCell ⟨w.heap.size, 0, none⟩ (.int .u8 7)).setCell ⟨w.heap.size, 1, none⟩ (.string ⟨#[]⟩)).setCell ⟨w.heap.size, 2, none⟩ (.slice (some ⟨gq, 0, none⟩) (ks.length + 1) capq)).setCell ⟨w.heap.size, 3, none⟩ (.slice (some ⟨g, 0, none⟩) (l.length + 1) cap2)) = wE at *
                              obtain ⟨z0, z1, z2, z3⟩ := hRBq.cells
                              refine bodyPost_ret (v := .agg #[.int .u8 7, .string ⟨#[]⟩, .slice (some ⟨gq, 0, none⟩) (ks.length + 1) capq, .slice (some ⟨g, 0, none⟩) (l.length + 1) cap2]) ?_ rfl ?_
                              · simp [results, Tryz.results71, go_sem, z0, z1, z2, z3]
                              · rw [HX3.out]; exact ⟨hGq, _, _, _, _, _, _, _, _, _, rfl, hVq, rfl, hRq⟩
                            · rw [if_neg h125] at HX2
                              simp only [if_neg (fun e => h125 (UInt8.toNat_inj.1 e) : ¬ c.toNat = 125)] at cG
                              have HX3 : Hid (X = .error (K1, 20)) := HX2
                              clear HX2 h44 h125
                              go_wp2_with (first
                                | (go_at_call 36; refine cO.mono ?_; rintro e w8 ⟨rfl, rfl⟩)
                                | (go_at_call 101; refine cG.mono ?_; rintro e w7 ⟨⟨rfl, h7⟩, g7⟩; have hA7 := hA9.go g7; obtain ⟨r0, r1, r2, r3⟩ := hA7.res.cells; obtain ⟨u0, u1, u2, u3⟩ := hA7.res.frozen; obtain ⟨y0, y1, y2, y3⟩ := hA7.new.cells))
                              have hRBq := hA7.res.set4 (.int .u8 7) (.string ⟨#[]⟩) (.slice (some ⟨gq, 0, none⟩) (ks.length + 1) capq) (.slice (some ⟨g, 0, none⟩) (l.length + 1) cap2)
                              have hVq := hA7.done (w' := (((((w7).setCell ⟨w.heap.size, 0, none⟩ (.int .u8 7)).setCell ⟨w.heap.size, 1, none⟩ (.string ⟨#[]⟩)).setCell ⟨w.heap.size, 2, none⟩ (.slice (some ⟨gq, 0, none⟩) (ks.length + 1) capq)).setCell ⟨w.heap.size, 3, none⟩ (.slice (some ⟨g, 0, none⟩) (l.length + 1) cap2))) (fun j hj => set4_heap w7 _ _ _ _ _ _ _ _ _ j hj)
                              have hGq : GB rb w (((((w7).setCell ⟨w.heap.size, 0, none⟩ (.int .u8 7)).setCell ⟨w.heap.size, 1, none⟩ (.string ⟨#[]⟩)).setCell ⟨w.heap.size, 2, none⟩ (.slice (some ⟨gq, 0, none⟩) (ks.length + 1) capq)).setCell ⟨w.heap.size, 3, none⟩ (.slice (some ⟨g, 0, none⟩) (l.length + 1) cap2)) := hA7.gb.set4 (Nat.le_refl _) _ _ _ _
                              have hRq : RS (((((w7).setCell ⟨w.heap.size, 0, none⟩ (.int .u8 7)).setCell ⟨w.heap.size, 1, none⟩ (.string ⟨#[]⟩)).setCell ⟨w.heap.size, 2, none⟩ (.slice (some ⟨gq, 0, none⟩) (ks.length + 1) capq)).setCell ⟨w.heap.size, 3, none⟩ (.slice (some ⟨g, 0, none⟩) (l.length + 1) cap2)) rb s K1 v1 K1 20 := (set4_heap w7 _ _ _ _ _ _ _ _ _ rb (by have := hA7.lt; omega)).trans h7
                              clear hA7
                              generalize (((((w7).setCell ⟨w.heap.size, 0, none⟩ (.int .u8 7)).setCell ⟨w.heap.size, 1, none⟩ (.string ⟨#[]⟩)).setCell ⟨w.heap.size, 2, none⟩ (.slice (some ⟨gq, 0, none⟩) (ks.length + 1) capq)).setCell ⟨w.heap.size, 3, none⟩ (.slice (some ⟨g, 0, none⟩) (l.length + 1) cap2)) = wE at *
                              obtain ⟨z0, z1, z2, z3⟩ := hRBq.cells
                              refine bodyPost_ret (v := .agg #[.int .u8 7, .string ⟨#[]⟩, .slice (some ⟨gq, 0, none⟩) (ks.length + 1) capq, .slice (some ⟨g, 0, none⟩) (l.length + 1) cap2]) ?_ rfl ?_
                              · simp [results, Tryz.results71, go_sem, z0, z1, z2, z3]
                              · rw [HX3.out]; exact ⟨hGq, _, _, _, _, _, _, _, _, _, rfl, hVq, _, _, hRq⟩
                    · have HXe : Hid (X = .error (Q2, 20)) := Lib.hid (by rw [hXT, ft_byte hby2 (fun e => h58 (by rw [hz2, e]; rfl)), hQ2]; rfl)
                      have b58 : (z2 == 58) = false := beq_false_of_ne h58
                      have cF := fun (w2 : World) (h2 : RS w2 rb s Q2 vv 0 0) => rFail_any rb s Q2 vv 0 Q2 20 w2 h2
                      clear hz2 hby2 hXT hQ2 h58
                      go_wp2_with (first
                        | (go_at_call 36; first | (refine cO.mono ?_; rintro e w4 ⟨rfl, rfl⟩) | (refine (rOk_any rb s Q2 vv Q2 20 _ h5).mono ?_; rintro e w6 ⟨rfl, rfl⟩))
                        | (go_at_call 66; refine cH.mono ?_; rintro e w4 ⟨rfl, h4, g4⟩; obtain ⟨c0, c1, c2, c3, c4⟩ := h4.cells)
                        | (go_at_call 37; refine (cF _ h4).mono ?_; rintro e w5 ⟨rfl, h5, g5⟩; have hA5 := (hA.go g4).go g5; obtain ⟨r0, r1, r2, r3⟩ := hA5.res.cells; obtain ⟨u0, u1, u2, u3⟩ := hA5.res.frozen; obtain ⟨y0, y1, y2, y3⟩ := hA5.new.cells))
                      have hRBq := hA5.res.set4 (.int .u8 7) (.string ⟨#[]⟩) (.slice ka ks.length kc) (.slice la l.length lc)
                      have hVq := hA5.done (w' := (((((w6).setCell ⟨w.heap.size, 0, none⟩ (.int .u8 7)).setCell ⟨w.heap.size, 1, none⟩ (.string ⟨#[]⟩)).setCell ⟨w.heap.size, 2, none⟩ (.slice ka ks.length kc)).setCell ⟨w.heap.size, 3, none⟩ (.slice la l.length lc))) (fun j hj => set4_heap w6 _ _ _ _ _ _ _ _ _ j hj)
                      have hGq : GB rb w (((((w6).setCell ⟨w.heap.size, 0, none⟩ (.int .u8 7)).setCell ⟨w.heap.size, 1, none⟩ (.string ⟨#[]⟩)).setCell ⟨w.heap.size, 2, none⟩ (.slice ka ks.length kc)).setCell ⟨w.heap.size, 3, none⟩ (.slice la l.length lc)) := hA5.gb.set4 (Nat.le_refl _) _ _ _ _
                      have hRq : RS (((((w6).setCell ⟨w.heap.size, 0, none⟩ (.int .u8 7)).setCell ⟨w.heap.size, 1, none⟩ (.string ⟨#[]⟩)).setCell ⟨w.heap.size, 2, none⟩ (.slice ka ks.length kc)).setCell ⟨w.heap.size, 3, none⟩ (.slice la l.length lc)) rb s Q2 vv Q2 20 := (set4_heap w6 _ _ _ _ _ _ _ _ _ rb (by have := hA5.lt; omega)).trans h5
                      clear hA5
                      generalize (((((w6).setCell ⟨w.heap.size, 0, none⟩ (.int .u8 7)).setCell ⟨w.heap.size, 1, none⟩ (.string ⟨#[]⟩)).setCell ⟨w.heap.size, 2, none⟩ (.slice ka ks.length kc)).setCell ⟨w.heap.size, 3, none⟩ (.slice la l.length lc)) = wE at *
                      obtain ⟨z0, z1, z2, z3⟩ := hRBq.cells
                      refine bodyPost_ret (v := .agg #[.int .u8 7, .string ⟨#[]⟩, .slice ka ks.length kc, .slice la l.length lc]) ?_ rfl ?_
                      · simp [results, Tryz.results71, go_sem, z0, z1, z2, z3]
                      · rw [HXe.out]; exact ⟨hGq, _, _, _, _, _, _, _, _, _, rfl, hVq, _, _, hRq⟩
                  · have hQe : Q2 = s.size := by omega
                    subst hQe
                    have cH := rHere_end rb s i1 vv _ hR hs' hi1.2 hQ2
                    have HXe : Hid (X = .error (s.size, 21)) := Lib.hid (by rw [hXT, ft_none (by rw [hQ2]; exact byL_end (by rw [← Lib.size_eq]; exact Nat.le_refl _)), hQ2]; rfl)
                    have cF := fun (w2 : World) (h2 : RS w2 rb s s.size vv s.size 21) => rFail_idle rb s s.size vv s.size 21 s.size 20 w2 h2 (by omega)
                    clear hXT hQ2
                    go_wp2_with (first
                      | (go_at_call 36; first | (refine cO.mono ?_; rintro e w4 ⟨rfl, rfl⟩) | (refine (rOk_any rb s s.size vv s.size 21 _ h4).mono ?_; rintro e w6 ⟨rfl, rfl⟩))
                      | (go_at_call 66; refine cH.mono ?_; rintro e w4 ⟨rfl, h4, g4⟩; obtain ⟨c0, c1, c2, c3, c4⟩ := h4.cells; have hA5 := hA.go g4; obtain ⟨r0, r1, r2, r3⟩ := hA5.res.cells; obtain ⟨u0, u1, u2, u3⟩ := hA5.res.frozen; obtain ⟨y0, y1, y2, y3⟩ := hA5.new.cells)
                      | (go_at_call 37; refine (cF _ h4).mono ?_; rintro e w5 ⟨rfl, rfl⟩))
                    have hRBq := hA5.res.set4 (.int .u8 7) (.string ⟨#[]⟩) (.slice ka ks.length kc) (.slice la l.length lc)
                    have hVq := hA5.done (w' := (((((w6).setCell ⟨w.heap.size, 0, none⟩ (.int .u8 7)).setCell ⟨w.heap.size, 1, none⟩ (.string ⟨#[]⟩)).setCell ⟨w.heap.size, 2, none⟩ (.slice ka ks.length kc)).setCell ⟨w.heap.size, 3, none⟩ (.slice la l.length lc))) (fun j hj => set4_heap w6 _ _ _ _ _ _ _ _ _ j hj)
                    have hGq : GB rb w (((((w6).setCell ⟨w.heap.size, 0, none⟩ (.int .u8 7)).setCell ⟨w.heap.size, 1, none⟩ (.string ⟨#[]⟩)).setCell ⟨w.heap.size, 2, none⟩ (.slice ka ks.length kc)).setCell ⟨w.heap.size, 3, none⟩ (.slice la l.length lc)) := hA5.gb.set4 (Nat.le_refl _) _ _ _ _
                    have hRq : RS (((((w6).setCell ⟨w.heap.size, 0, none⟩ (.int .u8 7)).setCell ⟨w.heap.size, 1, none⟩ (.string ⟨#[]⟩)).setCell ⟨w.heap.size, 2, none⟩ (.slice ka ks.length kc)).setCell ⟨w.heap.size, 3, none⟩ (.slice la l.length lc)) rb s s.size vv s.size 21 := (set4_heap w6 _ _ _ _ _ _ _ _ _ rb (by have := hA5.lt; omega)).trans h4
                    clear hA5
                    generalize (((((w6).setCell ⟨w.heap.size, 0, none⟩ (.int .u8 7)).setCell ⟨w.heap.size, 1, none⟩ (.string ⟨#[]⟩)).setCell ⟨w.heap.size, 2, none⟩ (.slice ka ks.length kc)).setCell ⟨w.heap.size, 3, none⟩ (.slice la l.length lc)) = wE at *
                    obtain ⟨z0, z1, z2, z3⟩ := hRBq.cells
                    refine bodyPost_ret (v := .agg #[.int .u8 7, .string ⟨#[]⟩, .slice ka ks.length kc, .slice la l.length lc]) ?_ rfl ?_
                    · simp [results, Tryz.results71, go_sem, z0, z1, z2, z3]
                    · rw [HXe.out]; exact ⟨hGq, _, _, _, _, _, _, _, _, _, rfl, hVq, _, _, hRq⟩
              · have cO := rOk_any rb s a' vv fi fk _ hR
                rw [decide_eq_false hfk] at cO
                have HXe := Lib.hid hXe
                clear hfk hXe H1 H2 H3 H4 H5 H6
                obtain ⟨r0, r1, r2, r3⟩ := hA.res.cells
                obtain ⟨u0, u1, u2, u3⟩ := hA.res.frozen
                obtain ⟨y0, y1, y2, y3⟩ := hA.new.cells
                by_cases hjk : j < ks.length
                · have hjI : (j : Int) < (ks.length : Int) := by omega
                  go_wp2_with (go_at_call 36; refine cO.mono ?_; rintro e w4 ⟨rfl, rfl⟩)
                  have hRBq := hA.res.set4 (.int .u8 7) (.string ⟨#[]⟩) (.slice ka ks.length kc) (.slice la l.length lc)
                  have hVq := hA.done (w' := (((((w4).setCell ⟨w.heap.size, 0, none⟩ (.int .u8 7)).setCell ⟨w.heap.size, 1, none⟩ (.string ⟨#[]⟩)).setCell ⟨w.heap.size, 2, none⟩ (.slice ka ks.length kc)).setCell ⟨w.heap.size, 3, none⟩ (.slice la l.length lc))) (fun j hj => set4_heap w4 _ _ _ _ _ _ _ _ _ j hj)
                  have hGq : GB rb w (((((w4).setCell ⟨w.heap.size, 0, none⟩ (.int .u8 7)).setCell ⟨w.heap.size, 1, none⟩ (.string ⟨#[]⟩)).setCell ⟨w.heap.size, 2, none⟩ (.slice ka ks.length kc)).setCell ⟨w.heap.size, 3, none⟩ (.slice la l.length lc)) := hA.gb.set4 (Nat.le_refl _) _ _ _ _
                  have hRq : RS (((((w4).setCell ⟨w.heap.size, 0, none⟩ (.int .u8 7)).setCell ⟨w.heap.size, 1, none⟩ (.string ⟨#[]⟩)).setCell ⟨w.heap.size, 2, none⟩ (.slice ka ks.length kc)).setCell ⟨w.heap.size, 3, none⟩ (.slice la l.length lc)) rb s a' vv fi fk := (set4_heap w4 _ _ _ _ _ _ _ _ _ rb (by have := hA.lt; omega)).trans hR
                  clear hA
                  generalize (((((w4).setCell ⟨w.heap.size, 0, none⟩ (.int .u8 7)).setCell ⟨w.heap.size, 1, none⟩ (.string ⟨#[]⟩)).setCell ⟨w.heap.size, 2, none⟩ (.slice ka ks.length kc)).setCell ⟨w.heap.size, 3, none⟩ (.slice la l.length lc)) = wE at *
                  obtain ⟨z0, z1, z2, z3⟩ := hRBq.cells
                  refine bodyPost_ret (v := .agg #[.int .u8 7, .string ⟨#[]⟩, .slice ka ks.length kc, .slice la l.length lc]) ?_ rfl ?_
                  · simp [results, Tryz.results71, go_sem, z0, z1, z2, z3]
                  · rw [HXe.out]; exact ⟨hGq, _, _, _, _, _, _, _, _, _, rfl, hVq, _, _, hRq⟩
                · have hjI : ¬ (j : Int) < (ks.length : Int) := by omega
                  go_wp2_with (go_at_call 36; refine cO.mono ?_; rintro e w4 ⟨rfl, rfl⟩)
                  have hRBq := hA.res.set4 (.int .u8 7) (.string ⟨#[]⟩) (.slice ka ks.length kc) (.slice la l.length lc)
                  have hVq := hA.done (w' := (((((w4).setCell ⟨w.heap.size, 0, none⟩ (.int .u8 7)).setCell ⟨w.heap.size, 1, none⟩ (.string ⟨#[]⟩)).setCell ⟨w.heap.size, 2, none⟩ (.slice ka ks.length kc)).setCell ⟨w.heap.size, 3, none⟩ (.slice la l.length lc))) (fun j hj => set4_heap w4 _ _ _ _ _ _ _ _ _ j hj)
                  have hGq : GB rb w (((((w4).setCell ⟨w.heap.size, 0, none⟩ (.int .u8 7)).setCell ⟨w.heap.size, 1, none⟩ (.string ⟨#[]⟩)).setCell ⟨w.heap.size, 2, none⟩ (.slice ka ks.length kc)).setCell ⟨w.heap.size, 3, none⟩ (.slice la l.length lc)) := hA.gb.set4 (Nat.le_refl _) _ _ _ _
                  have hRq : RS (((((w4).setCell ⟨w.heap.size, 0, none⟩ (.int .u8 7)).setCell ⟨w.heap.size, 1, none⟩ (.string ⟨#[]⟩)).setCell ⟨w.heap.size, 2, none⟩ (.slice ka ks.length kc)).setCell ⟨w.heap.size, 3, none⟩ (.slice la l.length lc)) rb s a' vv fi fk := (set4_heap w4 _ _ _ _ _ _ _ _ _ rb (by have := hA.lt; omega)).trans hR
                  clear hA
                  generalize (((((w4).setCell ⟨w.heap.size, 0, none⟩ (.int .u8 7)).setCell ⟨w.heap.size, 1, none⟩ (.string ⟨#[]⟩)).setCell ⟨w.heap.size, 2, none⟩ (.slice ka ks.length kc)).setCell ⟨w.heap.size, 3, none⟩ (.slice la l.length lc)) = wE at *
                  obtain ⟨z0, z1, z2, z3⟩ := hRBq.cells
                  refine bodyPost_ret (v := .agg #[.int .u8 7, .string ⟨#[]⟩, .slice ka ks.length kc, .slice la l.length lc]) ?_ rfl ?_
                  · simp [results, Tryz.results71, go_sem, z0, z1, z2, z3]
                  · rw [HXe.out]; exact ⟨hGq, _, _, _, _, _, _, _, _, _, rfl, hVq, _, _, hRq⟩
          · have HXe : Hid (X = .error (Q, 20)) := Lib.hid (by rw [hXX, fields_byte hby (fun e => h34 (by rw [hz, e]; rfl)), hQ]; rfl)
            have b34 : (z == 34) = false := beq_false_of_ne h34
            have cF := fun (w2 : World) (h2 : RS w2 rb s Q vv 0 0) => rFail_any rb s Q vv 0 Q 20 w2 h2
            clear hz hby hXX hQ
            go_wp2_with (first
              | (go_at_call 36; refine cO.mono ?_; rintro e w1 ⟨rfl, rfl⟩)
              | (go_at_call 66; refine cH.mono ?_; rintro e w2 ⟨rfl, h2, g2⟩; obtain ⟨c0, c1, c2, c3, c4⟩ := h2.cells)
              | (go_at_call 37; refine (cF _ h2).mono ?_; rintro e w3 ⟨rfl, h3, g3⟩; have hA3 := (hA.go g2).go g3; obtain ⟨r0, r1, r2, r3⟩ := hA3.res.cells; obtain ⟨u0, u1, u2, u3⟩ := hA3.res.frozen; obtain ⟨y0, y1, y2, y3⟩ := hA3.new.cells))
            have hRBq := hA3.res.set4 (.int .u8 7) (.string ⟨#[]⟩) (.slice ka ks.length kc) (.slice la l.length lc)
            have hVq := hA3.done (w' := (((((w3).setCell ⟨w.heap.size, 0, none⟩ (.int .u8 7)).setCell ⟨w.heap.size, 1, none⟩ (.string ⟨#[]⟩)).setCell ⟨w.heap.size, 2, none⟩ (.slice ka ks.length kc)).setCell ⟨w.heap.size, 3, none⟩ (.slice la l.length lc))) (fun j hj => set4_heap w3 _ _ _ _ _ _ _ _ _ j hj)
            have hGq : GB rb w (((((w3).setCell ⟨w.heap.size, 0, none⟩ (.int .u8 7)).setCell ⟨w.heap.size, 1, none⟩ (.string ⟨#[]⟩)).setCell ⟨w.heap.size, 2, none⟩ (.slice ka ks.length kc)).setCell ⟨w.heap.size, 3, none⟩ (.slice la l.length lc)) := hA3.gb.set4 (Nat.le_refl _) _ _ _ _
            have hRq : RS (((((w3).setCell ⟨w.heap.size, 0, none⟩ (.int .u8 7)).setCell ⟨w.heap.size, 1, none⟩ (.string ⟨#[]⟩)).setCell ⟨w.heap.size, 2, none⟩ (.slice ka ks.length kc)).setCell ⟨w.heap.size, 3, none⟩ (.slice la l.length lc)) rb s Q vv Q 20 := (set4_heap w3 _ _ _ _ _ _ _ _ _ rb (by have := hA3.lt; omega)).trans h3
            clear hA3
            generalize (((((w3).setCell ⟨w.heap.size, 0, none⟩ (.int .u8 7)).setCell ⟨w.heap.size, 1, none⟩ (.string ⟨#[]⟩)).setCell ⟨w.heap.size, 2, none⟩ (.slice ka ks.length kc)).setCell ⟨w.heap.size, 3, none⟩ (.slice la l.length lc)) = wE at *
            obtain ⟨z0, z1, z2, z3⟩ := hRBq.cells
            refine bodyPost_ret (v := .agg #[.int .u8 7, .string ⟨#[]⟩, .slice ka ks.length kc, .slice la l.length lc]) ?_ rfl ?_
            · simp [results, Tryz.results71, go_sem, z0, z1, z2, z3]
            · rw [HXe.out]; exact ⟨hGq, _, _, _, _, _, _, _, _, _, rfl, hVq, _, _, hRq⟩
        · have hQe : Q = s.size := by omega
          subst hQe
          have cH := rHere_end rb s i vv _ hR hs' hi hQ
          have HXe : Hid (X = .error (s.size, 21)) := Lib.hid (by rw [hXX, fields_none (by rw [hQ]; exact byL_end (by rw [← Lib.size_eq]; exact Nat.le_refl _)), hQ]; rfl)
          have cF := fun (w2 : World) (h2 : RS w2 rb s s.size vv s.size 21) => rFail_idle rb s s.size vv s.size 21 s.size 20 w2 h2 (by omega)
          clear hXX hQ
          go_wp2_with (first
            | (go_at_call 36; refine cO.mono ?_; rintro e w1 ⟨rfl, rfl⟩)
            | (go_at_call 66; refine cH.mono ?_; rintro e w2 ⟨rfl, h2, g2⟩; obtain ⟨c0, c1, c2, c3, c4⟩ := h2.cells; have hA3 := hA.go g2; obtain ⟨r0, r1, r2, r3⟩ := hA3.res.cells; obtain ⟨u0, u1, u2, u3⟩ := hA3.res.frozen; obtain ⟨y0, y1, y2, y3⟩ := hA3.new.cells)
            | (go_at_call 37; refine (cF _ h2).mono ?_; rintro e w3 ⟨rfl, rfl⟩))
          have hRBq := hA3.res.set4 (.int .u8 7) (.string ⟨#[]⟩) (.slice ka ks.length kc) (.slice la l.length lc)
          have hVq := hA3.done (w' := (((((w3).setCell ⟨w.heap.size, 0, none⟩ (.int .u8 7)).setCell ⟨w.heap.size, 1, none⟩ (.string ⟨#[]⟩)).setCell ⟨w.heap.size, 2, none⟩ (.slice ka ks.length kc)).setCell ⟨w.heap.size, 3, none⟩ (.slice la l.length lc))) (fun j hj => set4_heap w3 _ _ _ _ _ _ _ _ _ j hj)
          have hGq : GB rb w (((((w3).setCell ⟨w.heap.size, 0, none⟩ (.int .u8 7)).setCell ⟨w.heap.size, 1, none⟩ (.string ⟨#[]⟩)).setCell ⟨w.heap.size, 2, none⟩ (.slice ka ks.length kc)).setCell ⟨w.heap.size, 3, none⟩ (.slice la l.length lc)) := hA3.gb.set4 (Nat.le_refl _) _ _ _ _
          have hRq : RS (((((w3).setCell ⟨w.heap.size, 0, none⟩ (.int .u8 7)).setCell ⟨w.heap.size, 1, none⟩ (.string ⟨#[]⟩)).setCell ⟨w.heap.size, 2, none⟩ (.slice ka ks.length kc)).setCell ⟨w.heap.size, 3, none⟩ (.slice la l.length lc)) rb s s.size vv s.size 21 := (set4_heap w3 _ _ _ _ _ _ _ _ _ rb (by have := hA3.lt; omega)).trans h2
          clear hA3
          generalize (((((w3).setCell ⟨w.heap.size, 0, none⟩ (.int .u8 7)).setCell ⟨w.heap.size, 1, none⟩ (.string ⟨#[]⟩)).setCell ⟨w.heap.size, 2, none⟩ (.slice ka ks.length kc)).setCell ⟨w.heap.size, 3, none⟩ (.slice la l.length lc)) = wE at *
          obtain ⟨z0, z1, z2, z3⟩ := hRBq.cells
          refine bodyPost_ret (v := .agg #[.int .u8 7, .string ⟨#[]⟩, .slice ka ks.length kc, .slice la l.length lc]) ?_ rfl ?_
          · simp [results, Tryz.results71, go_sem, z0, z1, z2, z3]
          · rw [HXe.out]; exact ⟨hGq, _, _, _, _, _, _, _, _, _, rfl, hVq, _, _, hRq⟩
  · have hKe : K = s.size := by omega
    subst hKe
    have cH := rHere_end rb s a v W hR0 hs' ha hK
    rw [byL_end (by rw [← Lib.size_eq]; exact Nat.le_refl _)] at hX
    have HX := Lib.hid hX
    clear hX hK
    go_wp2_with (go_at_call 66; refine cH.mono ?_; rintro e w1 ⟨rfl, h1, g1⟩; have hA1 := hA0.go g1)
    go_loopw [] (fun wr => wr = w1) (fun _ => 0)
    case atStart => rfl
    case round =>
      subst hrel
      have cO := rOk_any rb s s.size v s.size 21 _ h1
      obtain ⟨r0, r1, r2, r3⟩ := hA1.res.cells; obtain ⟨u0, u1, u2, u3⟩ := hA1.res.frozen; obtain ⟨y0, y1, y2, y3⟩ := hA1.new.cells
      go_wp2_with (go_at_call 36; refine cO.mono ?_; rintro e w2 ⟨rfl, rfl⟩)
      have hRBq := hA1.res.set4 (.int .u8 7) (.string ⟨#[]⟩) (.slice none 0 0) (.slice none 0 0)
      have hVq := hA1.done (w' := (((((w2).setCell ⟨w.heap.size, 0, none⟩ (.int .u8 7)).setCell ⟨w.heap.size, 1, none⟩ (.string ⟨#[]⟩)).setCell ⟨w.heap.size, 2, none⟩ (.slice none 0 0)).setCell ⟨w.heap.size, 3, none⟩ (.slice none 0 0))) (fun j hj => set4_heap w2 _ _ _ _ _ _ _ _ _ j hj)
      have hGq : GB rb w (((((w2).setCell ⟨w.heap.size, 0, none⟩ (.int .u8 7)).setCell ⟨w.heap.size, 1, none⟩ (.string ⟨#[]⟩)).setCell ⟨w.heap.size, 2, none⟩ (.slice none 0 0)).setCell ⟨w.heap.size, 3, none⟩ (.slice none 0 0)) := hA1.gb.set4 (Nat.le_refl _) _ _ _ _
      have hRq : RS (((((w2).setCell ⟨w.heap.size, 0, none⟩ (.int .u8 7)).setCell ⟨w.heap.size, 1, none⟩ (.string ⟨#[]⟩)).setCell ⟨w.heap.size, 2, none⟩ (.slice none 0 0)).setCell ⟨w.heap.size, 3, none⟩ (.slice none 0 0)) rb s s.size v s.size 21 := (set4_heap w2 _ _ _ _ _ _ _ _ _ rb (by have := hA1.lt; omega)).trans h1
      clear hA1
      generalize (((((w2).setCell ⟨w.heap.size, 0, none⟩ (.int .u8 7)).setCell ⟨w.heap.size, 1, none⟩ (.string ⟨#[]⟩)).setCell ⟨w.heap.size, 2, none⟩ (.slice none 0 0)).setCell ⟨w.heap.size, 3, none⟩ (.slice none 0 0)) = wE at *
      obtain ⟨z0, z1, z2, z3⟩ := hRBq.cells
      refine bodyPost_ret (v := .agg #[.int .u8 7, .string ⟨#[]⟩, .slice none 0 0, .slice none 0 0]) ?_ rfl ?_
      · simp [results, Tryz.results71, go_sem, z0, z1, z2, z3]
      · rw [HX.out]; exact ⟨hGq, _, _, _, _, _, _, _, _, _, rfl, hVq, _, _, hRq⟩
end Go.Proofs.YtakdhfjlhkejdaaGreatDoor
