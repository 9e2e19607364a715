/-
  CONTRACTS of codicillaw02.many and Heavy: how much there is of a value.
-/
import Derived.Test.YtakdhfjlhkejdaaGreatDoorCJsonOpen
import Derived.Test.YtakdhfjlhkejdaaGreatDoorN4
set_option linter.unusedSimpArgs false
set_option linter.unusedVariables false
set_option linter.unusedVariables false
namespace Go.Proofs.YtakdhfjlhkejdaaGreatDoor
open Go.RowKit
def kM : List ByteArray → Int → Int
  | [], n => n
  | k :: t, n => if 0 ≤ n then kM t (n - (k.size : Int) / 8) else n
mutual
def manyV : JV → Int → Int → Int
  | .mk k t ks l, n, d => if n - 1 - (ks.length : Int) < 0 ∨ d ≤ 0 then -1 else manyL l (kM ks (n - 1 - (ks.length : Int) - (t.size : Int) / 8)) (d - 1)
def manyL : List JV → Int → Int → Int
  | [], n, _ => n
  | v :: t, n, d => if 0 ≤ n then manyL t (manyV v n d) d else n
end
theorem kM_neg {ks : List ByteArray} {n : Int} (h : n < 0) : kM ks n = n := by
  cases ks with
  | nil => rfl
  | cons k t => rw [kM, if_neg (by omega)]
theorem manyL_neg {l : List JV} {n d : Int} (h : n < 0) : manyL l n d = n := by
  cases l with
  | nil => simp only [manyL]
  | cons v t => simp only [manyL]; rw [if_neg (by omega)]
theorem kM_rng : ∀ (ks : List ByteArray) (n : Int), (∀ k ∈ ks, k.size ≤ maxLen) → -1152921504606846976 ≤ n → n ≤ 2000 → -1152921504606846976 ≤ kM ks n ∧ kM ks n ≤ 2000
  | [], n, _, h0, h1 => ⟨h0, h1⟩
  | k :: t, n, hk, h0, h1 => by
    rw [kM]
    split
    · have := hk k (List.mem_cons_self ..)
      unfold maxLen at this
      exact kM_rng t _ (fun x hx => hk x (List.mem_cons_of_mem _ hx)) (by omega) (by omega)
    · exact ⟨h0, h1⟩
theorem kM_drop {ks : List ByteArray} {i : Nat} {n : Int} (h : i < ks.length) (hn : 0 ≤ n) : kM (ks.drop i) n = kM (ks.drop (i + 1)) (n - ((ks.getD i ByteArray.empty).size : Int) / 8) := by
  rw [List.drop_eq_getElem_cons h, kM, if_pos hn, List.getD_eq_getElem?_getD, List.getElem?_eq_getElem h]
  rfl
theorem manyL_drop {l : List JV} {i : Nat} {x : JV} {n d : Int} (h : l[i]? = some x) (hn : 0 ≤ n) : manyL (l.drop i) n d = manyL (l.drop (i + 1)) (manyV x n d) d := by
  rw [drop_split h]
  simp only [manyL]
  rw [if_pos hn]
mutual
theorem manyV_rng : ∀ (v : JV) (n d : Int), bndV v → 0 ≤ n → n ≤ 2000 → -1152921504606846976 ≤ manyV v n d ∧ manyV v n d ≤ 2000
  | .mk k t ks l, n, d, hb, h0, h1 => by
    simp only [bndV] at hb
    simp only [manyV]
    split
    · omega
    · have h2 := hb.1
      unfold maxLen at h2
      have h3 := kM_rng ks (n - 1 - (ks.length : Int) - (t.size : Int) / 8) hb.2.1 (by omega) (by omega)
      exact manyL_rng l _ _ hb.2.2.2.2 h3.1 h3.2
theorem manyL_rng : ∀ (l : List JV) (n d : Int), bndL l → -1152921504606846976 ≤ n → n ≤ 2000 → -1152921504606846976 ≤ manyL l n d ∧ manyL l n d ≤ 2000
  | [], n, d, _, h0, h1 => by simp only [manyL]; exact ⟨h0, h1⟩
  | v :: t, n, d, hb, h0, h1 => by
    simp only [bndL] at hb
    simp only [manyL]
    split
    · rename_i hn
      have := manyV_rng v n d hb.1 hn h1
      exact manyL_rng t _ d hb.2 this.1 this.2
    · exact ⟨h0, h1⟩
end
/-! ### What is not too much is small -/
def eK (ks : List ByteArray) : Nat := (ks.map fun k => k.size / 8).sum
mutual
def e8V : JV → Nat
  | .mk _ t ks l => t.size / 8 + eK ks + e8L l
def e8L : List JV → Nat
  | [] => 0
  | v :: t => e8V v + e8L t
end
theorem kM_eq : ∀ (ks : List ByteArray) (n : Int), 0 ≤ kM ks n → kM ks n = n - (eK ks : Nat)
  | [], n, _ => by simp [kM, eK]
  | k :: t, n, h => by
    rw [kM] at h ⊢
    by_cases hn : 0 ≤ n
    · rw [if_pos hn] at h ⊢
      rw [kM_eq t _ h]
      simp only [eK, List.map_cons, List.sum_cons]
      omega
    · rw [if_neg hn] at h
      omega
theorem kM_first {ks : List ByteArray} {n : Int} (h : 0 ≤ kM ks n) : 0 ≤ n := by
  by_cases hn : 0 ≤ n
  · exact hn
  · rw [kM_neg (by omega)] at h
    exact h
mutual
theorem manyV_eq : ∀ (v : JV) (n d : Int), 0 ≤ manyV v n d → manyV v n d = n - (sizeV v + keysV v + e8V v : Nat)
  | .mk k t ks l, n, d, h => by
    simp only [manyV] at h ⊢
    by_cases hc : n - 1 - (ks.length : Int) < 0 ∨ d ≤ 0
    · rw [if_pos hc] at h
      omega
    · rw [if_neg hc] at h ⊢
      have h1 := manyL_first h
      rw [manyL_eq l _ _ h, kM_eq ks _ h1]
      simp only [sizeV, keysV, e8V]
      omega
theorem manyL_eq : ∀ (l : List JV) (n d : Int), 0 ≤ manyL l n d → manyL l n d = n - (sizeL l + keysL l + e8L l : Nat)
  | [], n, d, _ => by simp [manyL, sizeL, keysL, e8L]
  | v :: t, n, d, h => by
    simp only [manyL] at h ⊢
    by_cases hn : 0 ≤ n
    · rw [if_pos hn] at h ⊢
      have h1 := manyL_first h
      rw [manyL_eq t _ _ h, manyV_eq v _ _ h1]
      simp only [sizeL, keysL, e8L]
      omega
    · rw [if_neg hn] at h
      omega
theorem manyL_first : ∀ {l : List JV} {n d : Int}, 0 ≤ manyL l n d → 0 ≤ n
  | l, n, d, h => by
    by_cases hn : 0 ≤ n
    · exact hn
    · rw [manyL_neg (by omega)] at h
      exact h
end
theorem sumK_e (ks : List ByteArray) : sumK ks ≤ 8 * eK ks + 7 * ks.length := by
  induction ks with
  | nil => simp [sumK, eK]
  | cons k t ih =>
    have e : sumK (k :: t) = k.size + sumK t := by
      unfold sumK
      rw [List.foldl_cons, sumK_from]
      simp [sumK]
    rw [e]
    simp only [eK, List.map_cons, List.sum_cons, List.length_cons] at ih ⊢
    omega
mutual
theorem lettV_e : ∀ v : JV, lettV v ≤ 8 * e8V v + 7 * (sizeV v + keysV v)
  | .mk k t ks l => by
    have h1 := lettL_e l
    have h2 := sumK_e ks
    simp only [lettV, e8V, sizeV, keysV]
    omega
theorem lettL_e : ∀ l : List JV, lettL l ≤ 8 * e8L l + 7 * (sizeL l + keysL l)
  | [] => by simp [lettL]
  | v :: t => by
    have h1 := lettV_e v
    have h2 := lettL_e t
    simp only [lettL, e8L, sizeL, keysL]
    omega
end
def heavyB (v : JV) : Bool := decide (manyV v 2000 60 < 0)
theorem light {v : JV} (h : heavyB v = false) : sizeV v ≤ 2000 ∧ keysV v ≤ 2000 ∧ lettV v ≤ 32000 := by
  unfold heavyB at h
  have h0 : 0 ≤ manyV v 2000 60 := by simpa using h
  have h1 := manyV_eq v 2000 60 h0
  have h2 := lettV_e v
  omega
set_option maxRecDepth 10000000 in
set_option maxHeartbeats 4000000 in
theorem many_any (N : Nat) : ∀ (v : JV), sizeV v ≤ N → ∀ (c0 c1 c2 c3 : Value) (n d : Int) (w : World), IsV w 0 v c0 c1 c2 c3 → bndV v → 0 ≤ n → n ≤ 2000 → 0 ≤ d → d ≤ 60 →
    Calls Tryz.prog 38 #[.agg #[c0, c1, c2, c3], .int .i64 n, .int .i64 d] w fun e w' => e = .returned (.int .i64 (manyV v n d)) ∧ Below w.heap.size w w' := by
  induction N with
  | zero => intro v hv; obtain ⟨k, t, ks, l⟩ := v; simp only [sizeV] at hv; omega
  | succ N ih =>
    rintro ⟨k, t, ks, l⟩ hv c0 c1 c2 c3 n d w hV hB h0 h1 d0 d1
    obtain ⟨kxa, kxp, lxa, lxp, rfl, rfl, rfl, rfl, hKx, hLx⟩ := IsV.opened hV
    simp only [bndV] at hB
    obtain ⟨bt, bk, bkl, bll, bl⟩ := hB
    have hkb := kM_rng ks (n - 1 - (ks.length : Int) - (t.size : Int) / 8) bk
    unfold maxLen at bt bkl bll
    have hbel : Below w.heap.size w (w.alloc (.cells #[.int .u8 (k : Nat), .string t, .slice kxa ks.length kxp, .slice lxa l.length lxp] 26)) := (Below.refl _ _).alloc (Nat.le_refl _) _
    by_cases hc : n - 1 - (ks.length : Int) < 0 ∨ d ≤ 0
    · have E : Hid (manyV (.mk k t ks l) n d = -1) := Lib.hid (by simp only [manyV]; rw [if_pos hc])
      by_cases hc1 : n - 1 - (ks.length : Int) < 0
      · clear hc hkb
        go_enter Tryz.func38, Tryz.ntmps38
        go_wp2
        go_ret
        exact ⟨ret_int E.out.symm, hbel⟩
      · have hc2 : d ≤ 0 := by omega
        clear hc hkb
        go_enter Tryz.func38, Tryz.ntmps38
        go_wp2
        go_ret
        exact ⟨ret_int E.out.symm, hbel⟩
    · have hn1 : ¬ (n - 1 - (ks.length : Int) < 0) := fun h => hc (.inl h)
      have hd1 : ¬ (d ≤ 0) := fun h => hc (.inr h)
      have E : Hid (manyV (.mk k t ks l) n d = manyL l (kM ks (n - 1 - (ks.length : Int) - (t.size : Int) / 8)) (d - 1)) := Lib.hid (by simp only [manyV]; rw [if_neg hc])
      have hkb := hkb (by omega) (by omega)
      clear hc
      go_enter Tryz.func38, Tryz.ntmps38
      go_wp2
      have hbox := heap_alloc_new w (.cells #[.int .u8 (k : Nat), .string t, .slice kxa ks.length kxp, .slice lxa l.length lxp] 26)
      generalize w.alloc (.cells #[.int .u8 (k : Nat), .string t, .slice kxa ks.length kxp, .slice lxa l.length lxp] 26) = wA at *
      have hx2 := Lib.cell_of_heap hbox 2
      have hx3 := Lib.cell_of_heap hbox 3
      have hb1 : n - 1 - (ks.length : Int) - (t.size : Int) / 8 ≤ 2000 := by omega
      have hb2 : -1152921504606846976 ≤ n - 1 - (ks.length : Int) - (t.size : Int) / 8 := by omega
      obtain ⟨n1, hn1e⟩ : ∃ m, m = n - 1 - (ks.length : Int) - (t.size : Int) / 8 := ⟨_, rfl⟩
      rw [← hn1e] at hb1 hb2 E hkb
      rw [← hn1e]
      clear hn1e hn1
      obtain ⟨_, _, eK, hKx'⟩ := hKx
      have hkc : ∀ j, j < ks.length → ∃ b off, kxa = some ⟨b, off, none⟩ ∧ wA.cell? ⟨b, off + j, none⟩ = some (.string (ks.getD j ByteArray.empty)) := by
        intro j hj
        simp only [Value.slice.injEq] at eK
        obtain ⟨rfl, _, _⟩ := eK
        rcases hKx' with rfl | ⟨b, off, rfl, _, h⟩
        · simp at hj
        · exact ⟨b, off, rfl, (hbel.cell (cell_lt (h j hj))).trans (h j hj)⟩
      have HK := Lib.hid hkc
      have HB := Lib.hid bk
      clear hkc hKx' eK bk
      go_loop [1, 7] (fun vn vi => ∃ (m : Int) (i : Nat), vn = .int .i64 m ∧ vi = .int .i64 i ∧ i ≤ ks.length ∧ -1152921504606846976 ≤ m ∧ m ≤ 2000 ∧ kM ks n1 = kM (ks.drop i) m) (fun _ vi => ks.length - (intOf vi).toNat)
      case atStart => exact ⟨n1, 0, rfl, rfl, Nat.zero_le _, hb2, hb1, by rw [List.drop_zero]⟩
      case round =>
        obtain ⟨m, i, rfl, rfl, hi, m0, m1, hkm⟩ := hrel
        by_cases hgo : i < ks.length ∧ 0 ≤ m
        · obtain ⟨hlt, hm0⟩ := hgo
          have HKM := Lib.hid (hkm.trans (kM_drop hlt hm0))
          obtain ⟨b, off, rfl, hc⟩ := HK.out i hlt
          have hz := HB.out (ks.getD i ByteArray.empty) (by rw [List.getD_eq_getElem?_getD, List.getElem?_eq_getElem hlt]; exact List.getElem_mem hlt)
          unfold maxLen at hz
          generalize ks.getD i ByteArray.empty = x at *
          have hlt2 : (i : Int) < (ks.length : Int) := by omega
          clear hkm
          go_wp2
          go_round
          case rel => exact ⟨_, i + 1, rfl, by go_num, hlt, by omega, by omega, HKM.out⟩
          case measure => simp [intOf]; omega
        · have hend : kM ks n1 = m := by
            rw [hkm]
            by_cases hlt : i < ks.length
            · exact kM_neg (by omega)
            · rw [List.drop_eq_nil_of_le (by omega)]
              rfl
          rw [hend] at E hkb
          clear hkm hend
          have hexit : ¬ (i < ks.length) ∨ (i < ks.length ∧ m < 0) := by omega
          clear hgo
          have hlc : ∀ j x, l[j]? = some x → ∃ lb lo, lxa = some ⟨lb, lo, none⟩ ∧ ∃ q0 q1 q2 q3, w.cell? ⟨lb, lo + j * 4, none⟩ = some q0 ∧ w.cell? ⟨lb, lo + j * 4 + 1, none⟩ = some q1 ∧ w.cell? ⟨lb, lo + j * 4 + 2, none⟩ = some q2 ∧ w.cell? ⟨lb, lo + j * 4 + 3, none⟩ = some q3 ∧ IsV w 0 x q0 q1 q2 q3 := by
            intro j x hx
            obtain ⟨_, _, e, h⟩ := hLx
            simp only [Value.slice.injEq] at e
            obtain ⟨rfl, _, _⟩ := e
            rcases h with rfl | ⟨b, off, rfl, hr⟩
            · simp at hx
            · exact ⟨b, off, rfl, hr.at' l b off j x hx⟩
          have HL := Lib.hid hlc
          have HBL := Lib.hid bl
          clear hlc bl
          have FIN : ∀ wr : World, Below w.heap.size w wr → True := fun _ _ => trivial
          clear FIN
          rcases hexit with hge | ⟨hlt, hmneg⟩
          · have hge2 : ¬ ((i : Int) < (ks.length : Int)) := by omega
            go_wp2
            go_loopw [1, 8] (fun vn vi wr => ∃ (p : Int) (i : Nat), vn = .int .i64 p ∧ vi = .int .i64 i ∧ i ≤ l.length ∧ -1152921504606846976 ≤ p ∧ p ≤ 2000 ∧ manyL l m (d - 1) = manyL (l.drop i) p (d - 1) ∧ Below w.heap.size w wr ∧ wr.heap[w.heap.size]? = some (.cells #[.int .u8 (k : Nat), .string t, .slice kxa ks.length kxp, .slice lxa l.length lxp] 26 (0, 0))) (fun _ vi _ => l.length - (intOf vi).toNat)
            case atStart => exact ⟨m, 0, rfl, rfl, Nat.zero_le _, m0, m1, by rw [List.drop_zero], hbel, hbox⟩
            case round =>
              obtain ⟨p, i2, rfl, rfl, hi2, p0, p1, hml, hB2, hbx⟩ := hrel
              have y3 := Lib.cell_of_heap hbx 3
              by_cases hgo : i2 < l.length ∧ 0 ≤ p
              · obtain ⟨hlt3, hp0⟩ := hgo
                obtain ⟨x, hx⟩ : ∃ x, l[i2]? = some x := ⟨_, List.getElem?_eq_getElem hlt3⟩
                have HML := Lib.hid (hml.trans (manyL_drop hx hp0))
                obtain ⟨lb, lo, rfl, q0, q1, q2, q3, g0, g1, g2, g3, hVx⟩ := HL.out i2 x hx
                have hbx1 := bndL_at HBL.out hx
                have hsx : sizeV x ≤ N := by have := sizeV_in hx; simp only [sizeV] at hv; omega
                have e0 := cell_on hB2 g0
                have e1 := cell_on hB2 g1
                have e2 := cell_on hB2 g2
                have e3 := cell_on hB2 g3
                have hVr := IsV.stays (Below.stays hB2 0) (Nat.le_refl 0) _ _ _ _ _ hVx
                have hrg := manyV_rng x p (d - 1) hbx1 hp0 p1
                obtain ⟨k9, t9, ka9, kl9, kc9, la9, ll9, lc9, rfl, rfl, rfl, rfl⟩ := hVx.shape
                have hcall := ih x hsx _ _ _ _ p (d - 1) wr hVr hbx1 hp0 p1 (by omega) (by omega)
                have hlt4 : (i2 : Int) < (l.length : Int) := by omega
                generalize manyV x p (d - 1) = r at *
                clear hml g0 g1 g2 g3 hVx hVr hx hv
                go_wp2_with (go_at_call 38; refine hcall.mono ?_; rintro e w3 ⟨rfl, hb3⟩)
                go_roundw
                case rel => exact ⟨r, i2 + 1, rfl, by go_num, hlt3, hrg.1, hrg.2, HML.out, hB2.trans (hb3.mono hB2.size), (hb3.block _ (Array.getElem?_eq_some_iff.1 hbx).1).trans hbx⟩
                case measure => simp [intOf]; omega
              · have hend2 : manyL l m (d - 1) = p := by
                  rw [hml]
                  by_cases hlt3 : i2 < l.length
                  · exact manyL_neg (by omega)
                  · rw [List.drop_eq_nil_of_le (by omega)]
                    simp only [manyL]
                rw [hend2] at E
                clear hml hend2
                have hexit2 : ¬ (i2 < l.length) ∨ (i2 < l.length ∧ p < 0) := by omega
                clear hgo
                rcases hexit2 with hge3 | ⟨hlt3, hpneg⟩
                · have hge4 : ¬ ((i2 : Int) < (l.length : Int)) := by omega
                  go_wp2
                  go_ret
                  exact ⟨ret_int E.out.symm, hB2⟩
                · have hlt4 : (i2 : Int) < (l.length : Int) := by omega
                  go_wp2
                  go_ret
                  exact ⟨ret_int E.out.symm, hB2⟩
          · have hlt2 : (i : Int) < (ks.length : Int) := by omega
            go_wp2
            go_loopw [1, 8] (fun vn vi wr => ∃ (p : Int) (i : Nat), vn = .int .i64 p ∧ vi = .int .i64 i ∧ i ≤ l.length ∧ -1152921504606846976 ≤ p ∧ p ≤ 2000 ∧ manyL l m (d - 1) = manyL (l.drop i) p (d - 1) ∧ Below w.heap.size w wr ∧ wr.heap[w.heap.size]? = some (.cells #[.int .u8 (k : Nat), .string t, .slice kxa ks.length kxp, .slice lxa l.length lxp] 26 (0, 0))) (fun _ vi _ => l.length - (intOf vi).toNat)
            case atStart => exact ⟨m, 0, rfl, rfl, Nat.zero_le _, m0, m1, by rw [List.drop_zero], hbel, hbox⟩
            case round =>
              obtain ⟨p, i2, rfl, rfl, hi2, p0, p1, hml, hB2, hbx⟩ := hrel
              have y3 := Lib.cell_of_heap hbx 3
              by_cases hgo : i2 < l.length ∧ 0 ≤ p
              · obtain ⟨hlt3, hp0⟩ := hgo
                obtain ⟨x, hx⟩ : ∃ x, l[i2]? = some x := ⟨_, List.getElem?_eq_getElem hlt3⟩
                have HML := Lib.hid (hml.trans (manyL_drop hx hp0))
                obtain ⟨lb, lo, rfl, q0, q1, q2, q3, g0, g1, g2, g3, hVx⟩ := HL.out i2 x hx
                have hbx1 := bndL_at HBL.out hx
                have hsx : sizeV x ≤ N := by have := sizeV_in hx; simp only [sizeV] at hv; omega
                have e0 := cell_on hB2 g0
                have e1 := cell_on hB2 g1
                have e2 := cell_on hB2 g2
                have e3 := cell_on hB2 g3
                have hVr := IsV.stays (Below.stays hB2 0) (Nat.le_refl 0) _ _ _ _ _ hVx
                have hrg := manyV_rng x p (d - 1) hbx1 hp0 p1
                obtain ⟨k9, t9, ka9, kl9, kc9, la9, ll9, lc9, rfl, rfl, rfl, rfl⟩ := hVx.shape
                have hcall := ih x hsx _ _ _ _ p (d - 1) wr hVr hbx1 hp0 p1 (by omega) (by omega)
                have hlt4 : (i2 : Int) < (l.length : Int) := by omega
                generalize manyV x p (d - 1) = r at *
                clear hml g0 g1 g2 g3 hVx hVr hx hv
                go_wp2_with (go_at_call 38; refine hcall.mono ?_; rintro e w3 ⟨rfl, hb3⟩)
                go_roundw
                case rel => exact ⟨r, i2 + 1, rfl, by go_num, hlt3, hrg.1, hrg.2, HML.out, hB2.trans (hb3.mono hB2.size), (hb3.block _ (Array.getElem?_eq_some_iff.1 hbx).1).trans hbx⟩
                case measure => simp [intOf]; omega
              · have hend2 : manyL l m (d - 1) = p := by
                  rw [hml]
                  by_cases hlt3 : i2 < l.length
                  · exact manyL_neg (by omega)
                  · rw [List.drop_eq_nil_of_le (by omega)]
                    simp only [manyL]
                rw [hend2] at E
                clear hml hend2
                have hexit2 : ¬ (i2 < l.length) ∨ (i2 < l.length ∧ p < 0) := by omega
                clear hgo
                rcases hexit2 with hge3 | ⟨hlt3, hpneg⟩
                · have hge4 : ¬ ((i2 : Int) < (l.length : Int)) := by omega
                  go_wp2
                  go_ret
                  exact ⟨ret_int E.out.symm, hB2⟩
                · have hlt4 : (i2 : Int) < (l.length : Int) := by omega
                  go_wp2
                  go_ret
                  exact ⟨ret_int E.out.symm, hB2⟩
end Go.Proofs.YtakdhfjlhkejdaaGreatDoor
