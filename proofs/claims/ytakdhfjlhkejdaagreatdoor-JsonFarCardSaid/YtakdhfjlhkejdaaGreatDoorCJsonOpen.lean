/-
  A PARAMETER OF TYPE api.Value, opened: what can be read as data is a value in memory; its bounds; read again behind a call.
-/
import Derived.Test.YtakdhfjlhkejdaaGreatDoorN3
import Derived.ChangeSame
import Derived.SliceStrings
import Derived.Deep.Slices
import Derived.OpenShut
set_option linter.unusedSimpArgs false
set_option linter.unusedVariables false
set_option linter.unusedVariables false
namespace Go.Proofs.YtakdhfjlhkejdaaGreatDoor
open Go.ChangeShapes Go.WideShapes Go.RowKit
mutual
/-- each text and each list alone is within the reach -/
def bndV : JV → Prop
  | .mk _ t ks l => t.size ≤ maxLen ∧ (∀ k ∈ ks, k.size ≤ maxLen) ∧ ks.length ≤ maxLen ∧ l.length ≤ maxLen ∧ bndL l
def bndL : List JV → Prop
  | [] => True
  | v :: t => bndV v ∧ bndL t
end
theorem bndL_of : ∀ (l : List JV), (∀ v ∈ l, bndV v) → bndL l
  | [], _ => by simp only [bndL]
  | v :: t, h => by simp only [bndL]; exact ⟨h v (List.mem_cons_self ..), bndL_of t fun x hx => h x (List.mem_cons_of_mem _ hx)⟩
theorem bndL_at : ∀ {l : List JV} {i : Nat} {v : JV}, bndL l → l[i]? = some v → bndV v
  | [], _, _, _, h => by simp at h
  | x :: t, 0, v, hb, h => by simp only [bndL] at hb; simp only [List.getElem?_cons_zero, Option.some.injEq] at h; subst h; exact hb.1
  | x :: t, i + 1, v, hb, h => by simp only [bndL] at hb; exact bndL_at hb.2 (by simpa using h)
theorem exists_list {α : Type} {P : Nat → α → Prop} : ∀ n : Nat, (∀ i, i < n → ∃ x, P i x) → ∃ l : List α, l.length = n ∧ ∀ i x, l[i]? = some x → P i x
  | 0, _ => ⟨[], rfl, fun i x h => by simp at h⟩
  | n + 1, h => by
    obtain ⟨l, hl, hp⟩ := exists_list n fun i hi => h i (Nat.lt_succ_of_lt hi)
    obtain ⟨x, hx⟩ := h n (Nat.lt_succ_self n)
    refine ⟨l ++ [x], by simp [hl], fun i y hy => ?_⟩
    rcases Nat.lt_trichotomy i n with hi | rfl | hi
    · rw [List.getElem?_append_left (by omega)] at hy
      exact hp i y hy
    · rw [List.getElem?_append_right (by omega), hl, Nat.sub_self] at hy
      simp only [List.getElem?_cons_zero, Option.some.injEq] at hy
      subst hy
      exact hx
    · rw [List.getElem?_append_right (by omega), hl] at hy
      have : i - n ≠ 0 := by omega
      obtain ⟨m, hm⟩ := Nat.exists_eq_succ_of_ne_zero this
      rw [hm] at hy
      simp at hy
theorem IsRow.of_at {w : World} {lo : Nat} : ∀ (l : List JV) (b off : Nat), (∀ i v, l[i]? = some v → ∃ c0 c1 c2 c3, w.cell? ⟨b, off + 4 * i, none⟩ = some c0 ∧ w.cell? ⟨b, off + 4 * i + 1, none⟩ = some c1 ∧ w.cell? ⟨b, off + 4 * i + 2, none⟩ = some c2 ∧ w.cell? ⟨b, off + 4 * i + 3, none⟩ = some c3 ∧ IsV w lo v c0 c1 c2 c3) → IsRow w lo l b off
  | [], _, _, _ => by simp only [IsRow]
  | v :: t, b, off, h => by
    simp only [IsRow]
    refine ⟨by simpa using h 0 v rfl, IsRow.of_at t b (off + 4) fun i x hx => ?_⟩
    have := h (i + 1) x (by simpa using hx)
    rw [show off + 4 * (i + 1) = off + 4 + 4 * i by omega] at this
    exact this
section
variable {H : Type} {enc : TypeId × Value → H} {w : World} {base : Nat} {spare : Nat → Bool} {held : Bool}
theorem add_plain {a : Addr} {v : Value} {n : Nat} (h : w.cell? (a.add n) = some v) : a.add n = ⟨a.block, a.off + n, none⟩ := by
  have := World.cell?_spot h
  unfold Addr.add at this ⊢
  split
  · rename_i h0
    rw [if_pos h0] at this
    obtain ⟨b, o, s⟩ := a
    simp only at this
    subst this
    subst h0
    rfl
  · rfl
theorem keys_of_trod {fuel : Nat} {c : Value} {x : DataW H × List MemPlace} (h : DataW.trod enc Tryz.prog w base spare held fuel 23 [c] = some x) :
    ∃ ks, IsKeys w 0 ks c ∧ (∀ k ∈ ks, k.size ≤ maxLen) ∧ ks.length ≤ maxLen := by
  rcases open_strings Tryz.underlying23 Tryz.underlying9 (by kernel_rfl) h with ⟨e, _⟩ | ⟨a, len, cap, ss, e, hb, hl, hm, hss, _, hc, hz⟩
  · simp only [List.cons.injEq, and_true] at e
    subst e
    exact ⟨[], ⟨_, _, rfl, .inl rfl⟩, by simp, Nat.zero_le _⟩
  · simp only [List.cons.injEq, and_true] at e
    subst e
    have hle : len ≤ ss.length := by rw [hss]; split <;> omega
    have htl : (ss.take len).length = len := by rw [List.length_take]; omega
    refine ⟨ss.take len, ⟨some a, cap, by rw [htl], ?_⟩, fun k hk => hz k (List.mem_of_mem_take hk), by omega⟩
    by_cases h0 : len = 0
    · subst h0
      exact .inl rfl
    · have h00 := hc 0 (by omega)
      have ha := add_plain h00
      unfold Addr.add at ha
      rw [if_pos rfl] at ha
      refine .inr ⟨a.block, a.off, by rw [ha], Nat.zero_le _, fun j hj => ?_⟩
      rw [htl] at hj
      have := hc j (by omega)
      rw [add_plain this] at this
      rw [this]
      congr 2
      rw [List.getD_eq_getElem?_getD, List.getD_eq_getElem?_getD, List.getElem?_take_of_lt hj]
set_option maxRecDepth 10000000 in
theorem val_of_trod : ∀ (fuel : Nat) (cs : List Value) (x : DataW H × List MemPlace), DataW.trod enc Tryz.prog w base spare held fuel 26 cs = some x →
    ∃ v c0 c1 c2 c3, cs = [c0, c1, c2, c3] ∧ IsV w 0 v c0 c1 c2 c3 ∧ bndV v := by
  intro fuel
  induction fuel using Nat.strongRecOn with
  | ind fuel ih =>
    intro cs x h
    obtain ⟨xs, n, rfl, _, hlen, hxl, hf⟩ := DataW.trod_struct Tryz.underlying26 h
    have hlen4 : cs.length = 4 := hlen
    have hxl4 : xs.length = 4 := hxl
    match cs, hlen4, xs, hxl4 with
    | [c0, c1, c2, c3], _, [y0, y1, y2, y3], _ =>
      have f0 : DataW.trod enc Tryz.prog w base spare held n 5 [c0] = some y0 := hf 0 _ rfl
      have f1 : DataW.trod enc Tryz.prog w base spare held n 9 [c1] = some y1 := hf 1 _ rfl
      have f2 : DataW.trod enc Tryz.prog w base spare held n 23 [c2] = some y2 := hf 2 _ rfl
      have f3 : DataW.trod enc Tryz.prog w base spare held n 24 [c3] = some y3 := hf 3 _ rfl
      obtain ⟨k, e0, _, hw0⟩ := DataW.trod_int Tryz.underlying5 f0
      obtain ⟨t, e1, _, hs1⟩ := DataW.trod_string Tryz.underlying9 f1
      obtain ⟨ks, hks, hk1, hk2⟩ := keys_of_trod f2
      simp only [List.cons.injEq, and_true] at e0 e1
      obtain ⟨b0, b9⟩ := bounds_u8 hw0
      obtain ⟨m, rfl⟩ := Int.eq_ofNat_of_zero_le b0
      subst e0
      subst e1
      have hl : ∃ l : List JV, (∃ a cap, c3 = .slice a l.length cap ∧ (l = [] ∨ ∃ b off, a = some ⟨b, off, none⟩ ∧ 0 ≤ b ∧ IsRow w 0 l b off)) ∧ l.length ≤ maxLen ∧ bndL l := by
        rcases DataW.trod_slice Tryz.underlying24 f3 with ⟨e, _⟩ | ⟨a, len, cap, elems, rst, n', hn', e, _, hb, hlc, hcm, hel, hat, _, _⟩
        · simp only [List.cons.injEq, and_true] at e
          exact ⟨[], ⟨_, _, e, .inl rfl⟩, Nat.zero_le _, by simp only [bndL]⟩
        · simp only [List.cons.injEq, and_true] at e
          subst e
          have hc4 : Tryz.prog.cellsOf 26 = 4 := by kernel_rfl
          have hone : ∀ i, i < len → ∃ v : JV, (∃ d0 d1 d2 d3, w.cell? ⟨a.block, a.off + 4 * i, none⟩ = some d0 ∧ w.cell? ⟨a.block, a.off + 4 * i + 1, none⟩ = some d1 ∧ w.cell? ⟨a.block, a.off + 4 * i + 2, none⟩ = some d2 ∧ w.cell? ⟨a.block, a.off + 4 * i + 3, none⟩ = some d3 ∧ IsV w 0 v d0 d1 d2 d3) ∧ bndV v ∧ (i = 0 → a.spot = none) := by
            intro i hi
            have h1 := hat i hi
            rw [hc4] at h1
            have hsome : ∃ y, elems[i]? = some y := ⟨elems[i]'(by omega), List.getElem?_eq_getElem (by omega)⟩
            obtain ⟨y, hy⟩ := hsome
            rw [hy] at h1
            cases hcs : w.cells? base (a.add (i * 4)) 4 with
            | none => rw [hcs] at h1; simp at h1
            | some cs' =>
              rw [hcs] at h1
              obtain ⟨v, d0, d1, d2, d3, e, hV, hbv⟩ := ih n' (by omega) cs' y h1
              subst e
              obtain ⟨_, hcl, hcat⟩ := World.cells?_some hcs
              have g0 : w.cell? ((a.add (i * 4)).add 0) = some d0 := hcat (i := 0) (by omega)
              have g1 : w.cell? ((a.add (i * 4)).add 1) = some d1 := hcat (i := 1) (by omega)
              have g2 : w.cell? ((a.add (i * 4)).add 2) = some d2 := hcat (i := 2) (by omega)
              have g3 : w.cell? ((a.add (i * 4)).add 3) = some d3 := hcat (i := 3) (by omega)
              have hz : (a.add (i * 4)).add 0 = a.add (i * 4) := by unfold Addr.add; simp
              rw [hz] at g0
              have p0 := add_plain g0
              rw [p0] at g0 g1 g2 g3
              rw [add_plain g1] at g1
              rw [add_plain g2] at g2
              rw [add_plain g3] at g3
              simp only at g1 g2 g3
              rw [Nat.mul_comm i 4] at g0 g1 g2 g3
              refine ⟨v, ⟨d0, d1, d2, d3, g0, g1, g2, g3, hV⟩, hbv, fun h0 => ?_⟩
              subst h0
              rw [Nat.zero_mul] at p0
              unfold Addr.add at p0
              rw [if_pos rfl] at p0
              rw [p0]
          obtain ⟨l, hll, hlp⟩ := exists_list len hone
          refine ⟨l, ⟨some a, cap, by rw [hll], ?_⟩, by omega, bndL_of l fun v hv => ?_⟩
          · by_cases h0 : len = 0
            · exact .inl (List.eq_nil_of_length_eq_zero (by omega))
            · refine .inr ⟨a.block, a.off, ?_, Nat.zero_le _, IsRow.of_at l _ _ fun i v hi => (hlp i v hi).1⟩
              obtain ⟨v, hv⟩ : ∃ v, l[0]? = some v := ⟨l[0]'(by omega), List.getElem?_eq_getElem (by omega)⟩
              have := (hlp 0 v hv).2.2 rfl
              obtain ⟨b, o, s⟩ := a
              simp only at this
              subst this
              rfl
          · obtain ⟨i, hi, e⟩ := List.getElem_of_mem hv
            exact (hlp i v (by rw [← e]; exact List.getElem?_eq_getElem hi)).2.1
      obtain ⟨l, hl1, hl2, hl3⟩ := hl
      refine ⟨.mk m t ks l, _, _, _, _, rfl, ?_, ?_⟩
      · simp only [IsV]
        exact ⟨trivial, trivial, hks, hl1⟩
      · simp only [bndV]
        exact ⟨hs1, hk1, hk2, hl2, hl3⟩
end
end Go.Proofs.YtakdhfjlhkejdaaGreatDoor
