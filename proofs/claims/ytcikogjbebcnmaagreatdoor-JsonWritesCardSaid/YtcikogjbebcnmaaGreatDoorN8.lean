/-
  TEXTS OF THE SEAT, put together: LaidJ, JsonOpen, JsonMany, JsonSpoil, JsonSpoil2, JsonRSame, JsonRCopM, JsonRCopy.
-/
import Derived.Test.YtcikogjbebcnmaaGreatDoorRows
import Derived.Test.YtcikogjbebcnmaaGreatDoorN7
import Derived.ChangeSame
import Derived.ChangeVars
import Derived.JoinedOf
import Derived.RowKitTokens
import Derived.LaidLaws
import Derived.LaidHandle
import Derived.Stop.Joined
import Derived.Test.YtcikogjbebcnmaaGreatDoorN3
import Derived.SliceStrings
import Derived.Deep.Slices
import Derived.OpenShut
import Derived.Test.YtcikogjbebcnmaaGreatDoorN4
import Derived.Deep.RegionWith
import Derived.BigQuiet
import Derived.Test.YtcikogjbebcnmaaGreatDoorN6
import Derived.Deep.Upon
import Derived.Deep.AppendSrc
import Derived.Deep.AppendLies
import Derived.Deep.DeepCutAuto
set_option linter.unusedSimpArgs false
set_option linter.unusedVariables false

/-
  THE LAID VARIABLES of the json rows: the library's two error variables and three tables, as the program's text lays them: what a walk needs of them; a world that meets the condition.
-/
namespace Go.Proofs.YtcikogjbebcnmaaGreatDoor
open Go.ChangeShapes Go.WideShapes Go.RowKit
def laidL : List (String × DataW Unit) := [("math/bits.deBruijn32tab", Rows.laid_math_bits_deBruijn32tab), ("math/bits.deBruijn64tab", Rows.laid_math_bits_deBruijn64tab), ("internal/strconv.uint64pow10", Rows.laid_internal_strconv_uint64pow10), ("strconv.ErrRange", Rows.laid_strconv_ErrRange), ("strconv.ErrSyntax", Rows.laid_strconv_ErrSyntax)]
theorem glob_syn : Tryz.prog.globalNamed "strconv.ErrSyntax" = some 1 := by kernel_rfl
theorem glob_rng : Tryz.prog.globalNamed "strconv.ErrRange" = some 2 := by kernel_rfl
theorem gtyp_syn : (Tryz.prog.globals[1]?).map (·.type) = some 78 := by kernel_rfl
theorem gtyp_rng : (Tryz.prog.globals[2]?).map (·.type) = some 78 := by kernel_rfl
theorem vars_of_laid {W : World} (h : laidMet Tryz.prog laidL W) : Vars W := by
  obtain ⟨ps, ⟨ga, ta, csa, fa, pa, qa, hga, hta, hva, hda, ⟨gb, tb, csb, fb, pb, qb, hgb, htb, hvb, hdb, ⟨gc, tc, csc, fc, pc, qc, hgc, htc, hvc, hdc, ⟨gd, td, csd, fd, pd, qd, hgd, htd, hvd, hdd, ⟨ge, te, cse, fe, pe, qe, hge, hte, hve, hde, _⟩, _⟩, _⟩, _⟩, _⟩, hnd, hrows⟩ := h
  obtain rfl := Option.some.inj (glob_rng.symm.trans hgd)
  obtain rfl := Option.some.inj (glob_syn.symm.trans hge)
  obtain rfl := Option.some.inj (gtyp_rng.symm.trans htd)
  obtain rfl := Option.some.inj (gtyp_syn.symm.trans hte)
  obtain ⟨_, u1, v1, e1, _⟩ := iface_of_trod Tryz.underlying78 hdd
  obtain ⟨_, u2, v2, e2, _⟩ := iface_of_trod Tryz.underlying78 hde
  obtain ⟨l1⟩ := csd
  obtain ⟨l2⟩ := cse
  simp only at e1 e2
  subst e1
  subst e2
  have c1 : W.cell? ⟨2, 0, none⟩ = some (.iface u1 v1) := by simpa using World.var?_cell glob_rng hvd 0
  have c2 : W.cell? ⟨1, 0, none⟩ = some (.iface u2 v2) := by simpa using World.var?_cell glob_syn hve 0
  exact ⟨⟨u2, v2, c2⟩, ⟨u1, v1, c1⟩, World.block_lt_of_cell? W _ c2, World.block_lt_of_cell? W _ c1⟩
def intsOf : DataW Unit → List Value
  | .agg ds => ds.map fun | .lit (.int k n) => .int k n | _ => undef
  | _ => []
noncomputable def laidLow : Nat := (World.holding Tryz.prog default ⟨#[], #[], []⟩).heap.size
def putCells (h : Array Obj) (g : Nat) (cs : Array Value) : Array Obj := h.modify g fun
  | .cells _ t frozen => .cells cs t frozen
  | o => o
/-- A world that meets the condition: the settled one, the variables' cells laid. -/
noncomputable def laidWorld (os : Os) : World :=
  let w0 := World.holding Tryz.prog os ⟨#[.cells #[.string ⟨#[118, 97, 108, 117, 101, 32, 111, 117, 116, 32, 111, 102, 32, 114, 97, 110, 103, 101]⟩] 152, .cells #[.string ⟨#[105, 110, 118, 97, 108, 105, 100, 32, 115, 121, 110, 116, 97, 120]⟩] 152], #[], []⟩
  { w0 with heap := putCells (putCells (putCells (putCells (putCells w0.heap 2 #[.iface 150 (.pointer (some ⟨laidLow, 0, none⟩))]) 1 #[.iface 150 (.pointer (some ⟨laidLow + 1, 0, none⟩))])
      4 (intsOf Rows.laid_math_bits_deBruijn32tab).toArray) 5 (intsOf Rows.laid_math_bits_deBruijn64tab).toArray) 3 (intsOf Rows.laid_internal_strconv_uint64pow10).toArray }
theorem laidWorld_met (os : Os) (args : Array Value) : laidMet Tryz.prog laidL ((laidWorld os).forCall (fun _ _ => 0) ⟨#[], args, []⟩).memory :=
  laidMet_of_run' 8 (by kernel_rfl) (by kernel_rfl)
end Go.Proofs.YtcikogjbebcnmaaGreatDoor

/-
  A PARAMETER OF TYPE api.Value, opened: what can be read as data is a value in memory; its bounds; read again behind a call.
-/
set_option linter.unusedVariables false
namespace Go.Proofs.YtcikogjbebcnmaaGreatDoor
open Go.ChangeShapes Go.WideShapes Go.RowKit
mutual
/-- each text and each list alone is within the reach -/
def bndV : JV → Prop
  | .mk _ t ks l => t.size ≤ maxLen ∧ (∀ k ∈ ks, k.size ≤ maxLen) ∧ ks.length ≤ maxLen ∧ l.length ≤ maxLen ∧ bndL l
def bndL : List JV → Prop
  | [] => True
  | v :: t => bndV v ∧ bndL t
end
theorem bndL_of : ∀ (l : List JV), (∀ v ∈ l, bndV v) → bndL l
  | [], _ => by simp only [bndL]
  | v :: t, h => by simp only [bndL]; exact ⟨h v (List.mem_cons_self ..), bndL_of t fun x hx => h x (List.mem_cons_of_mem _ hx)⟩
theorem bndL_at : ∀ {l : List JV} {i : Nat} {v : JV}, bndL l → l[i]? = some v → bndV v
  | [], _, _, _, h => by simp at h
  | x :: t, 0, v, hb, h => by simp only [bndL] at hb; simp only [List.getElem?_cons_zero, Option.some.injEq] at h; subst h; exact hb.1
  | x :: t, i + 1, v, hb, h => by simp only [bndL] at hb; exact bndL_at hb.2 (by simpa using h)
theorem exists_list {α : Type} {P : Nat → α → Prop} : ∀ n : Nat, (∀ i, i < n → ∃ x, P i x) → ∃ l : List α, l.length = n ∧ ∀ i x, l[i]? = some x → P i x
  | 0, _ => ⟨[], rfl, fun i x h => by simp at h⟩
  | n + 1, h => by
    obtain ⟨l, hl, hp⟩ := exists_list n fun i hi => h i (Nat.lt_succ_of_lt hi)
    obtain ⟨x, hx⟩ := h n (Nat.lt_succ_self n)
    refine ⟨l ++ [x], by simp [hl], fun i y hy => ?_⟩
    rcases Nat.lt_trichotomy i n with hi | rfl | hi
    · rw [List.getElem?_append_left (by omega)] at hy
      exact hp i y hy
    · rw [List.getElem?_append_right (by omega), hl, Nat.sub_self] at hy
      simp only [List.getElem?_cons_zero, Option.some.injEq] at hy
      subst hy
      exact hx
    · rw [List.getElem?_append_right (by omega), hl] at hy
      have : i - n ≠ 0 := by omega
      obtain ⟨m, hm⟩ := Nat.exists_eq_succ_of_ne_zero this
      rw [hm] at hy
      simp at hy
theorem IsRow.of_at {w : World} {lo : Nat} : ∀ (l : List JV) (b off : Nat), (∀ i v, l[i]? = some v → ∃ c0 c1 c2 c3, w.cell? ⟨b, off + 4 * i, none⟩ = some c0 ∧ w.cell? ⟨b, off + 4 * i + 1, none⟩ = some c1 ∧ w.cell? ⟨b, off + 4 * i + 2, none⟩ = some c2 ∧ w.cell? ⟨b, off + 4 * i + 3, none⟩ = some c3 ∧ IsV w lo v c0 c1 c2 c3) → IsRow w lo l b off
  | [], _, _, _ => by simp only [IsRow]
  | v :: t, b, off, h => by
    simp only [IsRow]
    refine ⟨by simpa using h 0 v rfl, IsRow.of_at t b (off + 4) fun i x hx => ?_⟩
    have := h (i + 1) x (by simpa using hx)
    rw [show off + 4 * (i + 1) = off + 4 + 4 * i by omega] at this
    exact this
section
variable {H : Type} {enc : TypeId × Value → H} {w : World} {base : Nat} {spare : Nat → Bool} {held : Bool}
theorem add_plain {a : Addr} {v : Value} {n : Nat} (h : w.cell? (a.add n) = some v) : a.add n = ⟨a.block, a.off + n, none⟩ := by
  have := World.cell?_spot h
  unfold Addr.add at this ⊢
  split
  · rename_i h0
    rw [if_pos h0] at this
    obtain ⟨b, o, s⟩ := a
    simp only at this
    subst this
    subst h0
    rfl
  · rfl
theorem keys_of_trod {fuel : Nat} {c : Value} {x : DataW H × List MemPlace} (h : DataW.trod enc Tryz.prog w base spare held fuel 23 [c] = some x) :
    ∃ ks, IsKeys w 0 ks c ∧ (∀ k ∈ ks, k.size ≤ maxLen) ∧ ks.length ≤ maxLen := by
  rcases open_strings Tryz.underlying23 Tryz.underlying9 (by kernel_rfl) h with ⟨e, _⟩ | ⟨a, len, cap, ss, e, hb, hl, hm, hss, _, hc, hz⟩
  · simp only [List.cons.injEq, and_true] at e
    subst e
    exact ⟨[], ⟨_, _, rfl, .inl rfl⟩, by simp, Nat.zero_le _⟩
  · simp only [List.cons.injEq, and_true] at e
    subst e
    have hle : len ≤ ss.length := by rw [hss]; split <;> omega
    have htl : (ss.take len).length = len := by rw [List.length_take]; omega
    refine ⟨ss.take len, ⟨some a, cap, by rw [htl], ?_⟩, fun k hk => hz k (List.mem_of_mem_take hk), by omega⟩
    by_cases h0 : len = 0
    · subst h0
      exact .inl rfl
    · have h00 := hc 0 (by omega)
      have ha := add_plain h00
      unfold Addr.add at ha
      rw [if_pos rfl] at ha
      refine .inr ⟨a.block, a.off, by rw [ha], Nat.zero_le _, fun j hj => ?_⟩
      rw [htl] at hj
      have := hc j (by omega)
      rw [add_plain this] at this
      rw [this]
      congr 2
      rw [List.getD_eq_getElem?_getD, List.getD_eq_getElem?_getD, List.getElem?_take_of_lt hj]
set_option maxRecDepth 10000000 in
theorem val_of_trod : ∀ (fuel : Nat) (cs : List Value) (x : DataW H × List MemPlace), DataW.trod enc Tryz.prog w base spare held fuel 26 cs = some x →
    ∃ v c0 c1 c2 c3, cs = [c0, c1, c2, c3] ∧ IsV w 0 v c0 c1 c2 c3 ∧ bndV v := by
  intro fuel
  induction fuel using Nat.strongRecOn with
  | ind fuel ih =>
    intro cs x h
    obtain ⟨xs, n, rfl, _, hlen, hxl, hf⟩ := DataW.trod_struct Tryz.underlying26 h
    have hlen4 : cs.length = 4 := hlen
    have hxl4 : xs.length = 4 := hxl
    match cs, hlen4, xs, hxl4 with
    | [c0, c1, c2, c3], _, [y0, y1, y2, y3], _ =>
      have f0 : DataW.trod enc Tryz.prog w base spare held n 5 [c0] = some y0 := hf 0 _ rfl
      have f1 : DataW.trod enc Tryz.prog w base spare held n 9 [c1] = some y1 := hf 1 _ rfl
      have f2 : DataW.trod enc Tryz.prog w base spare held n 23 [c2] = some y2 := hf 2 _ rfl
      have f3 : DataW.trod enc Tryz.prog w base spare held n 24 [c3] = some y3 := hf 3 _ rfl
      obtain ⟨k, e0, _, hw0⟩ := DataW.trod_int Tryz.underlying5 f0
      obtain ⟨t, e1, _, hs1⟩ := DataW.trod_string Tryz.underlying9 f1
      obtain ⟨ks, hks, hk1, hk2⟩ := keys_of_trod f2
      simp only [List.cons.injEq, and_true] at e0 e1
      obtain ⟨b0, b9⟩ := bounds_u8 hw0
      obtain ⟨m, rfl⟩ := Int.eq_ofNat_of_zero_le b0
      subst e0
      subst e1
      have hl : ∃ l : List JV, (∃ a cap, c3 = .slice a l.length cap ∧ (l = [] ∨ ∃ b off, a = some ⟨b, off, none⟩ ∧ 0 ≤ b ∧ IsRow w 0 l b off)) ∧ l.length ≤ maxLen ∧ bndL l := by
        rcases DataW.trod_slice Tryz.underlying24 f3 with ⟨e, _⟩ | ⟨a, len, cap, elems, rst, n', hn', e, _, hb, hlc, hcm, hel, hat, _, _⟩
        · simp only [List.cons.injEq, and_true] at e
          exact ⟨[], ⟨_, _, e, .inl rfl⟩, Nat.zero_le _, by simp only [bndL]⟩
        · simp only [List.cons.injEq, and_true] at e
          subst e
          have hc4 : Tryz.prog.cellsOf 26 = 4 := by kernel_rfl
          have hone : ∀ i, i < len → ∃ v : JV, (∃ d0 d1 d2 d3, w.cell? ⟨a.block, a.off + 4 * i, none⟩ = some d0 ∧ w.cell? ⟨a.block, a.off + 4 * i + 1, none⟩ = some d1 ∧ w.cell? ⟨a.block, a.off + 4 * i + 2, none⟩ = some d2 ∧ w.cell? ⟨a.block, a.off + 4 * i + 3, none⟩ = some d3 ∧ IsV w 0 v d0 d1 d2 d3) ∧ bndV v ∧ (i = 0 → a.spot = none) := by
            intro i hi
            have h1 := hat i hi
            rw [hc4] at h1
            have hsome : ∃ y, elems[i]? = some y := ⟨elems[i]'(by omega), List.getElem?_eq_getElem (by omega)⟩
            obtain ⟨y, hy⟩ := hsome
            rw [hy] at h1
            cases hcs : w.cells? base (a.add (i * 4)) 4 with
            | none => rw [hcs] at h1; simp at h1
            | some cs' =>
              rw [hcs] at h1
              obtain ⟨v, d0, d1, d2, d3, e, hV, hbv⟩ := ih n' (by omega) cs' y h1
              subst e
              obtain ⟨_, hcl, hcat⟩ := World.cells?_some hcs
              have g0 : w.cell? ((a.add (i * 4)).add 0) = some d0 := hcat (i := 0) (by omega)
              have g1 : w.cell? ((a.add (i * 4)).add 1) = some d1 := hcat (i := 1) (by omega)
              have g2 : w.cell? ((a.add (i * 4)).add 2) = some d2 := hcat (i := 2) (by omega)
              have g3 : w.cell? ((a.add (i * 4)).add 3) = some d3 := hcat (i := 3) (by omega)
              have hz : (a.add (i * 4)).add 0 = a.add (i * 4) := by unfold Addr.add; simp
              rw [hz] at g0
              have p0 := add_plain g0
              rw [p0] at g0 g1 g2 g3
              rw [add_plain g1] at g1
              rw [add_plain g2] at g2
              rw [add_plain g3] at g3
              simp only at g1 g2 g3
              rw [Nat.mul_comm i 4] at g0 g1 g2 g3
              refine ⟨v, ⟨d0, d1, d2, d3, g0, g1, g2, g3, hV⟩, hbv, fun h0 => ?_⟩
              subst h0
              rw [Nat.zero_mul] at p0
              unfold Addr.add at p0
              rw [if_pos rfl] at p0
              rw [p0]
          obtain ⟨l, hll, hlp⟩ := exists_list len hone
          refine ⟨l, ⟨some a, cap, by rw [hll], ?_⟩, by omega, bndL_of l fun v hv => ?_⟩
          · by_cases h0 : len = 0
            · exact .inl (List.eq_nil_of_length_eq_zero (by omega))
            · refine .inr ⟨a.block, a.off, ?_, Nat.zero_le _, IsRow.of_at l _ _ fun i v hi => (hlp i v hi).1⟩
              obtain ⟨v, hv⟩ : ∃ v, l[0]? = some v := ⟨l[0]'(by omega), List.getElem?_eq_getElem (by omega)⟩
              have := (hlp 0 v hv).2.2 rfl
              obtain ⟨b, o, s⟩ := a
              simp only at this
              subst this
              rfl
          · obtain ⟨i, hi, e⟩ := List.getElem_of_mem hv
            exact (hlp i v (by rw [← e]; exact List.getElem?_eq_getElem hi)).2.1
      obtain ⟨l, hl1, hl2, hl3⟩ := hl
      refine ⟨.mk m t ks l, _, _, _, _, rfl, ?_, ?_⟩
      · simp only [IsV]
        exact ⟨trivial, trivial, hks, hl1⟩
      · simp only [bndV]
        exact ⟨hs1, hk1, hk2, hl2, hl3⟩
end
end Go.Proofs.YtcikogjbebcnmaaGreatDoor

/-
  CONTRACTS of codicillaw02.many and Heavy: how much there is of a value.
-/
set_option linter.unusedVariables false
namespace Go.Proofs.YtcikogjbebcnmaaGreatDoor
open Go.RowKit
def kM : List ByteArray → Int → Int
  | [], n => n
  | k :: t, n => if 0 ≤ n then kM t (n - (k.size : Int) / 8) else n
mutual
def manyV : JV → Int → Int → Int
  | .mk k t ks l, n, d => if n - 1 - (ks.length : Int) < 0 ∨ d ≤ 0 then -1 else manyL l (kM ks (n - 1 - (ks.length : Int) - (t.size : Int) / 8)) (d - 1)
def manyL : List JV → Int → Int → Int
  | [], n, _ => n
  | v :: t, n, d => if 0 ≤ n then manyL t (manyV v n d) d else n
end
theorem kM_neg {ks : List ByteArray} {n : Int} (h : n < 0) : kM ks n = n := by
  cases ks with
  | nil => rfl
  | cons k t => rw [kM, if_neg (by omega)]
theorem manyL_neg {l : List JV} {n d : Int} (h : n < 0) : manyL l n d = n := by
  cases l with
  | nil => simp only [manyL]
  | cons v t => simp only [manyL]; rw [if_neg (by omega)]
theorem kM_rng : ∀ (ks : List ByteArray) (n : Int), (∀ k ∈ ks, k.size ≤ maxLen) → -1152921504606846976 ≤ n → n ≤ 2000 → -1152921504606846976 ≤ kM ks n ∧ kM ks n ≤ 2000
  | [], n, _, h0, h1 => ⟨h0, h1⟩
  | k :: t, n, hk, h0, h1 => by
    rw [kM]
    split
    · have := hk k (List.mem_cons_self ..)
      unfold maxLen at this
      exact kM_rng t _ (fun x hx => hk x (List.mem_cons_of_mem _ hx)) (by omega) (by omega)
    · exact ⟨h0, h1⟩
theorem kM_drop {ks : List ByteArray} {i : Nat} {n : Int} (h : i < ks.length) (hn : 0 ≤ n) : kM (ks.drop i) n = kM (ks.drop (i + 1)) (n - ((ks.getD i ByteArray.empty).size : Int) / 8) := by
  rw [List.drop_eq_getElem_cons h, kM, if_pos hn, List.getD_eq_getElem?_getD, List.getElem?_eq_getElem h]
  rfl
theorem manyL_drop {l : List JV} {i : Nat} {x : JV} {n d : Int} (h : l[i]? = some x) (hn : 0 ≤ n) : manyL (l.drop i) n d = manyL (l.drop (i + 1)) (manyV x n d) d := by
  rw [drop_split h]
  simp only [manyL]
  rw [if_pos hn]
mutual
theorem manyV_rng : ∀ (v : JV) (n d : Int), bndV v → 0 ≤ n → n ≤ 2000 → -1152921504606846976 ≤ manyV v n d ∧ manyV v n d ≤ 2000
  | .mk k t ks l, n, d, hb, h0, h1 => by
    simp only [bndV] at hb
    simp only [manyV]
    split
    · omega
    · have h2 := hb.1
      unfold maxLen at h2
      have h3 := kM_rng ks (n - 1 - (ks.length : Int) - (t.size : Int) / 8) hb.2.1 (by omega) (by omega)
      exact manyL_rng l _ _ hb.2.2.2.2 h3.1 h3.2
theorem manyL_rng : ∀ (l : List JV) (n d : Int), bndL l → -1152921504606846976 ≤ n → n ≤ 2000 → -1152921504606846976 ≤ manyL l n d ∧ manyL l n d ≤ 2000
  | [], n, d, _, h0, h1 => by simp only [manyL]; exact ⟨h0, h1⟩
  | v :: t, n, d, hb, h0, h1 => by
    simp only [bndL] at hb
    simp only [manyL]
    split
    · rename_i hn
      have := manyV_rng v n d hb.1 hn h1
      exact manyL_rng t _ d hb.2 this.1 this.2
    · exact ⟨h0, h1⟩
end
/-! ### What is not too much is small -/
def eK (ks : List ByteArray) : Nat := (ks.map fun k => k.size / 8).sum
mutual
def e8V : JV → Nat
  | .mk _ t ks l => t.size / 8 + eK ks + e8L l
def e8L : List JV → Nat
  | [] => 0
  | v :: t => e8V v + e8L t
end
theorem kM_eq : ∀ (ks : List ByteArray) (n : Int), 0 ≤ kM ks n → kM ks n = n - (eK ks : Nat)
  | [], n, _ => by simp [kM, eK]
  | k :: t, n, h => by
    rw [kM] at h ⊢
    by_cases hn : 0 ≤ n
    · rw [if_pos hn] at h ⊢
      rw [kM_eq t _ h]
      simp only [eK, List.map_cons, List.sum_cons]
      omega
    · rw [if_neg hn] at h
      omega
theorem kM_first {ks : List ByteArray} {n : Int} (h : 0 ≤ kM ks n) : 0 ≤ n := by
  by_cases hn : 0 ≤ n
  · exact hn
  · rw [kM_neg (by omega)] at h
    exact h
mutual
theorem manyV_eq : ∀ (v : JV) (n d : Int), 0 ≤ manyV v n d → manyV v n d = n - (sizeV v + keysV v + e8V v : Nat)
  | .mk k t ks l, n, d, h => by
    simp only [manyV] at h ⊢
    by_cases hc : n - 1 - (ks.length : Int) < 0 ∨ d ≤ 0
    · rw [if_pos hc] at h
      omega
    · rw [if_neg hc] at h ⊢
      have h1 := manyL_first h
      rw [manyL_eq l _ _ h, kM_eq ks _ h1]
      simp only [sizeV, keysV, e8V]
      omega
theorem manyL_eq : ∀ (l : List JV) (n d : Int), 0 ≤ manyL l n d → manyL l n d = n - (sizeL l + keysL l + e8L l : Nat)
  | [], n, d, _ => by simp [manyL, sizeL, keysL, e8L]
  | v :: t, n, d, h => by
    simp only [manyL] at h ⊢
    by_cases hn : 0 ≤ n
    · rw [if_pos hn] at h ⊢
      have h1 := manyL_first h
      rw [manyL_eq t _ _ h, manyV_eq v _ _ h1]
      simp only [sizeL, keysL, e8L]
      omega
    · rw [if_neg hn] at h
      omega
theorem manyL_first : ∀ {l : List JV} {n d : Int}, 0 ≤ manyL l n d → 0 ≤ n
  | l, n, d, h => by
    by_cases hn : 0 ≤ n
    · exact hn
    · rw [manyL_neg (by omega)] at h
      exact h
end
theorem sumK_e (ks : List ByteArray) : sumK ks ≤ 8 * eK ks + 7 * ks.length := by
  induction ks with
  | nil => simp [sumK, eK]
  | cons k t ih =>
    have e : sumK (k :: t) = k.size + sumK t := by
      unfold sumK
      rw [List.foldl_cons, sumK_from]
      simp [sumK]
    rw [e]
    simp only [eK, List.map_cons, List.sum_cons, List.length_cons] at ih ⊢
    omega
mutual
theorem lettV_e : ∀ v : JV, lettV v ≤ 8 * e8V v + 7 * (sizeV v + keysV v)
  | .mk k t ks l => by
    have h1 := lettL_e l
    have h2 := sumK_e ks
    simp only [lettV, e8V, sizeV, keysV]
    omega
theorem lettL_e : ∀ l : List JV, lettL l ≤ 8 * e8L l + 7 * (sizeL l + keysL l)
  | [] => by simp [lettL]
  | v :: t => by
    have h1 := lettV_e v
    have h2 := lettL_e t
    simp only [lettL, e8L, sizeL, keysL]
    omega
end
def heavyB (v : JV) : Bool := decide (manyV v 2000 60 < 0)
theorem light {v : JV} (h : heavyB v = false) : sizeV v ≤ 2000 ∧ keysV v ≤ 2000 ∧ lettV v ≤ 32000 := by
  unfold heavyB at h
  have h0 : 0 ≤ manyV v 2000 60 := by simpa using h
  have h1 := manyV_eq v 2000 60 h0
  have h2 := lettV_e v
  omega
set_option maxRecDepth 10000000 in
set_option maxHeartbeats 4000000 in
theorem many_any (N : Nat) : ∀ (v : JV), sizeV v ≤ N → ∀ (c0 c1 c2 c3 : Value) (n d : Int) (w : World), IsV w 0 v c0 c1 c2 c3 → bndV v → 0 ≤ n → n ≤ 2000 → 0 ≤ d → d ≤ 60 →
    Calls Tryz.prog 38 #[.agg #[c0, c1, c2, c3], .int .i64 n, .int .i64 d] w fun e w' => e = .returned (.int .i64 (manyV v n d)) ∧ Below w.heap.size w w' := by
  induction N with
  | zero => intro v hv; obtain ⟨k, t, ks, l⟩ := v; simp only [sizeV] at hv; omega
  | succ N ih =>
    rintro ⟨k, t, ks, l⟩ hv c0 c1 c2 c3 n d w hV hB h0 h1 d0 d1
    obtain ⟨kxa, kxp, lxa, lxp, rfl, rfl, rfl, rfl, hKx, hLx⟩ := IsV.opened hV
    simp only [bndV] at hB
    obtain ⟨bt, bk, bkl, bll, bl⟩ := hB
    have hkb := kM_rng ks (n - 1 - (ks.length : Int) - (t.size : Int) / 8) bk
    unfold maxLen at bt bkl bll
    have hbel : Below w.heap.size w (w.alloc (.cells #[.int .u8 (k : Nat), .string t, .slice kxa ks.length kxp, .slice lxa l.length lxp] 26)) := (Below.refl _ _).alloc (Nat.le_refl _) _
    by_cases hc : n - 1 - (ks.length : Int) < 0 ∨ d ≤ 0
    · have E : Hid (manyV (.mk k t ks l) n d = -1) := Lib.hid (by simp only [manyV]; rw [if_pos hc])
      by_cases hc1 : n - 1 - (ks.length : Int) < 0
      · clear hc hkb
        go_enter Tryz.func38, Tryz.ntmps38
        go_wp2
        go_ret
        exact ⟨ret_int E.out.symm, hbel⟩
      · have hc2 : d ≤ 0 := by omega
        clear hc hkb
        go_enter Tryz.func38, Tryz.ntmps38
        go_wp2
        go_ret
        exact ⟨ret_int E.out.symm, hbel⟩
    · have hn1 : ¬ (n - 1 - (ks.length : Int) < 0) := fun h => hc (.inl h)
      have hd1 : ¬ (d ≤ 0) := fun h => hc (.inr h)
      have E : Hid (manyV (.mk k t ks l) n d = manyL l (kM ks (n - 1 - (ks.length : Int) - (t.size : Int) / 8)) (d - 1)) := Lib.hid (by simp only [manyV]; rw [if_neg hc])
      have hkb := hkb (by omega) (by omega)
      clear hc
      go_enter Tryz.func38, Tryz.ntmps38
      go_wp2
      have hbox := heap_alloc_new w (.cells #[.int .u8 (k : Nat), .string t, .slice kxa ks.length kxp, .slice lxa l.length lxp] 26)
      generalize w.alloc (.cells #[.int .u8 (k : Nat), .string t, .slice kxa ks.length kxp, .slice lxa l.length lxp] 26) = wA at *
      have hx2 := Lib.cell_of_heap hbox 2
      have hx3 := Lib.cell_of_heap hbox 3
      have hb1 : n - 1 - (ks.length : Int) - (t.size : Int) / 8 ≤ 2000 := by omega
      have hb2 : -1152921504606846976 ≤ n - 1 - (ks.length : Int) - (t.size : Int) / 8 := by omega
      obtain ⟨n1, hn1e⟩ : ∃ m, m = n - 1 - (ks.length : Int) - (t.size : Int) / 8 := ⟨_, rfl⟩
      rw [← hn1e] at hb1 hb2 E hkb
      rw [← hn1e]
      clear hn1e hn1
      obtain ⟨_, _, eK, hKx'⟩ := hKx
      have hkc : ∀ j, j < ks.length → ∃ b off, kxa = some ⟨b, off, none⟩ ∧ wA.cell? ⟨b, off + j, none⟩ = some (.string (ks.getD j ByteArray.empty)) := by
        intro j hj
        simp only [Value.slice.injEq] at eK
        obtain ⟨rfl, _, _⟩ := eK
        rcases hKx' with rfl | ⟨b, off, rfl, _, h⟩
        · simp at hj
        · exact ⟨b, off, rfl, (hbel.cell (cell_lt (h j hj))).trans (h j hj)⟩
      have HK := Lib.hid hkc
      have HB := Lib.hid bk
      clear hkc hKx' eK bk
      go_loop [1, 7] (fun vn vi => ∃ (m : Int) (i : Nat), vn = .int .i64 m ∧ vi = .int .i64 i ∧ i ≤ ks.length ∧ -1152921504606846976 ≤ m ∧ m ≤ 2000 ∧ kM ks n1 = kM (ks.drop i) m) (fun _ vi => ks.length - (intOf vi).toNat)
      case atStart => exact ⟨n1, 0, rfl, rfl, Nat.zero_le _, hb2, hb1, by rw [List.drop_zero]⟩
      case round =>
        obtain ⟨m, i, rfl, rfl, hi, m0, m1, hkm⟩ := hrel
        by_cases hgo : i < ks.length ∧ 0 ≤ m
        · obtain ⟨hlt, hm0⟩ := hgo
          have HKM := Lib.hid (hkm.trans (kM_drop hlt hm0))
          obtain ⟨b, off, rfl, hc⟩ := HK.out i hlt
          have hz := HB.out (ks.getD i ByteArray.empty) (by rw [List.getD_eq_getElem?_getD, List.getElem?_eq_getElem hlt]; exact List.getElem_mem hlt)
          unfold maxLen at hz
          generalize ks.getD i ByteArray.empty = x at *
          have hlt2 : (i : Int) < (ks.length : Int) := by omega
          clear hkm
          go_wp2
          go_round
          case rel => exact ⟨_, i + 1, rfl, by go_num, hlt, by omega, by omega, HKM.out⟩
          case measure => simp [intOf]; omega
        · have hend : kM ks n1 = m := by
            rw [hkm]
            by_cases hlt : i < ks.length
            · exact kM_neg (by omega)
            · rw [List.drop_eq_nil_of_le (by omega)]
              rfl
          rw [hend] at E hkb
          clear hkm hend
          have hexit : ¬ (i < ks.length) ∨ (i < ks.length ∧ m < 0) := by omega
          clear hgo
          have hlc : ∀ j x, l[j]? = some x → ∃ lb lo, lxa = some ⟨lb, lo, none⟩ ∧ ∃ q0 q1 q2 q3, w.cell? ⟨lb, lo + j * 4, none⟩ = some q0 ∧ w.cell? ⟨lb, lo + j * 4 + 1, none⟩ = some q1 ∧ w.cell? ⟨lb, lo + j * 4 + 2, none⟩ = some q2 ∧ w.cell? ⟨lb, lo + j * 4 + 3, none⟩ = some q3 ∧ IsV w 0 x q0 q1 q2 q3 := by
            intro j x hx
            obtain ⟨_, _, e, h⟩ := hLx
            simp only [Value.slice.injEq] at e
            obtain ⟨rfl, _, _⟩ := e
            rcases h with rfl | ⟨b, off, rfl, hr⟩
            · simp at hx
            · exact ⟨b, off, rfl, hr.at' l b off j x hx⟩
          have HL := Lib.hid hlc
          have HBL := Lib.hid bl
          clear hlc bl
          have FIN : ∀ wr : World, Below w.heap.size w wr → True := fun _ _ => trivial
          clear FIN
          rcases hexit with hge | ⟨hlt, hmneg⟩
          · have hge2 : ¬ ((i : Int) < (ks.length : Int)) := by omega
            go_wp2
            go_loopw [1, 8] (fun vn vi wr => ∃ (p : Int) (i : Nat), vn = .int .i64 p ∧ vi = .int .i64 i ∧ i ≤ l.length ∧ -1152921504606846976 ≤ p ∧ p ≤ 2000 ∧ manyL l m (d - 1) = manyL (l.drop i) p (d - 1) ∧ Below w.heap.size w wr ∧ wr.heap[w.heap.size]? = some (.cells #[.int .u8 (k : Nat), .string t, .slice kxa ks.length kxp, .slice lxa l.length lxp] 26 (0, 0))) (fun _ vi _ => l.length - (intOf vi).toNat)
            case atStart => exact ⟨m, 0, rfl, rfl, Nat.zero_le _, m0, m1, by rw [List.drop_zero], hbel, hbox⟩
            case round =>
              obtain ⟨p, i2, rfl, rfl, hi2, p0, p1, hml, hB2, hbx⟩ := hrel
              have y3 := Lib.cell_of_heap hbx 3
              by_cases hgo : i2 < l.length ∧ 0 ≤ p
              · obtain ⟨hlt3, hp0⟩ := hgo
                obtain ⟨x, hx⟩ : ∃ x, l[i2]? = some x := ⟨_, List.getElem?_eq_getElem hlt3⟩
                have HML := Lib.hid (hml.trans (manyL_drop hx hp0))
                obtain ⟨lb, lo, rfl, q0, q1, q2, q3, g0, g1, g2, g3, hVx⟩ := HL.out i2 x hx
                have hbx1 := bndL_at HBL.out hx
                have hsx : sizeV x ≤ N := by have := sizeV_in hx; simp only [sizeV] at hv; omega
                have e0 := cell_on hB2 g0
                have e1 := cell_on hB2 g1
                have e2 := cell_on hB2 g2
                have e3 := cell_on hB2 g3
                have hVr := IsV.stays (Below.stays hB2 0) (Nat.le_refl 0) _ _ _ _ _ hVx
                have hrg := manyV_rng x p (d - 1) hbx1 hp0 p1
                obtain ⟨k9, t9, ka9, kl9, kc9, la9, ll9, lc9, rfl, rfl, rfl, rfl⟩ := hVx.shape
                have hcall := ih x hsx _ _ _ _ p (d - 1) wr hVr hbx1 hp0 p1 (by omega) (by omega)
                have hlt4 : (i2 : Int) < (l.length : Int) := by omega
                generalize manyV x p (d - 1) = r at *
                clear hml g0 g1 g2 g3 hVx hVr hx hv
                go_wp2_with (go_at_call 38; refine hcall.mono ?_; rintro e w3 ⟨rfl, hb3⟩)
                go_roundw
                case rel => exact ⟨r, i2 + 1, rfl, by go_num, hlt3, hrg.1, hrg.2, HML.out, hB2.trans (hb3.mono hB2.size), (hb3.block _ (Array.getElem?_eq_some_iff.1 hbx).1).trans hbx⟩
                case measure => simp [intOf]; omega
              · have hend2 : manyL l m (d - 1) = p := by
                  rw [hml]
                  by_cases hlt3 : i2 < l.length
                  · exact manyL_neg (by omega)
                  · rw [List.drop_eq_nil_of_le (by omega)]
                    simp only [manyL]
                rw [hend2] at E
                clear hml hend2
                have hexit2 : ¬ (i2 < l.length) ∨ (i2 < l.length ∧ p < 0) := by omega
                clear hgo
                rcases hexit2 with hge3 | ⟨hlt3, hpneg⟩
                · have hge4 : ¬ ((i2 : Int) < (l.length : Int)) := by omega
                  go_wp2
                  go_ret
                  exact ⟨ret_int E.out.symm, hB2⟩
                · have hlt4 : (i2 : Int) < (l.length : Int) := by omega
                  go_wp2
                  go_ret
                  exact ⟨ret_int E.out.symm, hB2⟩
          · have hlt2 : (i : Int) < (ks.length : Int) := by omega
            go_wp2
            go_loopw [1, 8] (fun vn vi wr => ∃ (p : Int) (i : Nat), vn = .int .i64 p ∧ vi = .int .i64 i ∧ i ≤ l.length ∧ -1152921504606846976 ≤ p ∧ p ≤ 2000 ∧ manyL l m (d - 1) = manyL (l.drop i) p (d - 1) ∧ Below w.heap.size w wr ∧ wr.heap[w.heap.size]? = some (.cells #[.int .u8 (k : Nat), .string t, .slice kxa ks.length kxp, .slice lxa l.length lxp] 26 (0, 0))) (fun _ vi _ => l.length - (intOf vi).toNat)
            case atStart => exact ⟨m, 0, rfl, rfl, Nat.zero_le _, m0, m1, by rw [List.drop_zero], hbel, hbox⟩
            case round =>
              obtain ⟨p, i2, rfl, rfl, hi2, p0, p1, hml, hB2, hbx⟩ := hrel
              have y3 := Lib.cell_of_heap hbx 3
              by_cases hgo : i2 < l.length ∧ 0 ≤ p
              · obtain ⟨hlt3, hp0⟩ := hgo
                obtain ⟨x, hx⟩ : ∃ x, l[i2]? = some x := ⟨_, List.getElem?_eq_getElem hlt3⟩
                have HML := Lib.hid (hml.trans (manyL_drop hx hp0))
                obtain ⟨lb, lo, rfl, q0, q1, q2, q3, g0, g1, g2, g3, hVx⟩ := HL.out i2 x hx
                have hbx1 := bndL_at HBL.out hx
                have hsx : sizeV x ≤ N := by have := sizeV_in hx; simp only [sizeV] at hv; omega
                have e0 := cell_on hB2 g0
                have e1 := cell_on hB2 g1
                have e2 := cell_on hB2 g2
                have e3 := cell_on hB2 g3
                have hVr := IsV.stays (Below.stays hB2 0) (Nat.le_refl 0) _ _ _ _ _ hVx
                have hrg := manyV_rng x p (d - 1) hbx1 hp0 p1
                obtain ⟨k9, t9, ka9, kl9, kc9, la9, ll9, lc9, rfl, rfl, rfl, rfl⟩ := hVx.shape
                have hcall := ih x hsx _ _ _ _ p (d - 1) wr hVr hbx1 hp0 p1 (by omega) (by omega)
                have hlt4 : (i2 : Int) < (l.length : Int) := by omega
                generalize manyV x p (d - 1) = r at *
                clear hml g0 g1 g2 g3 hVx hVr hx hv
                go_wp2_with (go_at_call 38; refine hcall.mono ?_; rintro e w3 ⟨rfl, hb3⟩)
                go_roundw
                case rel => exact ⟨r, i2 + 1, rfl, by go_num, hlt3, hrg.1, hrg.2, HML.out, hB2.trans (hb3.mono hB2.size), (hb3.block _ (Array.getElem?_eq_some_iff.1 hbx).1).trans hbx⟩
                case measure => simp [intOf]; omega
              · have hend2 : manyL l m (d - 1) = p := by
                  rw [hml]
                  by_cases hlt3 : i2 < l.length
                  · exact manyL_neg (by omega)
                  · rw [List.drop_eq_nil_of_le (by omega)]
                    simp only [manyL]
                rw [hend2] at E
                clear hml hend2
                have hexit2 : ¬ (i2 < l.length) ∨ (i2 < l.length ∧ p < 0) := by omega
                clear hgo
                rcases hexit2 with hge3 | ⟨hlt3, hpneg⟩
                · have hge4 : ¬ ((i2 : Int) < (l.length : Int)) := by omega
                  go_wp2
                  go_ret
                  exact ⟨ret_int E.out.symm, hB2⟩
                · have hlt4 : (i2 : Int) < (l.length : Int) := by omega
                  go_wp2
                  go_ret
                  exact ⟨ret_int E.out.symm, hB2⟩
end Go.Proofs.YtcikogjbebcnmaaGreatDoor

/-
  CONTRACT of codicillaw02.spoil: what is spoilt in a value whose rows lie in some blocks leaves all other blocks alone.
-/
set_option linter.unusedVariables false
namespace Go.Proofs.YtcikogjbebcnmaaGreatDoor
open Go.RowKit

/-- of one kind -/
def kin (c c' : Value) : Prop := (∃ a b, c = .int .u8 a ∧ c' = .int .u8 b) ∨ (∃ s t, c = .string s ∧ c' = .string t) ∨ c = c'
theorem kin.refl (c : Value) : kin c c := .inr (.inr rfl)
theorem kin.trans {a b c : Value} (h : kin a b) (k : kin b c) : kin a c := by
  rcases h with ⟨x, y, rfl, rfl⟩ | ⟨x, y, rfl, rfl⟩ | rfl
  · rcases k with ⟨p, q, e, rfl⟩ | ⟨p, q, e, rfl⟩ | rfl
    · exact .inl ⟨_, _, rfl, rfl⟩
    · cases e
    · exact .inl ⟨_, _, rfl, rfl⟩
  · rcases k with ⟨p, q, e, rfl⟩ | ⟨p, q, e, rfl⟩ | rfl
    · cases e
    · exact .inr (.inl ⟨_, _, rfl, rfl⟩)
    · exact .inr (.inl ⟨_, _, rfl, rfl⟩)
  · exact k
theorem kin.slice {a : Option Addr} {n c : Nat} {x : Value} (h : kin (.slice a n c) x) : x = .slice a n c := by
  rcases h with ⟨x, y, e, _⟩ | ⟨x, y, e, _⟩ | rfl
  · cases e
  · cases e
  · rfl
theorem kin.int {n : Int} {x : Value} (h : kin (.int .u8 n) x) : ∃ m, x = .int .u8 m := by
  rcases h with ⟨x, y, _, rfl⟩ | ⟨x, y, e, _⟩ | rfl
  · exact ⟨_, rfl⟩
  · cases e
  · exact ⟨_, rfl⟩
theorem kin.str {s : ByteArray} {x : Value} (h : kin (.string s) x) : ∃ t, x = .string t := by
  rcases h with ⟨x, y, e, _⟩ | ⟨x, y, _, rfl⟩ | rfl
  · cases e
  · exact ⟨_, rfl⟩
  · exact ⟨_, rfl⟩
/-- a world in which some blocks' cells are of the kinds that they were, and all other blocks as they were -/
structure TT (lo hi : Nat) (w w' : World) : Prop where
  os : w'.os = w.os
  tape : w'.tape = w.tape
  output : w'.output = w.output
  size : w.heap.size ≤ w'.heap.size
  out : ∀ j, j < w.heap.size → (j < lo ∨ hi ≤ j) → w'.heap[j]? = w.heap[j]?
  inn : ∀ (a : Addr) (c : Value), lo ≤ a.block → a.block < hi → w.cell? a = some c → ∃ c', w'.cell? a = some c' ∧ kin c c'
  frz : ∀ a : Addr, lo ≤ a.block → a.block < hi → a.block < w.heap.size → w.frozen? a = false → w'.frozen? a = false
theorem TT.trans {lo hi : Nat} {a b c : World} (h : TT lo hi a b) (k : TT lo hi b c) : TT lo hi a c where
  os := k.os.trans h.os
  tape := k.tape.trans h.tape
  output := k.output.trans h.output
  size := Nat.le_trans h.size k.size
  out j hj ho := (k.out j (Nat.lt_of_lt_of_le hj h.size) ho).trans (h.out j hj ho)
  inn p u h1 h2 hu := by
    obtain ⟨v, hv, k1⟩ := h.inn p u h1 h2 hu
    obtain ⟨x, hx, k2⟩ := k.inn p v h1 h2 hv
    exact ⟨x, hx, k1.trans k2⟩
  frz p h1 h2 h3 hf := k.frz p h1 h2 (Nat.lt_of_lt_of_le h3 h.size) (h.frz p h1 h2 h3 hf)
theorem TT.below {lo hi : Nat} {w w' : World} (h : Below w.heap.size w w') : TT lo hi w w' where
  os := h.os
  tape := h.tape
  output := h.output
  size := h.size
  out j hj _ := h.block j hj
  inn p u _ _ hu := ⟨u, (h.cell (cell_lt hu)).trans hu, kin.refl u⟩
  frz p _ _ h3 hf := (h.frozen h3).trans hf
theorem TT.set {lo hi : Nat} {w : World} {p : Addr} {c x : Value} (h1 : lo ≤ p.block) (h2 : p.block < hi) (hc : w.cell? p = some c) (hk : kin c x) : TT lo hi w (w.setCell p x) where
  os := rfl
  tape := rfl
  output := rfl
  size := by simp [World.setCell]
  out j hj ho := Below.heap_setCell _ _ _ _ (by omega)
  inn q u _ _ hu := by
    by_cases e : p = q
    · subst e
      rw [hc] at hu
      cases hu
      exact ⟨x, World.cell?_setCell_same w p x hc, hk⟩
    · exact ⟨u, (World.cell?_setCell_other w p q x e).trans hu, kin.refl u⟩
  frz q _ _ _ hf := (World.frozen?_setCell _ _ _ _).trans hf
/-- a row of texts that may be written -/
def SKeys (w : World) (lo hi n : Nat) (c : Value) : Prop :=
  ∃ a cap, c = .slice a n cap ∧ (n = 0 ∨ ∃ b off, a = some ⟨b, off, none⟩ ∧ lo ≤ b ∧ b < hi ∧ ∀ j, j < n → (∃ s, w.cell? ⟨b, off + j, none⟩ = some (.string s)) ∧ w.frozen? ⟨b, off + j, none⟩ = false)
mutual
/-- a value of a tree's shape, whose rows may be written -/
def SV (w : World) (lo hi : Nat) : JV → Value → Value → Value → Value → Prop
  | .mk _ _ ks l, c0, c1, c2, c3 => (∃ n, c0 = .int .u8 n) ∧ (∃ s, c1 = .string s) ∧ SKeys w lo hi ks.length c2 ∧ ∃ a cap, c3 = .slice a l.length cap ∧ (l = [] ∨ ∃ b off, a = some ⟨b, off, none⟩ ∧ lo ≤ b ∧ b < hi ∧ SRow w lo hi l b off)
def SRow (w : World) (lo hi : Nat) : List JV → Nat → Nat → Prop
  | [], _, _ => True
  | v :: t, b, off => (∃ c0 c1 c2 c3, w.cell? ⟨b, off, none⟩ = some c0 ∧ w.cell? ⟨b, off + 1, none⟩ = some c1 ∧ w.cell? ⟨b, off + 2, none⟩ = some c2 ∧ w.cell? ⟨b, off + 3, none⟩ = some c3 ∧ w.frozen? ⟨b, off, none⟩ = false ∧ SV w lo hi v c0 c1 c2 c3) ∧ SRow w lo hi t b (off + 4)
end
theorem SKeys.kept {lo hi n : Nat} {w w' : World} (h : TT lo hi w w') {c : Value} (hs : SKeys w lo hi n c) : SKeys w' lo hi n c := by
  obtain ⟨a, cap, rfl, hs⟩ := hs
  refine ⟨a, cap, rfl, ?_⟩
  rcases hs with rfl | ⟨b, off, rfl, h1, h2, hs⟩
  · exact .inl rfl
  · refine .inr ⟨b, off, rfl, h1, h2, fun j hj => ?_⟩
    obtain ⟨⟨s, hc⟩, hf⟩ := hs j hj
    obtain ⟨x, hx, hk⟩ := h.inn _ _ h1 h2 hc
    obtain ⟨t, rfl⟩ := hk.str
    exact ⟨⟨t, hx⟩, h.frz _ h1 h2 (cell_lt hc) hf⟩
mutual
theorem SV.kept {lo hi : Nat} {w w' : World} (h : TT lo hi w w') : ∀ (v : JV) (c0 c1 c2 c3 d0 d1 : Value), SV w lo hi v c0 c1 c2 c3 → kin c0 d0 → kin c1 d1 → SV w' lo hi v d0 d1 c2 c3
  | .mk k t ks l, c0, c1, c2, c3, d0, d1, hs, k0, k1 => by
    simp only [SV] at hs ⊢
    obtain ⟨⟨n, rfl⟩, ⟨s, rfl⟩, hk, a, cap, e3, hr⟩ := hs
    refine ⟨k0.int, k1.str, hk.kept h, a, cap, e3, ?_⟩
    rcases hr with hr | ⟨b, off, e, h1, h2, hr⟩
    · exact .inl hr
    · exact .inr ⟨b, off, e, h1, h2, SRow.kept h l b off h1 h2 hr⟩
theorem SRow.kept {lo hi : Nat} {w w' : World} (h : TT lo hi w w') : ∀ (l : List JV) (b off : Nat), lo ≤ b → b < hi → SRow w lo hi l b off → SRow w' lo hi l b off
  | [], _, _, _, _, _ => by simp only [SRow]
  | v :: t, b, off, h1, h2, hs => by
    simp only [SRow] at hs ⊢
    obtain ⟨⟨c0, c1, c2, c3, g0, g1, g2, g3, hf, hv⟩, ht⟩ := hs
    obtain ⟨d0, e0, k0⟩ := h.inn _ _ h1 h2 g0
    obtain ⟨d1, e1, k1⟩ := h.inn _ _ h1 h2 g1
    obtain ⟨d2, e2, k2⟩ := h.inn _ _ h1 h2 g2
    obtain ⟨d3, e3, k3⟩ := h.inn _ _ h1 h2 g3
    have hv2 := SV.kept h v c0 c1 c2 c3 d0 d1 hv k0 k1
    have q2 : d2 = c2 := by
      obtain ⟨_, _, _, _⟩ := v
      simp only [SV] at hv
      obtain ⟨_, _, ⟨_, _, rfl, _⟩, _⟩ := hv
      exact k2.slice
    have q3 : d3 = c3 := by
      obtain ⟨_, _, _, _⟩ := v
      simp only [SV] at hv
      obtain ⟨_, _, _, _, _, rfl, _⟩ := hv
      exact k3.slice
    subst q2
    subst q3
    exact ⟨⟨d0, d1, d2, d3, e0, e1, e2, e3, h.frz _ h1 h2 (cell_lt g0) hf, hv2⟩, SRow.kept h t b (off + 4) h1 h2 ht⟩
end
theorem SRow.at' {w : World} {lo hi : Nat} : ∀ (l : List JV) (b off i : Nat) (v : JV), SRow w lo hi l b off → l[i]? = some v →
    ∃ c0 c1 c2 c3, w.cell? ⟨b, off + i * 4, none⟩ = some c0 ∧ w.cell? ⟨b, off + i * 4 + 1, none⟩ = some c1 ∧ w.cell? ⟨b, off + i * 4 + 2, none⟩ = some c2 ∧ w.cell? ⟨b, off + i * 4 + 3, none⟩ = some c3 ∧ w.frozen? ⟨b, off + i * 4, none⟩ = false ∧ SV w lo hi v c0 c1 c2 c3
  | [], _, _, _, _, _, hi => by simp at hi
  | x :: t, b, off, 0, v, h, hi => by
    simp only [SRow] at h
    simp only [List.getElem?_cons_zero, Option.some.injEq] at hi
    subst hi
    simpa using h.1
  | x :: t, b, off, i + 1, v, h, hi => by
    simp only [SRow] at h
    have := SRow.at' t b (off + 4) i v h.2 (by simpa using hi)
    rw [show off + (i + 1) * 4 = off + 4 + i * 4 by omega]
    exact this
end Go.Proofs.YtcikogjbebcnmaaGreatDoor

/-
  CONTRACT of codicillaw02.spoil: its walk.
-/
set_option linter.unusedVariables false
namespace Go.Proofs.YtcikogjbebcnmaaGreatDoor
open Go.RowKit
set_option maxRecDepth 10000000 in
set_option maxHeartbeats 8000000 in
theorem spoil_any (N : Nat) : ∀ (v : JV), sizeV v ≤ N → ∀ (c0 c1 c2 c3 : Value) (w : World) (lo hi : Nat), SV w lo hi v c0 c1 c2 c3 → hi ≤ w.heap.size → sizeV v ≤ 1000000000000 → keysV v ≤ 1000000000000 →
    Calls Tryz.prog 28 #[.agg #[c0, c1, c2, c3]] w fun e w' => e = .returned (.tuple #[]) ∧ TT lo hi w w' := by
  induction N with
  | zero => intro v hv; obtain ⟨k, t, ks, l⟩ := v; simp only [sizeV] at hv; omega
  | succ N ih =>
    rintro ⟨k, t, ks, l⟩ hv c0 c1 c2 c3 w lo hi hV hhi hs hk
    have hkl : ks.length ≤ 1000000000000 := by simp only [keysV] at hk; omega
    have hll : l.length ≤ 1000000000000 := by simp only [sizeV] at hs; have := len_sizeL l; omega
    simp only [SV] at hV
    obtain ⟨⟨n0, rfl⟩, ⟨s0, rfl⟩, ⟨ka, kp, rfl, hK⟩, la, lp, rfl, hL⟩ := hV
    go_enter Tryz.func28, Tryz.ntmps28
    go_wp2
    have hbx := heap_alloc_new w (.cells #[.int .u8 n0, .string s0, .slice ka ks.length kp, .slice la l.length lp] 26)
    have hT0 : TT lo hi w (w.alloc (.cells #[.int .u8 n0, .string s0, .slice ka ks.length kp, .slice la l.length lp] 26)) := TT.below ((Below.refl _ _).alloc (Nat.le_refl _) _)
    generalize w.alloc (.cells #[.int .u8 n0, .string s0, .slice ka ks.length kp, .slice la l.length lp] 26) = wA at *
    have HK : Hid (ks.length = 0 ∨ ∃ b off, ka = some ⟨b, off, none⟩ ∧ lo ≤ b ∧ b < hi ∧ ∀ j, j < ks.length → (∃ s, w.cell? ⟨b, off + j, none⟩ = some (.string s)) ∧ w.frozen? ⟨b, off + j, none⟩ = false) := Lib.hid hK
    have HL : Hid (l = [] ∨ ∃ b off, la = some ⟨b, off, none⟩ ∧ lo ≤ b ∧ b < hi ∧ SRow w lo hi l b off) := Lib.hid hL
    clear hK hL
    go_loopw [2] (fun vi wr => ∃ i : Nat, vi = .int .i64 i ∧ i ≤ l.length ∧ TT lo hi w wr ∧ wr.heap[w.heap.size]? = some (.cells #[.int .u8 n0, .string s0, .slice ka ks.length kp, .slice la l.length lp] 26 (0, 0))) (fun vi _ => l.length - (intOf vi).toNat)
    case atStart => exact ⟨0, rfl, Nat.zero_le _, hT0, hbx⟩
    case round =>
      clear hT0 hbx
      obtain ⟨i, rfl, hi2, hT, hx⟩ := hrel
      have y3 := Lib.cell_of_heap hx 3
      have hbl := (Array.getElem?_eq_some_iff.1 hx).1
      by_cases hgo : i < l.length
      · obtain ⟨x, hxi⟩ : ∃ x, l[i]? = some x := ⟨_, List.getElem?_eq_getElem hgo⟩
        obtain ⟨lb, lof, rfl, h1, h2, hR⟩ := HL.out.resolve_left (by rintro rfl; simp at hgo)
        obtain ⟨q0, q1, q2, q3, g0, g1, g2, g3, gf, hVx⟩ := SRow.at' l lb lof i x (SRow.kept hT l lb lof h1 h2 hR) hxi
        have hsx : sizeV x ≤ N := by have := sizeV_in hxi; simp only [sizeV] at hv; omega
        have hsx2 : sizeV x ≤ 1000000000000 := by have := sizeV_in hxi; simp only [sizeV] at hs; omega
        have hkx2 : keysV x ≤ 1000000000000 := by have := keysV_in hxi; simp only [keysV] at hk; omega
        have hcall := ih x hsx _ _ _ _ wr lo hi hVx (by omega) hsx2 hkx2
        have hq0 : ∃ m, q0 = .int .u8 m := by
          obtain ⟨_, _, _, _⟩ := x
          simp only [SV] at hVx
          exact hVx.1
        obtain ⟨m0, rfl⟩ := hq0
        have hgo2 : (i : Int) < (l.length : Int) := by omega
        clear hVx hxi hR hsx hsx2 hkx2
        go_wp2_with (go_at_call 28; refine hcall.mono ?_; rintro e w2 ⟨rfl, hT2⟩; obtain ⟨x0, u0, k0⟩ := hT2.inn _ _ h1 h2 g0; obtain ⟨m1, rfl⟩ := k0.int; have uf := hT2.frz _ h1 h2 (cell_lt g0) gf; have hx2 := (hT2.out _ hbl (.inr hhi)).trans hx; have y4 := Lib.cell_of_heap hx2 3)
        have hT3 := (hT.trans hT2).trans (TT.set (x := .int .u8 99) h1 h2 u0 (.inl ⟨_, _, rfl, rfl⟩))
        go_roundw
        case rel => exact ⟨i + 1, by go_num, hgo, hT3, (Below.heap_setCell _ _ _ _ (by simp only; omega)).trans hx2⟩
        case measure => simp [intOf]; omega
      · have hge : ¬ ((i : Int) < (l.length : Int)) := by omega
        go_wp2
        go_loopw [3] (fun vi wr => ∃ i : Nat, vi = .int .i64 i ∧ i ≤ ks.length ∧ TT lo hi w wr ∧ wr.heap[w.heap.size]? = some (.cells #[.int .u8 n0, .string s0, .slice ka ks.length kp, .slice la l.length lp] 26 (0, 0))) (fun vi _ => ks.length - (intOf vi).toNat)
        case atStart => exact ⟨0, rfl, Nat.zero_le _, hT, hx⟩
        case round =>
          clear hT hx y3 hbl
          obtain ⟨j, rfl, hj, hT, hx⟩ := hrel
          have y2 := Lib.cell_of_heap hx 2
          by_cases hgo3 : j < ks.length
          · obtain ⟨kb, ko, rfl, h1, h2, hR⟩ := HK.out.resolve_left (by omega)
            obtain ⟨⟨s1, u0⟩, uf⟩ := hR j hgo3
            obtain ⟨x1, u1, k1⟩ := hT.inn _ _ h1 h2 u0
            obtain ⟨s2, rfl⟩ := k1.str
            have uf1 := hT.frz _ h1 h2 (cell_lt u0) uf
            have hgo4 : (j : Int) < (ks.length : Int) := by omega
            clear hR u0 uf
            go_wp2
            have hT3 := hT.trans (TT.set (x := .string ⟨#[115, 112, 111, 105, 108, 116]⟩) h1 h2 u1 (.inr (.inl ⟨_, _, rfl, rfl⟩)))
            go_roundw
            case rel => exact ⟨j + 1, by go_num, hgo3, hT3, (Below.heap_setCell _ _ _ _ (by simp only; omega)).trans hx⟩
            case measure => simp [intOf]; omega
          · have hge2 : ¬ ((j : Int) < (ks.length : Int)) := by omega
            go_wp2
            exact bodyPost_end (results_none rfl _ _ _) rfl ⟨rfl, hT⟩
end Go.Proofs.YtcikogjbebcnmaaGreatDoor

/-
  CONTRACTS of codicilref02.Same, codicillaw02.Heavy.
-/
set_option linter.unusedVariables false
namespace Go.Proofs.YtcikogjbebcnmaaGreatDoor
open Go.RowKit
theorem heavy_any (v : JV) (c0 c1 c2 c3 : Value) (w : World) (hV : IsV w 0 v c0 c1 c2 c3) (hB : bndV v) :
    Calls Tryz.prog 14 #[.agg #[c0, c1, c2, c3]] w fun e w' => e = .returned (.bool (heavyB v)) ∧ Below w.heap.size w w' := by
  have hV2 := hV
  obtain ⟨k0, t0, ka, kl, kc, la, ll, lc, rfl, rfl, rfl, rfl⟩ := hV.shape
  have hbel : ∀ A : Obj, Below w.heap.size w (w.alloc A) := fun A => (Below.refl w.heap.size w).alloc (Nat.le_refl _) A
  have hm := fun (w2 : World) (hb : Below w.heap.size w w2) => many_any (sizeV v) v (Nat.le_refl _) _ _ _ _ 2000 60 w2 (IsV.stays (Below.stays hb 0) (Nat.le_refl 0) _ _ _ _ _ hV2) hB (by omega) (by omega) (by omega) (by omega)
  have E : Hid (heavyB v = decide (manyV v 2000 60 < 0)) := Lib.hid rfl
  generalize manyV v 2000 60 = m at *
  clear hV hV2
  go_enter Tryz.func14, Tryz.ntmps14
  go_wp2_with (go_at_call 38; refine (hm _ (hbel _)).mono ?_; rintro e w1 ⟨rfl, hb1⟩)
  go_ret
  exact ⟨ret_bool E.out.symm, (hbel _).trans (hb1.mono (by simp))⟩
theorem same_no_kind {k k' : Nat} {t t' : ByteArray} {ks ks' : List ByteArray} {l l' : List JV} (h : k ≠ k') : sameV (.mk k t ks l) (.mk k' t' ks' l') = false := by
  rw [sameV_mk]
  unfold alikeB
  rw [decide_eq_false (by omega : ¬ ((k : Int) = (k' : Int)))]
  simp
theorem same_no_text {k k' : Nat} {t t' : ByteArray} {ks ks' : List ByteArray} {l l' : List JV} (h : t ≠ t') : sameV (.mk k t ks l) (.mk k' t' ks' l') = false := by
  rw [sameV_mk]
  unfold alikeB
  rw [decide_eq_false h]
  simp
theorem same_no_keys {k k' : Nat} {t t' : ByteArray} {ks ks' : List ByteArray} {l l' : List JV} (h : ks ≠ ks') : sameV (.mk k t ks l) (.mk k' t' ks' l') = false := by
  rw [sameV_mk]
  unfold alikeB
  rw [decide_eq_false h]
  simp
theorem same_no_len {k k' : Nat} {t t' : ByteArray} {ks ks' : List ByteArray} {l l' : List JV} (h : l.length ≠ l'.length) : sameV (.mk k t ks l) (.mk k' t' ks' l') = false := by
  rw [sameV_mk]
  unfold alikeB
  rw [decide_eq_false h]
  simp
theorem same_lists {k : Nat} {t : ByteArray} {ks : List ByteArray} {l l' : List JV} (h : l.length = l'.length) : sameV (.mk k t ks l) (.mk k t ks l') = sameL l l' := by
  rw [sameV_mk]
  unfold alikeB
  simp [h]
theorem keys_ne_at {ks ks' : List ByteArray} {i : Nat} (h : i < ks.length) (h' : i < ks'.length) (hne : ks.getD i ByteArray.empty ≠ ks'.getD i ByteArray.empty) : ks ≠ ks' := by
  rintro rfl
  exact hne rfl
theorem keys_eq_at {ks ks' : List ByteArray} (hl : ks.length = ks'.length) (h : ∀ i, i < ks.length → ks.getD i ByteArray.empty = ks'.getD i ByteArray.empty) : ks = ks' := by
  refine List.ext_getElem? fun i => ?_
  rcases Nat.lt_or_ge i ks.length with hi | hi
  · have := h i hi
    rw [List.getD_eq_getElem?_getD, List.getD_eq_getElem?_getD, List.getElem?_eq_getElem hi, List.getElem?_eq_getElem (by omega : i < ks'.length)] at this
    rw [List.getElem?_eq_getElem hi, List.getElem?_eq_getElem (by omega : i < ks'.length)]
    exact congrArg some this
  · rw [List.getElem?_eq_none hi, List.getElem?_eq_none (by omega)]
theorem keys_cell {w wA : World} {ks : List ByteArray} {a : Option Addr} {n p : Nat} (h : IsKeys w 0 ks (.slice a n p)) (hb : Below w.heap.size w wA) {j : Nat} (hj : j < ks.length) : ∃ b off, a = some ⟨b, off, none⟩ ∧ wA.cell? ⟨b, off + j, none⟩ = some (.string (ks.getD j ByteArray.empty)) := by
  obtain ⟨_, _, e, h⟩ := h
  simp only [Value.slice.injEq] at e
  obtain ⟨rfl, _, _⟩ := e
  rcases h with rfl | ⟨b, off, rfl, _, h⟩
  · simp at hj
  · exact ⟨b, off, rfl, (hb.cell (cell_lt (h j hj))).trans (h j hj)⟩
theorem list_cell {w : World} {l : List JV} {a : Option Addr} {n p : Nat} (h : IsL w l (.slice a n p)) {j : Nat} {x : JV} (hx : l[j]? = some x) : ∃ lb lo, a = some ⟨lb, lo, none⟩ ∧ ∃ q0 q1 q2 q3, w.cell? ⟨lb, lo + j * 4, none⟩ = some q0 ∧ w.cell? ⟨lb, lo + j * 4 + 1, none⟩ = some q1 ∧ w.cell? ⟨lb, lo + j * 4 + 2, none⟩ = some q2 ∧ w.cell? ⟨lb, lo + j * 4 + 3, none⟩ = some q3 ∧ IsV w 0 x q0 q1 q2 q3 := by
  obtain ⟨_, _, e, h⟩ := h
  simp only [Value.slice.injEq] at e
  obtain ⟨rfl, _, _⟩ := e
  rcases h with rfl | ⟨b, off, rfl, hr⟩
  · simp at hx
  · exact ⟨b, off, rfl, hr.at' l b off j x hx⟩
set_option maxRecDepth 10000000 in
set_option maxHeartbeats 8000000 in
theorem refSame_any (N : Nat) : ∀ (a : JV), sizeV a ≤ N → ∀ (b : JV) (c0 c1 c2 c3 d0 d1 d2 d3 : Value) (w : World), IsV w 0 a c0 c1 c2 c3 → IsV w 0 b d0 d1 d2 d3 → bndV a → bndV b →
    Calls Tryz.prog 13 #[.agg #[c0, c1, c2, c3], .agg #[d0, d1, d2, d3]] w fun e w' => e = .returned (.bool (sameV a b)) ∧ Below w.heap.size w w' := by
  induction N with
  | zero => intro v hv; obtain ⟨k, t, ks, l⟩ := v; simp only [sizeV] at hv; omega
  | succ N ih =>
    rintro ⟨k, t, ks, l⟩ hv ⟨k', t', ks', l'⟩ c0 c1 c2 c3 d0 d1 d2 d3 w hV hV' hB hB'
    obtain ⟨ka, kp, la, lp, rfl, rfl, rfl, rfl, hK, hL⟩ := IsV.opened hV
    obtain ⟨ka', kp', la', lp', rfl, rfl, rfl, rfl, hK', hL'⟩ := IsV.opened hV'
    simp only [bndV] at hB hB'
    obtain ⟨_, _, bkl, bll, bl⟩ := hB
    obtain ⟨_, _, bkl', bll', bl'⟩ := hB'
    unfold maxLen at bkl bll bkl' bll'
    have hbel : Below w.heap.size w ((w.alloc (.cells #[.int .u8 (k : Nat), .string t, .slice ka ks.length kp, .slice la l.length lp] 26)).alloc (.cells #[.int .u8 (k' : Nat), .string t', .slice ka' ks'.length kp', .slice la' l'.length lp'] 26)) := ((Below.refl _ _).alloc (Nat.le_refl _) _).alloc (by simp) _
    by_cases hk : k = k'
    rotate_left
    · have E := Lib.hid (same_no_kind (t := t) (t' := t') (ks := ks) (ks' := ks') (l := l) (l' := l') hk)
      have hk1 : ((k : Int) == (k' : Int)) = false := beq_false_of_ne (by omega)
      have hk2 : ((k : Int) != (k' : Int)) = true := by simp [bne, hk1]
      go_enter Tryz.func13, Tryz.ntmps13
      go_wp2
      go_ret
      exact ⟨ret_bool E.out.symm, hbel⟩
    by_cases ht : t = t'
    rotate_left
    · have E := Lib.hid (same_no_text (k := k) (k' := k') (ks := ks) (ks' := ks') (l := l) (l' := l') ht)
      have ht1 : (t.toList == t'.toList) = false := beq_false_of_ne (fun h => ht (by rwa [tl_eq] at h))
      have ht2 : (t.toList != t'.toList) = true := by simp [bne, ht1]
      subst hk
      have hk2 : ((k : Int) != (k : Int)) = false := by simp
      clear ht
      go_enter Tryz.func13, Tryz.ntmps13
      go_wp2
      go_ret
      exact ⟨ret_bool E.out.symm, hbel⟩
    subst hk
    subst ht
    have hk2 : ((k : Int) != (k : Int)) = false := by simp
    have ht2 : (t.toList != t.toList) = false := by simp
    by_cases hkl : ks.length = ks'.length
    rotate_left
    · have E := Lib.hid (same_no_keys (k := k) (k' := k) (t := t) (t' := t) (l := l) (l' := l') (fun h => hkl (congrArg List.length h)))
      have hn1 : ((ks.length : Int) == (ks'.length : Int)) = false := beq_false_of_ne (by omega)
      have hn2 : ((ks.length : Int) != (ks'.length : Int)) = true := by simp [bne, hn1]
      clear hkl
      go_enter Tryz.func13, Tryz.ntmps13
      go_wp2
      go_ret
      exact ⟨ret_bool E.out.symm, hbel⟩
    by_cases hll : l.length = l'.length
    rotate_left
    · have E := Lib.hid (same_no_len (k := k) (k' := k) (t := t) (t' := t) (ks := ks) (ks' := ks') hll)
      have hm1 : ((l.length : Int) == (l'.length : Int)) = false := beq_false_of_ne (by omega)
      have hm2 : ((l.length : Int) != (l'.length : Int)) = true := by simp [bne, hm1]
      have hn2 : ((ks.length : Int) != (ks'.length : Int)) = false := by simp [hkl]
      clear hkl hll
      go_enter Tryz.func13, Tryz.ntmps13
      go_wp2
      go_ret
      exact ⟨ret_bool E.out.symm, hbel⟩
    have hn2 : ((ks.length : Int) != (ks'.length : Int)) = false := by simp [hkl]
    have hm2 : ((l.length : Int) != (l'.length : Int)) = false := by simp [hll]
    have HKL := Lib.hid hkl
    have HLL := Lib.hid hll
    clear hkl hll
    go_enter Tryz.func13, Tryz.ntmps13
    go_wp2
    have hbx1 := (Lib.alloc_old (w.alloc (.cells #[.int .u8 (k : Nat), .string t, .slice ka ks.length kp, .slice la l.length lp] 26)) (.cells #[.int .u8 (k : Nat), .string t, .slice ka' ks'.length kp', .slice la' l'.length lp'] 26) w.heap.size (by simp)).trans (heap_alloc_new w (.cells #[.int .u8 (k : Nat), .string t, .slice ka ks.length kp, .slice la l.length lp] 26))
    have hbx2 := heap_alloc_new (w.alloc (.cells #[.int .u8 (k : Nat), .string t, .slice ka ks.length kp, .slice la l.length lp] 26)) (.cells #[.int .u8 (k : Nat), .string t, .slice ka' ks'.length kp', .slice la' l'.length lp'] 26)
    rw [show (w.alloc (.cells #[.int .u8 (k : Nat), .string t, .slice ka ks.length kp, .slice la l.length lp] 26)).heap.size = w.heap.size + 1 by simp] at hbx2
    generalize (w.alloc (.cells #[.int .u8 (k : Nat), .string t, .slice ka ks.length kp, .slice la l.length lp] 26)).alloc (.cells #[.int .u8 (k : Nat), .string t, .slice ka' ks'.length kp', .slice la' l'.length lp'] 26) = wA at *
    have HKC := Lib.hid (fun (wr : World) (hb : Below w.heap.size w wr) (j : Nat) (hj : j < ks.length) => keys_cell hK hb hj)
    have HKC' := Lib.hid (fun (wr : World) (hb : Below w.heap.size w wr) (j : Nat) (hj : j < ks'.length) => keys_cell hK' hb hj)
    have HLC := Lib.hid (fun (j : Nat) (x : JV) (hx : l[j]? = some x) => list_cell hL hx)
    have HLC' := Lib.hid (fun (j : Nat) (x : JV) (hx : l'[j]? = some x) => list_cell hL' hx)
    have HBL := Lib.hid bl
    have HBL' := Lib.hid bl'
    clear hV hV' hK hK' hL hL' bl bl' ht2 hk2 hn2 hm2
    go_loopw [5] (fun vi wr => ∃ i : Nat, vi = .int .i64 i ∧ i ≤ ks.length ∧ (∀ j, j < i → ks.getD j ByteArray.empty = ks'.getD j ByteArray.empty) ∧ Below w.heap.size w wr ∧ wr.heap[w.heap.size]? = some (.cells #[.int .u8 (k : Nat), .string t, .slice ka ks.length kp, .slice la l.length lp] 26 (0, 0)) ∧ wr.heap[w.heap.size + 1]? = some (.cells #[.int .u8 (k : Nat), .string t, .slice ka' ks'.length kp', .slice la' l'.length lp'] 26 (0, 0))) (fun vi _ => ks.length - (intOf vi).toNat)
    case atStart => exact ⟨0, rfl, Nat.zero_le _, fun j hj => absurd hj (Nat.not_lt_zero j), hbel, hbx1, hbx2⟩
    case round =>
      obtain ⟨i, rfl, hi, hsame, hB2, hx1, hx2⟩ := hrel
      have HS := Lib.hid hsame
      clear hsame hbel hbx1 hbx2
      have y2 := Lib.cell_of_heap hx1 2
      have y3 := Lib.cell_of_heap hx1 3
      have z2 := Lib.cell_of_heap hx2 2
      have z3 := Lib.cell_of_heap hx2 3
      by_cases hgo : i < ks.length
      · obtain ⟨kb, ko, rfl, ck⟩ := HKC.out _ hB2 i hgo
        obtain ⟨kb', ko', rfl, ck'⟩ := HKC'.out _ hB2 i (by have := HKL.out; omega)
        have hgo2 : (i : Int) < (ks.length : Int) := by omega
        have hgo3 : (i : Int) < (ks'.length : Int) := by have := HKL.out; omega
        by_cases hxy : ks.getD i ByteArray.empty = ks'.getD i ByteArray.empty
        · have HX : Hid (∀ j, j < i + 1 → ks.getD j ByteArray.empty = ks'.getD j ByteArray.empty) := Lib.hid (fun j hj => by
            rcases Nat.lt_or_ge j i with h | h
            · exact HS.out j h
            · have : j = i := by omega
              subst this
              exact hxy)
          rw [← hxy] at ck'
          clear hxy
          generalize ks.getD i ByteArray.empty = x at *
          have hb3 : (x.toList != x.toList) = false := by simp
          go_wp2
          go_quiet (fail)
          go_wp2
          go_roundw
          case rel => exact ⟨i + 1, by go_num, hgo, HX.out, below_drewN hB2 _, hx1, hx2⟩
          case measure => simp [intOf]; omega
        · have E := Lib.hid (same_no_keys (k := k) (k' := k) (t := t) (t' := t) (l := l) (l' := l') (keys_ne_at hgo (by have := HKL.out; omega) hxy))
          generalize ks.getD i ByteArray.empty = x at *
          generalize ks'.getD i ByteArray.empty = y at *
          have hb2 : (x.toList == y.toList) = false := beq_false_of_ne (fun h => hxy (by rwa [tl_eq] at h))
          have hb3 : (x.toList != y.toList) = true := by simp [bne, hb2]
          clear hxy
          go_wp2
          go_quiet (fail)
          go_wp2
          go_ret
          exact ⟨ret_bool E.out.symm, below_drewN hB2 _⟩
      · have hge2 : ¬ ((i : Int) < (ks.length : Int)) := by omega
        go_wp2
        have hkeys : ks = ks' := keys_eq_at HKL.out (fun j hj => HS.out j (by omega))
        have E := Lib.hid (by rw [← hkeys]; exact same_lists HLL.out : sameV (.mk k t ks l) (.mk k t ks' l') = sameL l l')
        clear hkeys
        go_loopw [6] (fun vi wr => ∃ i : Nat, vi = .int .i64 i ∧ i ≤ l.length ∧ sameL l l' = sameL (l.drop i) (l'.drop i) ∧ Below w.heap.size w wr ∧ wr.heap[w.heap.size]? = some (.cells #[.int .u8 (k : Nat), .string t, .slice ka ks.length kp, .slice la l.length lp] 26 (0, 0)) ∧ wr.heap[w.heap.size + 1]? = some (.cells #[.int .u8 (k : Nat), .string t, .slice ka' ks'.length kp', .slice la' l'.length lp'] 26 (0, 0))) (fun vi _ => l.length - (intOf vi).toNat)
        case atStart => exact ⟨0, rfl, Nat.zero_le _, by rw [List.drop_zero, List.drop_zero], hB2, hx1, hx2⟩
        case round =>
          clear y2 y3 z2 z3 hB2 hx1 hx2
          obtain ⟨i2, rfl, hi2, hml, hB2, hx1, hx2⟩ := hrel
          have y3 := Lib.cell_of_heap hx1 3
          have z3 := Lib.cell_of_heap hx2 3
          by_cases hgo : i2 < l.length
          · obtain ⟨x, hx⟩ : ∃ x, l[i2]? = some x := ⟨_, List.getElem?_eq_getElem hgo⟩
            obtain ⟨y, hy⟩ : ∃ y, l'[i2]? = some y := ⟨_, List.getElem?_eq_getElem (by have := HLL.out; omega)⟩
            obtain ⟨lb, lo, rfl, q0, q1, q2, q3, g0, g1, g2, g3, hVx⟩ := HLC.out i2 x hx
            obtain ⟨lb', lo', rfl, p0, p1, p2, p3, f0, f1, f2, f3, hVy⟩ := HLC'.out i2 y hy
            have hbx := bndL_at HBL.out hx
            have hby := bndL_at HBL'.out hy
            have hsx : sizeV x ≤ N := by have := sizeV_in hx; simp only [sizeV] at hv; omega
            have e0 := cell_on hB2 g0
            have e1 := cell_on hB2 g1
            have e2 := cell_on hB2 g2
            have e3 := cell_on hB2 g3
            have d0 := cell_on hB2 f0
            have d1 := cell_on hB2 f1
            have d2 := cell_on hB2 f2
            have d3 := cell_on hB2 f3
            have hgo2 : (i2 : Int) < (l.length : Int) := by omega
            have hgo3 : (i2 : Int) < (l'.length : Int) := by have := HLL.out; omega
            have hml2 := Lib.hid (hml.trans (sameL_split hx hy))
            have hb0 : Below w.heap.size w wr.drew := Below.drew hB2
            have hcall := ih x hsx y _ _ _ _ _ _ _ _ wr.drew (IsV.stays (Below.stays hb0 0) (Nat.le_refl 0) _ _ _ _ _ hVx) (IsV.stays (Below.stays hb0 0) (Nat.le_refl 0) _ _ _ _ _ hVy) hbx hby
            generalize sameV x y = r at *
            clear hml g0 g1 g2 g3 f0 f1 f2 f3 hVx hVy hx hy hv
            go_wp2
            go_region_with (go_at_call 13; refine hcall.mono ?_; rintro e w3 ⟨rfl, hb3⟩)
            all_goals have hb4 := hb0.trans (hb3.mono hb0.size)
            all_goals have hx4 := (hb3.block _ (Array.getElem?_eq_some_iff.1 hx1).1).trans hx1
            all_goals have hx5 := (hb3.block _ (Array.getElem?_eq_some_iff.1 hx2).1).trans hx2
            all_goals cases r
            all_goals simp only [Bool.false_and, Bool.true_and] at hml2
            all_goals first
              | (have E2 := Lib.hid (E.out.trans hml2.out)
                 go_wp2
                 go_ret
                 exact ⟨ret_bool E2.out.symm, hb4⟩)
              | (go_wp2
                 go_roundw
                 case rel => exact ⟨i2 + 1, by go_num, hgo, hml2.out, hb4, hx4, hx5⟩
                 case measure => simp [intOf]; omega)
          · have hge3 : ¬ ((i2 : Int) < (l.length : Int)) := by omega
            have E2 := Lib.hid (by rw [E.out, hml, List.drop_eq_nil_of_le (by omega), List.drop_eq_nil_of_le (by have := HLL.out; omega)]; simp [sameL] : sameV (.mk k t ks l) (.mk k t ks' l') = true)
            go_wp2
            go_ret
            exact ⟨ret_bool E2.out.symm, hB2⟩
end Go.Proofs.YtcikogjbebcnmaaGreatDoor

/-
  THE MATHEMATICS OF codicilref02.Copy: what holds between two parts of a list that is copied.
-/
set_option linter.unusedVariables false
namespace Go.Proofs.YtcikogjbebcnmaaGreatDoor
open Go.RowKit

/-- hidden: the result's block, the new value's, and the row of its list -/
def hidR (rv h3 : Nat) (lv : Value) : Nat → Bool := fun b => b == rv || b == h3 || some b == lv.ownBlock
structure RC (w0 : World) (O1 : Obj) (h3 : Nat) (k : Nat) (t : ByteArray) (ks : List ByteArray) (c2 : Value) (wr : World) (l : List JV) (lv : Value) (xs : List Value) : Prop where
  bx : wr.heap[w0.heap.size]? = some O1
  res : RB wr (w0.heap.size + 1) (.int .u8 0) (.string ⟨#[]⟩) (.slice none 0 0) (.slice none 0 0)
  new : RB wr h3 (.int .u8 (k : Nat)) (.string t) c2 lv
  own : wr.ownsRow (w0.heap.size + 2) 26 4 lv l.length xs
  far : lv.ownBlock ≠ some h3
  lo : w0.heap.size + 2 ≤ h3
  keys : IsKeys (hideW wr (hidR (w0.heap.size + 1) h3 lv)) w0.heap.size ks c2
  items : ItemsOK (hideW wr (hidR (w0.heap.size + 1) h3 lv)) w0.heap.size l xs
  bel : Below w0.heap.size w0 wr

theorem RC.next {w0 : World} {O1 : Obj} {h3 k : Nat} {t : ByteArray} {ks : List ByteArray} {c2 : Value} {wr : World} {l : List JV} {lp : Option Addr} {lc : Nat} {xs : List Value}
    (h : RC w0 O1 h3 k t ks c2 wr l (.slice lp l.length lc) xs) {w2 w3 w4 : World} {x : JV} {c0 c1 c2' c3 : Value} {g cap : Nat}
    (hb : Below wr.heap.size wr w2) (hV : IsV w2 wr.heap.size x c0 c1 c2' c3) (h23 : Below w2.heap.size w2 w3)
    (hgrow : w3.grownBy w4 (Value.slice lp l.length lc).ownBlock) (hat : (Value.slice lp l.length lc).ownBlock = some g ∨ g = w3.heap.size)
    (hown : w4.ownsRow (w0.heap.size + 2) 26 4 (.slice (some ⟨g, 0, none⟩) (l.length + 1) cap) (l.length + 1) (xs ++ [c0, c1, c2', c3])) :
    RC w0 O1 h3 k t ks c2 (w4.setCell ⟨h3, 3, none⟩ (.slice (some ⟨g, 0, none⟩) (l.length + 1) cap)) (l ++ [x]) (.slice (some ⟨g, 0, none⟩) (l.length + 1) cap) (xs ++ [c0, c1, c2', c3]) := by
  have hlo := h.lo
  have hnl := h.new.lt
  have hrl := h.res.lt
  have hgl := hown.lt g rfl
  have hs1 := hb.size
  have hs2 := h23.size
  have hs3 := hgrow.size
  have hs0 := h.bel.size
  have hown0 : ∀ j, (Value.slice lp l.length lc).ownBlock = some j → w0.heap.size + 2 ≤ j ∧ j < wr.heap.size := h.own.lt
  have hgh : g ≠ h3 := by
    rcases hat with e | e
    · intro e2; subst e2; exact h.far e
    · omega
  have hkey : ∀ j, j < wr.heap.size → j ≠ h3 → some j ≠ (Value.slice lp l.length lc).ownBlock → (w4.setCell ⟨h3, 3, none⟩ (.slice (some ⟨g, 0, none⟩) (l.length + 1) cap)).heap[j]? = wr.heap[j]? := by
    intro j hj h1 h2
    rw [Below.heap_setCell _ _ _ _ h1, hgrow.block j (by omega) h2, h23.block j (by omega), hb.block j hj]
  have hst : Stays 0 (hideW wr (hidR (w0.heap.size + 1) h3 (.slice lp l.length lc))) (hideW (w4.setCell ⟨h3, 3, none⟩ (.slice (some ⟨g, 0, none⟩) (l.length + 1) cap)) (hidR (w0.heap.size + 1) h3 (.slice (some ⟨g, 0, none⟩) (l.length + 1) cap))) := by
    intro y c _ hy
    rw [hide_cell] at hy
    split at hy
    · cases hy
    · rename_i hn
      have hyl := cell_lt hy
      simp only [hidR, Bool.or_eq_true, beq_iff_eq, not_or] at hn
      have hyg : y.block ≠ g := by
        rcases hat with e | e
        · intro e2; rw [← e2] at e; exact hn.2 e.symm
        · omega
      rw [hide_cell, if_neg (by simp only [hidR, Bool.or_eq_true, beq_iff_eq, not_or]; exact ⟨hn.1, fun e => hyg (Option.some.inj e)⟩), World.cell?_of_block (hkey y.block hyl hn.1.2 hn.2)]
      exact hy
  have hlen : (l ++ [x]).length = l.length + 1 := by simp
  refine ⟨?_, ?_, ?_, ?_, ?_, hlo, ?_, ?_, ?_⟩
  · exact (hkey _ (by omega) (by omega) (fun e => by have := (hown0 _ e.symm).1; omega)).trans h.bx
  · exact (hkey _ hrl (by omega) (fun e => by have := (hown0 _ e.symm).1; omega)).trans h.res
  · refine RB.set3 (c3 := .slice lp l.length lc) ?_ _
    exact ((hgrow.block h3 (by omega) (fun e => h.far e.symm)).trans ((h23.block h3 (by omega)).trans (hb.block h3 hnl))).trans h.new
  · rw [hlen]; exact own_eq hown (Below.heap_setCell _ _ _ _ hgh)
  · exact fun e => hgh (Option.some.inj e)
  · exact h.keys.stays (fun y c _ hy => hst y c (Nat.zero_le _) hy) (Nat.le_refl _)
  · refine ItemsOK.snoc (h.items.stays fun y c _ hy => hst y c (Nat.zero_le _) hy) (hV.stays ?_ (by omega))
    intro y c hl hy
    have hyl := cell_lt hy
    have hyg : y.block ≠ g := by
      rcases hat with e | e
      · intro e2; have := (hown0 g e).2; omega
      · omega
    rw [hide_cell, if_neg (by simp only [hidR, Bool.or_eq_true, beq_iff_eq, not_or]; exact ⟨⟨by omega, by omega⟩, fun e => hyg (Option.some.inj e)⟩)]
    rw [World.cell?_of_block (w := w2)]
    · exact hy
    · rw [Below.heap_setCell _ _ _ _ (by simp only; omega), hgrow.block _ (by omega) (fun e => by have := (hown0 _ e.symm).2; omega), h23.block _ hyl]
  · have k0 := (h.bel.trans (hb.mono hs0)).trans (h23.mono (by omega))
    exact (k0.grown hgrow (by omega) (fun j e => by have := (hown0 j e).1; omega)).setCell (by simp only; omega) _
theorem RC.done {w0 : World} {O1 : Obj} {h3 k : Nat} {t : ByteArray} {ks : List ByteArray} {c2 : Value} {wr : World} {l : List JV} {lv : Value} {xs : List Value} (h : RC w0 O1 h3 k t ks c2 wr l lv xs)
    {w' : World} (hw : ∀ j, j ≠ w0.heap.size + 1 → w'.heap[j]? = wr.heap[j]?) : IsV w' w0.heap.size (.mk k t ks l) (.int .u8 (k : Nat)) (.string t) c2 lv := by
  have hst : Stays 0 (hideW wr (hidR (w0.heap.size + 1) h3 lv)) w' := by
    intro y c _ hy
    rw [hide_cell] at hy
    split at hy
    · cases hy
    · rename_i hn
      simp only [hidR, Bool.or_eq_true, beq_iff_eq, not_or] at hn
      rw [World.cell?_of_block (hw y.block hn.1.1)]
      exact hy
  simp only [IsV]
  refine ⟨trivial, trivial, h.keys.stays (fun y c _ hy => hst y c (Nat.zero_le _) hy) (Nat.le_refl _), ?_⟩
  rcases h.own.2 with ⟨rfl, hn⟩ | ⟨g, cap, cur, rfl, hg, hh, _⟩
  · have : l = [] := List.length_eq_zero_iff.1 hn
    subst this
    exact ⟨none, 0, rfl, .inl rfl⟩
  · refine ⟨_, _, rfl, .inr ⟨g, 0, rfl, by omega, ?_⟩⟩
    refine ItemsOK.row l xs 0 (h.items.stays fun y c _ hy => hst y c (Nat.zero_le _) hy) fun j u hu => ?_
    rw [Nat.zero_add, World.cell?_of_block (hw g (by have := hg; omega))]
    exact own_cellAt h.own j u hu
theorem RB.set4 {w : World} {rb : Nat} {c0 c1 c2 c3 : Value} (h : RB w rb c0 c1 c2 c3) (x0 x1 x2 x3 : Value) :
    RB ((((w.setCell ⟨rb, 0, none⟩ x0).setCell ⟨rb, 1, none⟩ x1).setCell ⟨rb, 2, none⟩ x2).setCell ⟨rb, 3, none⟩ x3) rb x0 x1 x2 x3 := by
  unfold RB at *
  unfold World.setCell
  simp [Array.getElem?_modify, h]
theorem RC.start {w0 : World} {O1 : Obj} {h3 k : Nat} {t : ByteArray} {ks : List ByteArray} {c2 : Value} {wr w1 : World} {Hd : Nat → Bool}
    (bx : wr.heap[w0.heap.size]? = some O1) (res : RB wr (w0.heap.size + 1) (.int .u8 0) (.string ⟨#[]⟩) (.slice none 0 0) (.slice none 0 0)) (new : RB wr h3 (.int .u8 (k : Nat)) (.string t) c2 (.slice none 0 0))
    (lo : w0.heap.size + 2 ≤ h3) (keys : IsKeys (hideW w1 Hd) (w0.heap.size + 2) ks c2) (hd : Hd (w0.heap.size + 1) = true) (hst : ∀ j, j < w1.heap.size → Hd j = false → j ≠ h3 ∧ wr.heap[j]? = w1.heap[j]?) (bel : Below w0.heap.size w0 wr) :
    RC w0 O1 h3 k t ks c2 wr [] (.slice none 0 0) [] := by
  refine ⟨bx, res, new, ⟨rfl, .inl ⟨rfl, rfl⟩⟩, by simp [Value.ownBlock], lo, keys.stays ?_ (by omega), ItemsOK.nil _ _, bel⟩
  intro y c hl hy
  rw [hide_cell] at hy
  split at hy
  · cases hy
  · rename_i hn
    have hn' : Hd y.block = false := by simpa using hn
    have hj := hst y.block (cell_lt hy) hn'
    rw [hide_cell, if_neg (by simp only [hidR, Bool.or_eq_true, beq_iff_eq, not_or]; exact ⟨⟨by omega, hj.1⟩, by simp [Value.ownBlock]⟩), World.cell?_of_block hj.2]
    exact hy
/-- append([]string{}, keys...), as one step of a region that draws its order -/
theorem step_keys {ops : Array Oper} {o : Oper} {a : Act} {w : World} {K : Act → World → Prop} {Q : Exit → Act → World → Prop} {E : Prop}
    (hg : o.guard = none) (s x : Operand) (hop : o.op = Op.call { callee := Callee.builtin Builtin.append, args := #[s, x], argTypes := #[23, 23] })
    (b4 lo : Nat) (hs : a.eval s = .slice (some ⟨b4, 0, none⟩) 0 0) (hB : w.heap[b4]? = some (.cells #[] 9 (0, 0))) (ka : Option Addr) (ks : List ByteArray) (kp : Nat) (hx : a.eval x = .slice ka ks.length kp)
    (hk : IsKeys w 0 ks (.slice ka ks.length kp)) (hlo : lo ≤ b4) (hn : ks.length ≤ 1000000000000) (Hd : Nat → Bool) (hd1 : Hd b4 = false) (hd2 : Hd w.heap.size = false)
    (hK : ∀ a2 cap w', IsKeys (hideW w' Hd) lo ks (.slice a2 ks.length cap) → w.grownBy w' (some b4) → K (a.put o.dst (.slice a2 ks.length cap)) w') :
    if Region.wanted o (yielded ops a.tmps) = true then Oper.wp Tryz.prog o a w K Q else E := by
  obtain ⟨i0, hi0, hz0, hz1, hz2⟩ := info_parts infoString
  have hb4 : b4 < w.heap.size := (Array.getElem?_eq_some_iff.1 hB).1
  rcases Nat.eq_zero_or_pos ks.length with h0 | h0
  · have hw : Region.wanted o (yielded ops a.tmps) = true := by simp [Region.wanted, hg]
    rw [if_pos hw]
    have hsrc : Src Tryz.prog i0.size 23 (.slice ka ks.length kp) 0 [] w := by
      rw [h0]
      cases ka with
      | none => exact Src.ofNil w Tryz.underlying23 kp
      | some ad => exact Src.ofSlice w Tryz.underlying23 ad 0 kp [] (by simp) (by simp) (by simp)
    have hrun := fun ty => run_append_nothing (P := Tryz.prog) w 23 23 ty 9 i0 Tryz.underlying23 hi0 (some ⟨b4, 0, none⟩) 0 0 (Nat.le_refl _) (.slice ka ks.length kp) hsrc
    have e : ks = [] := List.length_eq_zero_iff.1 h0
    have hK' := hK (some ⟨b4, 0, none⟩) 0 w ⟨_, _, rfl, .inl e⟩ (World.grownBy.refl w _)
    rw [h0] at hK'
    unfold Oper.wp
    simp [execOp, hop, resolve, invoke, builtin, hs, hx, hrun, Result.andThen]
    exact hK'
  · obtain ⟨kb, ko, rfl, hkc⟩ : ∃ b off, ka = some ⟨b, off, none⟩ ∧ ∀ j, j < ks.length → w.cell? ⟨b, off + j, none⟩ = some (.string (ks.getD j ByteArray.empty)) := by
      obtain ⟨_, _, e, h⟩ := hk
      simp only [Value.slice.injEq] at e
      obtain ⟨rfl, _, _⟩ := e
      rcases h with rfl | ⟨b, off, rfl, _, h⟩
      · simp at h0
      · exact ⟨b, off, rfl, h⟩
    refine step_append_lies w hg s x _ hop lo 9 i0 _ 1 16 Tryz.underlying23 hi0 hz0 hz1 hz2 rfl (by omega) (.slice (some ⟨b4, 0, none⟩) 0 0) 0 [] hs ⟨rfl, .inr ⟨b4, 0, #[], rfl, hlo, hB, Nat.le_refl _, Nat.zero_le _, rfl, rfl⟩⟩
      ⟨kb, ko, none⟩ ks.length kp (ks.map .string) hx (by simp) ?_ ?_ h0 (by unfold maxLen; omega) (by omega) (by omega) w.heap.size rfl ?_
    · intro j u hj
      have hadd : (⟨kb, ko, none⟩ : Addr).add j = ⟨kb, ko + j, none⟩ := by unfold Addr.add; split <;> simp_all
      rw [hadd]
      rw [List.getElem?_map] at hj
      have hjl : j < ks.length := by
        rcases Nat.lt_or_ge j ks.length with h | h
        · exact h
        · rw [List.getElem?_eq_none h] at hj; cases hj
      rw [hkc j hjl, ← hj, List.getElem?_eq_getElem hjl, List.getD_eq_getElem?_getD, List.getElem?_eq_getElem hjl]
      rfl
    · intro u hu
      obtain ⟨y, _, rfl⟩ := List.mem_map.1 hu
      rfl
    · intro g cap w' hown hgrow hat hlt
      rw [Nat.zero_add] at hown ⊢
      refine hK _ _ _ ⟨_, _, rfl, .inr ⟨g, 0, rfl, (hown.lt g rfl).1, fun j hj => ?_⟩⟩ hgrow
      have hgd : Hd g = false := by
        rcases hat with e | e
        · cases e; exact hd1
        · rw [e]; exact hd2
      rw [hide_cell, if_neg (by simp [hgd]), Nat.zero_add]
      exact own_cellAt hown j _ (by rw [List.nil_append, List.getElem?_map, List.getElem?_eq_getElem hj]; rw [List.getD_eq_getElem?_getD, List.getElem?_eq_getElem hj]; rfl)
end Go.Proofs.YtcikogjbebcnmaaGreatDoor

/-
  CONTRACTS of codicilref02.Copy.
-/
set_option linter.unusedVariables false
set_option linter.unusedSimpArgs false
namespace Go.Proofs.YtcikogjbebcnmaaGreatDoor
open Go.RowKit
theorem take_snoc {l : List JV} {i : Nat} {x : JV} (h : l[i]? = some x) : l.take (i + 1) = l.take i ++ [x] := by
  obtain ⟨h1, rfl⟩ := List.getElem?_eq_some_iff.1 h
  rw [List.take_add_one, List.getElem?_eq_getElem h1]
  rfl
set_option maxRecDepth 10000000 in
set_option maxHeartbeats 8000000 in
theorem refCopy_any (N : Nat) : ∀ (a : JV), sizeV a ≤ N → ∀ (c0 c1 c2 c3 : Value) (w : World), IsV w 0 a c0 c1 c2 c3 → sizeV a ≤ 1000000000000 → keysV a ≤ 1000000000000 →
    Calls Tryz.prog 27 #[.agg #[c0, c1, c2, c3]] w fun e w' => ∃ d0 d1 d2 d3, e = .returned (.agg #[d0, d1, d2, d3]) ∧ IsV w' w.heap.size a d0 d1 d2 d3 ∧ Below w.heap.size w w' := by
  induction N with
  | zero => intro v hv; obtain ⟨k, t, ks, l⟩ := v; simp only [sizeV] at hv; omega
  | succ N ih =>
    rintro ⟨k, t, ks, l⟩ hv c0 c1 c2 c3 w hV hs hk
    obtain ⟨ka, kp, la, lp, rfl, rfl, rfl, rfl, hK, hL⟩ := IsV.opened hV
    go_enter Tryz.func27, Tryz.ntmps27
    go_wp2
    have hkl : ks.length ≤ 1000000000000 := by simp only [keysV] at hk; omega
    have hbx1 := (Lib.alloc_old (w.alloc (.cells #[.int .u8 (k : Nat), .string t, .slice ka ks.length kp, .slice la l.length lp] 26)) (.cells #[.int .u8 0, .string ⟨#[]⟩, .slice none 0 0, .slice none 0 0] 26) w.heap.size (by simp)).trans (heap_alloc_new w (.cells #[.int .u8 (k : Nat), .string t, .slice ka ks.length kp, .slice la l.length lp] 26))
    have hbx2 := heap_alloc_new (w.alloc (.cells #[.int .u8 (k : Nat), .string t, .slice ka ks.length kp, .slice la l.length lp] 26)) (.cells #[.int .u8 0, .string ⟨#[]⟩, .slice none 0 0, .slice none 0 0] 26)
    rw [show (w.alloc (.cells #[.int .u8 (k : Nat), .string t, .slice ka ks.length kp, .slice la l.length lp] 26)).heap.size = w.heap.size + 1 by simp] at hbx2
    have hbel : Below w.heap.size w ((w.alloc (.cells #[.int .u8 (k : Nat), .string t, .slice ka ks.length kp, .slice la l.length lp] 26)).alloc (.cells #[.int .u8 0, .string ⟨#[]⟩, .slice none 0 0, .slice none 0 0] 26)) := ((Below.refl _ _).alloc (Nat.le_refl _) _).alloc (by simp) _
    have hszA : ((w.alloc (.cells #[.int .u8 (k : Nat), .string t, .slice ka ks.length kp, .slice la l.length lp] 26)).alloc (.cells #[.int .u8 0, .string ⟨#[]⟩, .slice none 0 0, .slice none 0 0] 26)).heap.size = w.heap.size + 2 := by simp
    generalize (w.alloc (.cells #[.int .u8 (k : Nat), .string t, .slice ka ks.length kp, .slice la l.length lp] 26)).alloc (.cells #[.int .u8 0, .string ⟨#[]⟩, .slice none 0 0, .slice none 0 0] 26) = wA at *
    have y0 := Lib.cell_of_heap hbx1 0
    have y1 := Lib.cell_of_heap hbx1 1
    have y2 := Lib.cell_of_heap hbx1 2
    have hS0 : Below wA.heap.size wA wA.drew := (Below.refl _ _).drew
    go_cut [3] (fun s3 wx => ∃ h3 a2 cap, s3 = .pointer (some ⟨h3, 0, none⟩) ∧ RC w (.cells #[.int .u8 (k : Nat), .string t, .slice ka ks.length kp, .slice la l.length lp] 26) h3 k t ks (.slice a2 ks.length cap) wx [] (.slice none 0 0) [])
    case first =>
      have hbel2 : Below w.heap.size w wA := hbel
      refine wp_region_any (by kernel_rfl) ?_
      change wpAny _ _ _ _ 11 _ _ (World.drew _)
      refine HT.take_at (i := 0) (v := ?_) rfl rfl (by kernel_rfl) (by kernel_rfl) (by kernel_rfl) (fun _ _ _ h => h) (Or.inl ⟨by rfl, ?_⟩) ?_
      rotate_left
      · intro wq
        go_simp
        try with_reducible rfl
      simp only [Act.put, List.setIfInBounds_toArray, List.set_cons_zero, List.set_cons_succ]
      refine HT.take_at (i := 2) (v := ?_) rfl rfl (by kernel_rfl) (by kernel_rfl) (by kernel_rfl) (fun _ _ _ h => h) (Or.inl ⟨by rfl, ?_⟩) ?_
      rotate_left
      · intro wq
        go_simp
        try with_reducible rfl
      simp only [Act.put, List.setIfInBounds_toArray, List.set_cons_zero, List.set_cons_succ]
      refine HT.take_at (i := 5) (v := ?_) rfl rfl (by kernel_rfl) (by kernel_rfl) (by kernel_rfl) (fun _ _ _ h => h) (Or.inl ⟨by rfl, ?_⟩) ?_
      rotate_left
      · intro wq
        go_simp
        try with_reducible rfl
      simp only [Act.put, List.setIfInBounds_toArray, List.set_cons_zero, List.set_cons_succ]
      refine HT.wpAny_of_G (k := 10) (S := fun w' => Below wA.heap.size wA w') _ _ _ _ ?_
      refine HT.takeG_at (i := 1) (v := ?_) rfl rfl (by kernel_rfl) (by kernel_rfl) (by kernel_rfl) (by kernel_rfl) (by kernel_rfl) (by kernel_rfl) (fun _ _ _ h => h) hS0 (Or.inl ⟨by rfl, ?_⟩) ?_
      rotate_left
      · intro wq hwq
        have z0 := cell_on hwq y0
        go_simp
        try with_reducible rfl
      simp only [Act.put, List.setIfInBounds_toArray, List.set_cons_zero, List.set_cons_succ]
      refine HT.takeG_at (i := 3) (v := ?_) rfl rfl (by kernel_rfl) (by kernel_rfl) (by kernel_rfl) (by kernel_rfl) (by kernel_rfl) (by kernel_rfl) (fun _ _ _ h => h) hS0 (Or.inl ⟨by rfl, ?_⟩) ?_
      rotate_left
      · intro wq hwq
        have z0 := cell_on hwq y1
        go_simp
        try with_reducible rfl
      simp only [Act.put, List.setIfInBounds_toArray, List.set_cons_zero, List.set_cons_succ]
      refine HT.takeG_at (i := 6) (v := ?_) rfl rfl (by kernel_rfl) (by kernel_rfl) (by kernel_rfl) (by kernel_rfl) (by kernel_rfl) (by kernel_rfl) (fun _ _ _ h => h) hS0 (Or.inl ⟨by rfl, ?_⟩) ?_
      rotate_left
      · intro wq hwq
        have z0 := cell_on hwq y2
        go_simp
        try with_reducible rfl
      simp only [Act.put, List.setIfInBounds_toArray, List.set_cons_zero, List.set_cons_succ]
      refine HT.wpAnyG_two (i := 4) (j := 9) (by kernel_rfl) rfl rfl (fun KK hKK => ?_) (fun KK hKK => ?_)
      · go_simp
        have hS := ((Below.refl wA.heap.size wA).alloc (Nat.le_refl _) (.cells #[] 9)).drew
        have hB : (wA.alloc (.cells #[] 9)).drew.heap[w.heap.size + 2]? = some (.cells #[] 9 (0, 0)) := by rw [← hszA]; exact heap_alloc_new wA _
        have hszB : (wA.alloc (.cells #[] 9)).drew.heap.size = w.heap.size + 3 := by simp [hszA]
        refine hKK _ _ hS ?_
        clear hKK KK
        generalize (wA.alloc (.cells #[] 9)).drew = wB at *
        refine HT.wpAnyG_two (i := 7) (j := 9) (by kernel_rfl) rfl rfl (fun KK hKK => ?_) (fun KK hKK => ?_)
        · refine step_keys (by rfl) _ _ (by rfl) (w.heap.size + 2) (w.heap.size + 2) (by rfl) hB ka ks kp (by rfl) (keys_on (hbel2.trans (hS.mono (by omega))) hK) (by omega) hkl (fun b => b == w.heap.size + 1) (by simp) (by simp [hszB]) ?_
          intro a2 cap w1 hK1 hgrow
          have hS1 : Below wA.heap.size wA w1 := hS.grown hgrow (by omega) (fun j e => by cases e; omega)
          refine hKK _ _ hS1 ?_
          clear hKK KK
          refine HT.takeG_at (i := 8) (v := ?_) rfl rfl (by kernel_rfl) (by kernel_rfl) (by kernel_rfl) (by kernel_rfl) (by kernel_rfl) (by kernel_rfl) (fun _ _ _ h => h) hS1 (Or.inl ⟨by rfl, ?_⟩) ?_
          rotate_left
          · intro wq hwq
            go_simp
            try with_reducible rfl
          simp only [Act.put, List.setIfInBounds_toArray, List.set_cons_zero, List.set_cons_succ]
          refine HT.wpAnyG_one (i := 9) (by kernel_rfl) rfl (fun KK hKK => ?_)
          go_simp
          have hs1 := hS1.size
          have hS2 := hS1.alloc hs1 (.cells #[.int .u8 0, .string ⟨#[]⟩, .slice none 0 0, .slice none 0 0] 26)
          refine hKK _ _ hS2 ?_
          clear hKK KK
          refine HT.wpAnyG_turn (k := 10) (by kernel_rfl) rfl (fun KK hKK => ?_)
          go_simp
          refine hKK _ _ ?_
          clear hKK KK
          refine wpAny_done (by kernel_rfl) ?_ _
          go_wp2
          go_meet
          have hold : ∀ j, j < w1.heap.size → j ≠ w.heap.size + 2 → (w1.alloc (.cells #[.int .u8 (k : Nat), .string t, .slice a2 ks.length cap, .slice none 0 0] 26)).heap[j]? = w1.heap[j]? := fun j h1 h2 => Lib.alloc_old _ _ _ h1
          have ho2 : ∀ j, j < wA.heap.size → (w1.alloc (.cells #[.int .u8 (k : Nat), .string t, .slice a2 ks.length cap, .slice none 0 0] 26)).heap[j]? = wA.heap[j]? := fun j h1 => (Lib.alloc_old _ _ _ (by omega)).trans (hS1.block j h1)
          exact ⟨_, _, _, rfl, RC.start ((ho2 _ (by omega)).trans hbx1) ((ho2 _ (by omega)).trans hbx2) (heap_alloc_new w1 _) (by omega) hK1 (by simp) (fun j h1 h2 => ⟨by omega, Lib.alloc_old _ _ _ h1⟩) ((hbel2.trans (hS1.mono (by omega))).alloc (by omega) _)⟩
        · go_simp
          have hS2 := hS.alloc (by omega) (.cells #[.int .u8 0, .string ⟨#[]⟩, .slice none 0 0, .slice none 0 0] 26)
          have hB2 : (wB.alloc (.cells #[.int .u8 0, .string ⟨#[]⟩, .slice none 0 0, .slice none 0 0] 26)).heap[w.heap.size + 2]? = some (.cells #[] 9 (0, 0)) := (Lib.alloc_old wB _ _ (by omega)).trans hB
          have hR2 : RB (wB.alloc (.cells #[.int .u8 0, .string ⟨#[]⟩, .slice none 0 0, .slice none 0 0] 26)) (w.heap.size + 3) (.int .u8 0) (.string ⟨#[]⟩) (.slice none 0 0) (.slice none 0 0) := by rw [← hszB]; exact heap_alloc_new wB _
          refine hKK _ _ hS2 ?_
          clear hKK KK
          have hszC : (wB.alloc (.cells #[.int .u8 0, .string ⟨#[]⟩, .slice none 0 0, .slice none 0 0] 26)).heap.size = w.heap.size + 4 := by simp [hszB]
          generalize wB.alloc (.cells #[.int .u8 0, .string ⟨#[]⟩, .slice none 0 0, .slice none 0 0] 26) = wC at *
          clear hS hszB
          have hS := hS2
          have hszB := hszC
          refine HT.wpAnyG_one (i := 7) (by kernel_rfl) rfl (fun KK hKK => ?_)
          refine step_keys (by rfl) _ _ (by rfl) (w.heap.size + 2) (w.heap.size + 2) (by rfl) hB2 ka ks kp (by rfl) (keys_on (hbel2.trans (hS.mono (by omega))) hK) (by omega) hkl (fun b => b == w.heap.size + 1 || b == w.heap.size + 3) (by simp) (by simp [hszB]) ?_
          intro a2 cap w1 hK1 hgrow
          have hS1 : Below wA.heap.size wA w1 := hS.grown hgrow (by omega) (fun j e => by cases e; omega)
          refine hKK _ _ hS1 ?_
          clear hKK KK
          refine HT.takeG_at (i := 8) (v := ?_) rfl rfl (by kernel_rfl) (by kernel_rfl) (by kernel_rfl) (by kernel_rfl) (by kernel_rfl) (by kernel_rfl) (fun _ _ _ h => h) hS1 (Or.inl ⟨by rfl, ?_⟩) ?_
          rotate_left
          · intro wq hwq
            go_simp
            try with_reducible rfl
          simp only [Act.put, List.setIfInBounds_toArray, List.set_cons_zero, List.set_cons_succ]
          have hR4 : RB w1 (w.heap.size + 3) (.int .u8 0) (.string ⟨#[]⟩) (.slice none 0 0) (.slice none 0 0) := (hgrow.block _ hR2.lt (by simp)).trans hR2
          obtain ⟨e0, e1, e2, e3⟩ := hR4.cells
          obtain ⟨f0, f1, f2, f3⟩ := hR4.frozen
          refine HT.wpAnyG_turn (k := 10) (by kernel_rfl) rfl (fun KK hKK => ?_)
          go_simp
          refine hKK _ _ ?_
          clear hKK KK
          refine wpAny_done (by kernel_rfl) ?_ _
          go_wp2
          go_meet
          have hs1 := hS1.size
          have ho2 : ∀ j, j < wA.heap.size → ((((w1.setCell ⟨w.heap.size + 3, 0, none⟩ (.int .u8 (k : Nat))).setCell ⟨w.heap.size + 3, 1, none⟩ (.string t)).setCell ⟨w.heap.size + 3, 2, none⟩ (.slice a2 ks.length cap)).setCell ⟨w.heap.size + 3, 3, none⟩ (.slice none 0 0)).heap[j]? = wA.heap[j]? := fun j h1 => (set4_heap w1 _ _ _ _ _ _ _ _ _ j (by omega)).trans (hS1.block j h1)
          exact ⟨_, _, _, rfl, RC.start ((ho2 _ (by omega)).trans hbx1) ((ho2 _ (by omega)).trans hbx2) (hR4.set4 _ _ _ _) (by omega) hK1 (by simp) (fun j h1 h2 => by
            simp only [Bool.or_eq_false_iff, beq_eq_false_iff_ne] at h2
            exact ⟨h2.2, set4_heap w1 _ _ _ _ _ _ _ _ _ j h2.2⟩) (((((hbel2.trans (hS1.mono (by omega))).setCell (by simp only; omega) _).setCell (by simp only; omega) _).setCell (by simp only; omega) _).setCell (by simp only; omega) _)⟩
      · go_simp
        have hS := ((Below.refl wA.heap.size wA).alloc (Nat.le_refl _) (.cells #[.int .u8 0, .string ⟨#[]⟩, .slice none 0 0, .slice none 0 0] 26)).drew
        have hR2 : RB (wA.alloc (.cells #[.int .u8 0, .string ⟨#[]⟩, .slice none 0 0, .slice none 0 0] 26)).drew (w.heap.size + 2) (.int .u8 0) (.string ⟨#[]⟩) (.slice none 0 0) (.slice none 0 0) := by rw [← hszA]; exact heap_alloc_new wA _
        have hszB : (wA.alloc (.cells #[.int .u8 0, .string ⟨#[]⟩, .slice none 0 0, .slice none 0 0] 26)).drew.heap.size = w.heap.size + 3 := by simp [hszA]
        refine hKK _ _ hS ?_
        clear hKK KK
        generalize (wA.alloc (.cells #[.int .u8 0, .string ⟨#[]⟩, .slice none 0 0, .slice none 0 0] 26)).drew = wB at *
        refine HT.wpAnyG_one (i := 4) (by kernel_rfl) rfl (fun KK hKK => ?_)
        go_simp
        have hS2 := hS.alloc (by omega) (.cells #[] 9)
        have hB2 : (wB.alloc (.cells #[] 9)).heap[w.heap.size + 3]? = some (.cells #[] 9 (0, 0)) := by rw [← hszB]; exact heap_alloc_new wB _
        have hR3 := hR2.alloc (.cells #[] 9)
        have hszC : (wB.alloc (.cells #[] 9)).heap.size = w.heap.size + 4 := by simp [hszB]
        refine hKK _ _ hS2 ?_
        clear hKK KK
        generalize wB.alloc (.cells #[] 9) = wC at *
        clear hS hszB hR2
        have hS := hS2
        have hszB := hszC
        have hR2 := hR3
        refine HT.wpAnyG_one (i := 7) (by kernel_rfl) rfl (fun KK hKK => ?_)
        refine step_keys (by rfl) _ _ (by rfl) (w.heap.size + 3) (w.heap.size + 2) (by rfl) hB2 ka ks kp (by rfl) (keys_on (hbel2.trans (hS.mono (by omega))) hK) (by omega) hkl (fun b => b == w.heap.size + 1 || b == w.heap.size + 2) (by simp) (by simp [hszB]) ?_
        intro a2 cap w1 hK1 hgrow
        have hS1 : Below wA.heap.size wA w1 := hS.grown hgrow (by omega) (fun j e => by cases e; omega)
        refine hKK _ _ hS1 ?_
        clear hKK KK
        refine HT.takeG_at (i := 8) (v := ?_) rfl rfl (by kernel_rfl) (by kernel_rfl) (by kernel_rfl) (by kernel_rfl) (by kernel_rfl) (by kernel_rfl) (fun _ _ _ h => h) hS1 (Or.inl ⟨by rfl, ?_⟩) ?_
        rotate_left
        · intro wq hwq
          go_simp
          try with_reducible rfl
        simp only [Act.put, List.setIfInBounds_toArray, List.set_cons_zero, List.set_cons_succ]
        have hR4 : RB w1 (w.heap.size + 2) (.int .u8 0) (.string ⟨#[]⟩) (.slice none 0 0) (.slice none 0 0) := (hgrow.block _ hR2.lt (by simp)).trans hR2
        obtain ⟨e0, e1, e2, e3⟩ := hR4.cells
        obtain ⟨f0, f1, f2, f3⟩ := hR4.frozen
        refine HT.wpAnyG_turn (k := 10) (by kernel_rfl) rfl (fun KK hKK => ?_)
        go_simp
        refine hKK _ _ ?_
        clear hKK KK
        refine wpAny_done (by kernel_rfl) ?_ _
        go_wp2
        go_meet
        have hs1 := hS1.size
        have ho2 : ∀ j, j < wA.heap.size → ((((w1.setCell ⟨w.heap.size + 2, 0, none⟩ (.int .u8 (k : Nat))).setCell ⟨w.heap.size + 2, 1, none⟩ (.string t)).setCell ⟨w.heap.size + 2, 2, none⟩ (.slice a2 ks.length cap)).setCell ⟨w.heap.size + 2, 3, none⟩ (.slice none 0 0)).heap[j]? = wA.heap[j]? := fun j h1 => (set4_heap w1 _ _ _ _ _ _ _ _ _ j (by omega)).trans (hS1.block j h1)
        exact ⟨_, _, _, rfl, RC.start ((ho2 _ (by omega)).trans hbx1) ((ho2 _ (by omega)).trans hbx2) (hR4.set4 _ _ _ _) (by omega) hK1 (by simp) (fun j h1 h2 => by
          simp only [Bool.or_eq_false_iff, beq_eq_false_iff_ne] at h2
          exact ⟨h2.2, set4_heap w1 _ _ _ _ _ _ _ _ _ j h2.2⟩) (((((hbel2.trans (hS1.mono (by omega))).setCell (by simp only; omega) _).setCell (by simp only; omega) _).setCell (by simp only; omega) _).setCell (by simp only; omega) _)⟩
    case rest =>
      obtain ⟨h3, a2, cap, rfl, hRC⟩ := hcut
      clear hbx1 hbx2 hbel hszA y0 y1 y2 hS0
      have HLC := Lib.hid (fun (j : Nat) (x : JV) (hx : l[j]? = some x) => list_cell hL hx)
      have hll : l.length ≤ 1000000000000 := by simp only [sizeV] at hs; have := len_sizeL l; omega
      clear hV hK hL hkl
      go_wp2
      go_loopw [4] (fun vi wr => ∃ (i : Nat) (lp2 : Option Addr) (lc2 : Nat) (xs : List Value), vi = .int .i64 i ∧ i ≤ l.length ∧ (l.take i).length = i ∧ RC w (.cells #[.int .u8 (k : Nat), .string t, .slice ka ks.length kp, .slice la l.length lp] 26) h3 k t ks (.slice a2 ks.length cap) wr (l.take i) (.slice lp2 (l.take i).length lc2) xs) (fun vi _ => l.length - (intOf vi).toNat)
      case atStart => exact ⟨0, none, 0, [], rfl, Nat.zero_le _, rfl, hRC⟩
      case round =>
        clear hRC
        obtain ⟨i, lp2, lc2, xs, rfl, hi, hli, hRi⟩ := hrel
        obtain ⟨n0, n1, n2, n3⟩ := hRi.new.cells
        have y3 := Lib.cell_of_heap hRi.bx 3
        have hlo3 := hRi.lo
        have hnl3 := hRi.new.lt
        have hsz3 := hRi.bel.size
        by_cases hgo : i < l.length
        · obtain ⟨x, hx⟩ : ∃ x, l[i]? = some x := ⟨_, List.getElem?_eq_getElem hgo⟩
          have hti : l.take i ++ [x] = l.take (i + 1) := (take_snoc hx).symm
          have htl : (l.take (i + 1)).length = i + 1 := by rw [← hti, List.length_append, hli]; rfl
          obtain ⟨lb, lo, rfl, q0, q1, q2, q3, g0, g1, g2, g3, hVx⟩ := HLC.out i x hx
          have hsx : sizeV x ≤ N := by have := sizeV_in hx; simp only [sizeV] at hv; omega
          have hsx2 : sizeV x ≤ 1000000000000 := by have := sizeV_in hx; simp only [sizeV] at hs; omega
          have hkx2 : keysV x ≤ 1000000000000 := by have := keysV_in hx; simp only [keysV] at hk; omega
          have e0 := cell_on hRi.bel g0
          have e1 := cell_on hRi.bel g1
          have e2 := cell_on hRi.bel g2
          have e3 := cell_on hRi.bel g3
          have hS0 : Below wr.heap.size wr wr.drew := (Below.refl _ _).drew
          have hcall := ih x hsx _ _ _ _ wr.drew (IsV.stays (Below.stays (hRi.bel.trans (hS0.mono hsz3)) 0) (Nat.le_refl 0) _ _ _ _ _ hVx) hsx2 hkx2
          have hgo2 : (i : Int) < (l.length : Int) := by omega
          clear g0 g1 g2 g3 hVx hx hsx hsx2 hkx2
          generalize l.take i = m at *
          subst hli
          go_wp2
          refine wp_region_any (by kernel_rfl) ?_
          change wpAny _ _ _ _ 12 _ _ (World.drew _)
          refine HT.take_at (i := 0) (v := ?_) rfl rfl (by kernel_rfl) (by kernel_rfl) (by kernel_rfl) (fun _ _ _ h => h) (Or.inl ⟨by rfl, ?_⟩) ?_
          rotate_left
          · intro wq
            go_simp
            try with_reducible rfl
          simp only [Act.put, List.setIfInBounds_toArray, List.set_cons_zero, List.set_cons_succ]
          refine HT.take_at (i := 2) (v := ?_) rfl rfl (by kernel_rfl) (by kernel_rfl) (by kernel_rfl) (fun _ _ _ h => h) (Or.inl ⟨by rfl, ?_⟩) ?_
          rotate_left
          · intro wq
            go_simp
            try with_reducible rfl
          simp only [Act.put, List.setIfInBounds_toArray, List.set_cons_zero, List.set_cons_succ]
          refine HT.take_at (i := 4) (v := ?_) rfl rfl (by kernel_rfl) (by kernel_rfl) (by kernel_rfl) (fun _ _ _ h => h) (Or.inl ⟨by rfl, ?_⟩) ?_
          rotate_left
          · intro wq
            go_simp
            try with_reducible rfl
          simp only [Act.put, List.setIfInBounds_toArray, List.set_cons_zero, List.set_cons_succ]
          refine HT.wpAny_of_G (k := 9) (S := fun w' => Below wr.heap.size wr w') _ _ _ _ ?_
          refine HT.takeG_at (i := 1) (v := ?_) rfl rfl (by kernel_rfl) (by kernel_rfl) (by kernel_rfl) (by kernel_rfl) (by kernel_rfl) (by kernel_rfl) (fun _ _ _ h => h) hS0 (Or.inl ⟨by rfl, ?_⟩) ?_
          rotate_left
          · intro wq hwq
            have z0 := cell_on hwq n3
            go_simp
            try with_reducible rfl
          simp only [Act.put, List.setIfInBounds_toArray, List.set_cons_zero, List.set_cons_succ]
          refine HT.takeG_at (i := 3) (v := ?_) rfl rfl (by kernel_rfl) (by kernel_rfl) (by kernel_rfl) (by kernel_rfl) (by kernel_rfl) (by kernel_rfl) (fun _ _ _ h => h) hS0 (Or.inl ⟨by rfl, ?_⟩) ?_
          rotate_left
          · intro wq hwq
            have z0 := cell_on hwq y3
            go_simp
            try with_reducible rfl
          simp only [Act.put, List.setIfInBounds_toArray, List.set_cons_zero, List.set_cons_succ]
          refine HT.takeG_at (i := 5) (v := ?_) rfl rfl (by kernel_rfl) (by kernel_rfl) (by kernel_rfl) (by kernel_rfl) (by kernel_rfl) (by kernel_rfl) (fun _ _ _ h => h) hS0 (Or.inl ⟨by rfl, ?_⟩) ?_
          rotate_left
          · intro wq hwq
            go_simp
            try with_reducible rfl
          simp only [Act.put, List.setIfInBounds_toArray, List.set_cons_zero, List.set_cons_succ]
          refine HT.takeG_at (i := 6) (v := ?_) rfl rfl (by kernel_rfl) (by kernel_rfl) (by kernel_rfl) (by kernel_rfl) (by kernel_rfl) (by kernel_rfl) (fun _ _ _ h => h) hS0 (Or.inl ⟨by rfl, ?_⟩) ?_
          rotate_left
          · intro wq hwq
            have z0 := cell_on hwq e0
            have z1 := cell_on hwq e1
            have z2 := cell_on hwq e2
            have z3 := cell_on hwq e3
            go_simp
            try with_reducible rfl
          simp only [Act.put, List.setIfInBounds_toArray, List.set_cons_zero, List.set_cons_succ]
          refine HT.wpAnyG_one (i := 7) (by kernel_rfl) rfl (fun KK hKK => ?_)
          go_simp
          refine hcall.mono ?_
          rintro e w2 ⟨d0, d1, d2, d3, rfl, hV2, hb2⟩
          have hb2' : Below wr.heap.size wr w2 := hS0.trans hb2
          have hs2 := hb2'.size
          simp only
          refine hKK _ _ hb2' ?_
          clear hKK KK
          refine HT.wpAnyG_one (i := 8) (by kernel_rfl) rfl (fun KK hKK => ?_)
          go_simp
          refine hKK _ _ (hb2'.alloc hs2 _) ?_
          clear hKK KK
          obtain ⟨i0, hi0, hz0, hz1, hz2⟩ := info_parts infoValue
          obtain ⟨o0, o1, o2, o3⟩ := hV2.one
          have h23 : Below w2.heap.size w2 (w2.alloc (.cells #[d0, d1, d2, d3] 26)) := (Below.refl _ _).alloc (Nat.le_refl _) _
          have hN : (w2.alloc (.cells #[d0, d1, d2, d3] 26)).heap[w2.heap.size]? = some (.cells #[d0, d1, d2, d3] 26 (0, 0)) := heap_alloc_new w2 _
          have hs3 : (w2.alloc (.cells #[d0, d1, d2, d3] 26)).heap.size = w2.heap.size + 1 := by simp
          have ho3 : (w2.alloc (.cells #[d0, d1, d2, d3] 26)).ownsRow (w.heap.size + 2) 26 4 (.slice lp2 m.length lc2) m.length xs := (own_of_heap hRi.own (fun g hg => hb2'.block g (hRi.own.lt g hg).2)).alloc _
          generalize w2.alloc (.cells #[d0, d1, d2, d3] 26) = w3 at *
          refine HT.wpAnyG_turn (k := 9) (by kernel_rfl) rfl (fun KK hKK => ?_)
          refine step_append_lies w3 (by rfl) _ _ _ (by rfl) (w.heap.size + 2) 26 i0 _ 4 72 Tryz.underlying24 hi0 hz0 hz1 hz2 rfl (by omega) (.slice lp2 m.length lc2) m.length xs (by rfl) ho3
            ⟨w2.heap.size, 0, none⟩ 1 1 [d0, d1, d2, d3] (by rfl) (by rfl) (World.news_of_block hN) (by simp [o0, o1, o2, o3])
            (by omega) (by unfold maxLen; omega) (by omega) (by omega) w3.heap.size rfl ?_
          intro g cap2 w4 hown4 hgrow hat hglt
          refine hKK _ _ ?_
          clear hKK KK
          have hR := hRi.next hb2' hV2 h23 hgrow hat hown4
          have hR4 : RB w4 h3 (.int .u8 (k : Nat)) (.string t) (.slice a2 ks.length cap) (.slice lp2 m.length lc2) := ((hgrow.block h3 (by omega) (fun e => hRi.far e.symm)).trans ((h23.block h3 (by omega)).trans (hb2'.block h3 hRi.new.lt))).trans hRi.new
          obtain ⟨_, _, _, v3⟩ := hR4.cells
          obtain ⟨_, _, _, u3⟩ := hR4.frozen
          refine HT.take_at (i := 10) (v := ?_) rfl rfl (by kernel_rfl) (by kernel_rfl) (by kernel_rfl) (fun _ _ _ h => h) (Or.inl ⟨by rfl, ?_⟩) ?_
          rotate_left
          · intro wq
            go_simp
            try with_reducible rfl
          simp only [Act.put, List.setIfInBounds_toArray, List.set_cons_zero, List.set_cons_succ]
          refine HT.wpAny_one (i := 11) (by kernel_rfl) rfl (fun KK hKK => ?_)
          go_simp
          refine hKK _ _ ?_
          clear hKK KK
          refine wpAny_done (by kernel_rfl) ?_ _
          have hR2 : RC w (.cells #[.int .u8 (k : Nat), .string t, .slice ka ks.length kp, .slice (some ⟨lb, lo, none⟩) l.length lp] 26) h3 k t ks (.slice a2 ks.length cap) (w4.setCell ⟨h3, 3, none⟩ (.slice (some ⟨g, 0, none⟩) (m.length + 1) cap2)) (l.take (m.length + 1)) (.slice (some ⟨g, 0, none⟩) (l.take (m.length + 1)).length cap2) (xs ++ [d0, d1, d2, d3]) := by
            rw [← hti, List.length_append]
            exact hR
          go_wp2
          go_roundw
          case rel => exact ⟨m.length + 1, _, _, _, by go_num, hgo, htl, hR2⟩
          case measure => simp [intOf]; omega
        · have hge : ¬ ((i : Int) < (l.length : Int)) := by omega
          have hil : l.take i = l := List.take_of_length_le (by omega)
          rw [hil] at hRi
          obtain ⟨r0, r1, r2, r3⟩ := hRi.res.cells
          obtain ⟨f0, f1, f2, f3⟩ := hRi.res.frozen
          rw [hil] at n3
          go_wp2
          have hRB := hRi.res.set4 (.int .u8 (k : Nat)) (.string t) (.slice a2 ks.length cap) (.slice lp2 l.length lc2)
          have hV := hRi.done (w' := (((wr.setCell ⟨w.heap.size + 1, 0, none⟩ (.int .u8 (k : Nat))).setCell ⟨w.heap.size + 1, 1, none⟩ (.string t)).setCell ⟨w.heap.size + 1, 2, none⟩ (.slice a2 ks.length cap)).setCell ⟨w.heap.size + 1, 3, none⟩ (.slice lp2 l.length lc2)) (fun j hj => set4_heap wr _ _ _ _ _ _ _ _ _ j hj)
          have hB := (((hRi.bel.setCell (p := ⟨w.heap.size + 1, 0, none⟩) (by simp only; omega) (.int .u8 (k : Nat))).setCell (p := ⟨w.heap.size + 1, 1, none⟩) (by simp only; omega) (.string t)).setCell (p := ⟨w.heap.size + 1, 2, none⟩) (by simp only; omega) (.slice a2 ks.length cap)).setCell (p := ⟨w.heap.size + 1, 3, none⟩) (by simp only; omega) (.slice lp2 l.length lc2)
          clear hRi
          generalize (((wr.setCell ⟨w.heap.size + 1, 0, none⟩ (.int .u8 (k : Nat))).setCell ⟨w.heap.size + 1, 1, none⟩ (.string t)).setCell ⟨w.heap.size + 1, 2, none⟩ (.slice a2 ks.length cap)).setCell ⟨w.heap.size + 1, 3, none⟩ (.slice lp2 l.length lc2) = wE at *
          obtain ⟨f0, f1, f2, f3⟩ := hRB.cells
          refine bodyPost_ret (v := .agg #[.int .u8 (k : Nat), .string t, .slice a2 ks.length cap, .slice lp2 l.length lc2]) ?_ rfl ⟨_, _, _, _, rfl, hV, hB⟩
          simp [results, Tryz.results27, go_sem, f0, f1, f2, f3]
end Go.Proofs.YtcikogjbebcnmaaGreatDoor
