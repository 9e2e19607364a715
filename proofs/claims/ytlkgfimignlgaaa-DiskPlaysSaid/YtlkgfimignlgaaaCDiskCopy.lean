/-
  CONTRACT of files.copied: a map of its own, with the same names and bytes in rows of its own.
-/
import Derived.Test.YtlkgfimignlgaaaCDiskRead
import Derived.Maps.Ext
set_option linter.unusedSimpArgs false
set_option linter.unusedVariables false
set_option linter.unusedVariables false
set_option linter.unusedSimpArgs false
namespace Go.Proofs.Ytlkgfimignlgaaa
open Go.RowKit
/-- names and bytes as a datum -/
def pairB (p : ByteArray × List UInt8) : Lit × DataW Value := (litE p.1, .lit (.string p.2))
def datB (F : Fs) : DataW Value := .map (F.map pairB)
theorem datB_inj {F G : Fs} (h : datB F = datB G) : F = G := by
  unfold datB at h
  have h2 : F.map pairB = G.map pairB := by cases h' : F.map pairB with
    | nil => rw [h'] at h; cases hg : G.map pairB with
      | nil => rfl
      | cons a t => rw [hg] at h; cases h
    | cons a t => rw [h'] at h; injection h
  refine (List.map_inj_right (fun p q e => ?_)).1 h2
  obtain ⟨a, b⟩ := p
  obtain ⟨c, d⟩ := q
  simp only [pairB, Prod.mk.injEq, litE] at e
  obtain ⟨e1, e2⟩ := e
  cases e2
  have e3 : a.data.toList = c.data.toList := by injection e1
  rw [ByteArray.ext (Array.toList_inj.1 e3)]
theorem datB_at (F : Fs) (s : ByteArray) (zd : DataW Value) : (datB F).atKey (litE s) zd = if hasF F s then .lit (.string (getF F s)) else zd := by
  unfold datB DataW.atKey hasF getF
  simp only
  induction F with
  | nil => rfl
  | cons x r ih =>
    rw [List.map_cons, List.find?_cons, List.find?_cons, List.any_cons]
    have e : (pairB x).1.sameKey (litE s) = eqF s x := rfl
    rw [e]
    cases eqF s x with
    | true => rfl
    | false => rw [Bool.false_or]; exact ih
theorem datB_ins (p : ByteArray × List UInt8) : ∀ F : Fs, DataW.insert (pairB p) (F.map pairB) = (insF p F).map pairB
  | [] => rfl
  | y :: r => by
    have ih := datB_ins p r
    simp only [List.map_cons, insF]
    unfold DataW.insert
    have e : (pairB p).1.before (pairB y).1 = (litE p.1).before (litE y.1) := rfl
    rw [e]
    split
    · rfl
    · rw [ih]; rfl
theorem datB_put (F : Fs) (s : ByteArray) (l : List UInt8) : (datB F).put (litE s) (.lit (.string l)) = datB (putF F s l) := by
  unfold datB DataW.put putF
  simp only
  have e : (F.map pairB).filter (fun p => !p.1.sameKey (litE s)) = (delF F s).map pairB := by
    unfold delF
    rw [List.filter_map]
    rfl
  rw [e]
  exact congrArg DataW.map (datB_ins (s, l) _)
theorem datB_has (F : Fs) (s : ByteArray) : Maps.has (datB F) (litE s) = hasF F s := by
  unfold datB Maps.has hasF
  simp only
  rw [List.any_map]
  rfl
theorem datB_canon {w : World} {mb : Nat} {E : List En} (h : FM w mb E) : Maps.Canon (datB (datF E)) := by
  obtain ⟨es, he, hp, hk⟩ := h.map.canon keyLaw
  have h2 : E.map pairE = es := by
    unfold datE at he
    cases he
    rfl
  refine ⟨(datF E).map pairB, rfl, ?_, ?_⟩
  · rw [← h2, List.pairwise_map] at hp
    unfold datF
    rw [List.map_map, List.pairwise_map]
    exact hp
  · intro p hp2
    unfold datF at hp2
    rw [List.map_map] at hp2
    obtain ⟨x, hx, rfl⟩ := List.mem_map.1 hp2
    exact hk (pairE x) (by rw [← h2]; exact List.mem_map_of_mem hx)
theorem bytE_at {E : List En} {s : ByteArray} {x : En} {w : World} {mb : Nat} (h : FM w mb E) (hx : x ∈ E) (hs : x.name = s) : bytE E s = x.data ∧ hasE E s = true := by
  have hh : hasE E s = true := by
    unfold hasE
    rw [List.any_eq_true]
    exact ⟨x, hx, by rw [← hs]; exact beq_self_eq_true _⟩
  rw [has_get] at hh
  obtain ⟨y, hy⟩ := Option.isSome_iff_exists.1 hh
  refine ⟨?_, by rw [has_get, hy]; rfl⟩
  have hn : y.name = x.name := (eq_name (get_mem hy).2).trans hs.symm
  have hyx : y = x := by
    by_cases hne : y = x
    · exact hne
    · exact absurd (congrArg litE hn) (pair_in (fun a b h => Ne.symm h) (names_of h) (get_mem hy).1 hx hne)
  unfold bytE
  rw [hy, hyx]
theorem has_same (E : List En) : Maps.has (datE E) = Maps.has (datB (datF E)) := by
  funext k
  unfold datE datB datF Maps.has
  simp only [List.any_map]
  rfl
theorem len_ins (x : En) : ∀ E : List En, (insE x E).length = E.length + 1
  | [] => rfl
  | y :: r => by
    simp only [insE]
    split
    · simp
    · simp [len_ins x r]
theorem len_put (E : List En) (x : En) : (putE E x).length ≤ E.length + 1 := by
  unfold putE
  rw [len_ins]
  have := List.length_filter_le (fun y => !eqE x.name y) E
  unfold delE
  omega
/-- behind a store of new bytes, with all that the relation says -/
theorem copy_put {w1 w2 w3 : World} {mb n : Nat} {E' : List En} {s : ByteArray} {v' : Value} {l : List UInt8} (h : FM w1 mb E') (hb : Below w1.heap.size w1 w2) (ho : OB w2 v' l) (hv : ∀ g, v'.ownBlock = some g → w1.heap.size ≤ g)
    (hm3 : w3.ownsMap Try.prog 9 slotE mb n ((datE E').put (litE s) (.held v'))) (hg3 : w2.grownBy w3 (some mb)) : FM w3 mb (putE E' ⟨s, v', l⟩) := by
  have e : (datE E').put (litE s) (.held v') = datE (putE E' ⟨s, v', l⟩) := dat_put E' ⟨s, v', l⟩
  rw [e] at hm3
  have hlt := h.lt
  refine h.put hm3 (ho.keep fun g hg => hg3.block g (ho.lt hg) fun e => ?_) fun y hy he => ⟨fun g hg => ?_, fun g hg hg' => ?_⟩
  · have := hv g hg
    have := Option.some.inj e
    omega
  · have hl := (h.rows y hy).lt hg
    exact (hg3.block g (Nat.lt_of_lt_of_le hl hb.size) fun e => by have := Option.some.inj e; subst this; exact h.ne hy hg).trans (hb.block g hl)
  · have := (h.rows y hy).lt hg'
    have := hv g hg
    omega
set_option maxRecDepth 10000000 in
set_option maxHeartbeats 4000000 in
theorem files_copied (mb : Nat) (E : List En) (w : World) (h : FM w mb E) (hE : smE E) :
    Calls Try.prog 52 #[.map (some mb)] w fun e w' => e = .returned (.map (some w.heap.size)) ∧ ∃ E', FM w' w.heap.size E' ∧ datF E' = datF E ∧ Below w.heap.size w w' ∧ ∀ j, Foot w.heap.size E' j → w.heap.size ≤ j := by
  have hmm : ∀ (w2 : World), (Instr.makeMap 57 (some (.int .i64 (E.length : Nat)))).run Try.prog w2 = .ok (.map (some w2.heap.size)) (w2.alloc (.map #[] 0)) := fun w2 => by
    have hl0 : ¬ ((E.length : Int) < 0) := by omega
    simp [Instr.makeMap, hl0, go_sem]
  have hm := h.map
  have hlt := h.lt
  have hlen := hm.len (t := 57) Try.underlying57
  rw [dat_size] at hlen
  have e1 : (w.alloc (.map #[] 0)).heap.size = w.heap.size + 1 := by simp
  go_enter Try.func52, Try.ntmps52
  go_wp2_with (first | (at_range; refine wpList_range_own _ rfl _ 57 rfl 9 65 keyLaw Try.underlying57 slotE mb _ _ rfl (hm.alloc _) ?_; intro w0 hrg0 hg0 hs0))
  go_frame
  rw [e1] at hrg0 hs0 ⊢
  have hF0 : FM w0 w.heap.size [] := (FM.made w).keep (hg0.block _ (by omega) (by simp)) (fun x hx => by cases hx)
  go_loopw [4] (fun _ wr => ∃ (left : Lit → Bool) (cnt : Nat) (E' : List En), wr.ranges Try.prog 9 slotE mb (w.heap.size + 1) E.length (datE E) left cnt ∧ FM wr w.heap.size E' ∧ Maps.Agree (datB (datF E')) (datB (datF E)) left ∧ (∀ x ∈ E', ∀ g, x.val.ownBlock = some g → w.heap.size ≤ g) ∧ cnt + E'.length ≤ E.length ∧ Below w.heap.size w wr) (fun _ wr => wr.rangeLeft mb (w.heap.size + 1))
  case atStart =>
    refine ⟨_, _, [], hrg0, hF0, ?_, (fun x hx => by cases hx), by rw [dat_size]; exact Nat.le_refl _, ((Below.refl _ _).alloc (Nat.le_refl _) _).grown hg0 (by simp) (fun j hj => by cases hj)⟩
    rw [has_same]
    exact Maps.agree_start _
  case round =>
    obtain ⟨left, cnt, E', hrg, hF, hA, hnew, hcnt, hb⟩ := hrel
    go_wp2_with (first | (at_next; refine wpList_next_ranges _ rfl _ rfl 9 keyLaw slotE Value.string id (fun key kl hk => by obtain ⟨s, e, _⟩ := key_inv hk; exact ⟨s, e⟩) (fun v y _ => ⟨v, rfl⟩) mb (w.heap.size + 1) _ _ _ _ rfl hrg ?_ ?_))
    · intro hc0 hl0
      go_wp2
      go_ret
      refine ⟨rfl, E', hF, ?_, hb, fun j hj => ?_⟩
      · exact datB_inj (Maps.agree_end hA hl0 (datB_canon hF) (datB_canon h))
      · rcases hj with rfl | ⟨x, hx, hxj⟩
        · exact Nat.le_refl _
        · exact hnew x hx j hxj
    · intro s c kl yd yp w1 cnt1 hkey hlx hy hat hrg1 hlt1 hg1 hs1 hen
      obtain ⟨s', hs', rfl⟩ := key_inv hkey
      cases hs'
      have hy2 : yd = .held c := by unfold slotE at hy; cases hy; rfl
      subst hy2
      obtain ⟨x, hx, rfl, rfl⟩ := came (left_has hrg hlx) hat
      have hwr := hb.size
      have hmbn := hF.lt
      have hrl := hrg.lt
      have hOB1 : OB w1 x.val x.data := (h.rows x hx).keep fun g hg => by
        have hl := (h.rows x hx).lt hg
        rw [hg1.block g (by omega) (fun e => by have := Option.some.inj e; omega), hb.block g hl]
      have hF1 : FM w1 w.heap.size E' := hF.keep (hg1.block _ hmbn (fun e => by have := Option.some.inj e; omega)) fun y hy g hg => hg1.block g ((hF.rows y hy).lt hg) (fun e => by
        have e2 := Option.some.inj e
        subst e2
        obtain ⟨es, clock, since, seen, c0, _, _, _, _, hit, _⟩ := hrg
        rcases (hF.rows y hy).2 with ⟨hn, _⟩ | ⟨g', cap, cur, hv, _, hgc, _⟩
        · rw [hn] at hg; cases hg
        · rw [hv] at hg
          cases hg
          rw [hit] at hgc
          cases hgc)
      have cC := copied_any x.val x.data w1 hOB1 (by have := hE.2 x.name; rw [(bytE_at h hx rfl).1] at this; omega)
      have hEm : E'.length < maxLen := by have := hE.1; unfold maxLen; omega
      obtain ⟨a, cap, hv⟩ := (h.rows x hx).shape
      simp only [id, hv] at hen cC ⊢
      go_wp2_with (go_at_call 67; refine cC.mono ?_; rintro e w2 ⟨v', rfl, ho2, hb2, hv2⟩; obtain ⟨w3, hrun3, hm3, hg3⟩ := (hF1.below hb2).map.update keyLaw Try.underlying57 hEm hkey (val := v') (d := .held v') (ps := []) rfl)
      have hgN : w1.grownBy w2 none := ⟨hb2.os, hb2.tape, hb2.output, hb2.size, fun k hk _ => hb2.block k hk⟩
      have hrg3 := (hrg1.kept hgN (by simp) (by simp)).kept hg3 (fun e => by have := Option.some.inj e; omega) (fun e => by have := Option.some.inj e; omega)
      have hb3 : Below w.heap.size w w3 := ((hb.grown hg1 (by omega) (fun j hj => by cases hj; omega)).trans (hb2.mono (by omega))).grown hg3 (by have := hb2.size; omega) (fun j hj => by cases hj; exact Nat.le_refl _)
      have hA3 := Maps.agree_step (kl := litE x.name) (d := .lit (.string x.data)) hA ⟨_, rfl⟩ trivial (fun zd => by rw [datB_at, dat_hasF, dat_getF, (bytE_at h hx rfl).1, (bytE_at h hx rfl).2]; rfl)
      rw [datB_put] at hA3
      have hA4 : Maps.Agree (datB (datF (putE E' ⟨x.name, v', x.data⟩))) (datB (datF E)) (fun z => left z && !z.sameKey (litE x.name)) := by rw [dat_putF]; exact hA3
      have hlp := len_put E' ⟨x.name, v', x.data⟩
      have hF3 := copy_put hF1 hb2 ho2 hv2 hm3 hg3
      have hnew3 : ∀ y ∈ putE E' ⟨x.name, v', x.data⟩, ∀ g, y.val.ownBlock = some g → w.heap.size ≤ g := fun y hy g hg => by
        rcases mem_put.1 hy with rfl | ⟨hy, _⟩
        · have := hv2 g hg
          omega
        · exact hnew y hy g hg
      go_roundw
      case rel => exact ⟨_, cnt1, _, hrg3, hF3, hA4, hnew3, by omega, hb3⟩
      case measure => rw [hrg3.left_eq, hrg.left_eq]; exact hlt1
end Go.Proofs.Ytlkgfimignlgaaa
