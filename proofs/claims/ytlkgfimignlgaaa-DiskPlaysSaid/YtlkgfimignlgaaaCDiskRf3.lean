/-
  THE DOCUMENT'S OWN DISK: what is appended to a row out of another one, be it empty, or nil; where a file is put among others. CONTRACT of with.
-/
import Derived.Test.YtlkgfimignlgaaaCDiskRf2
import Derived.Deep.Upon
set_option linter.unusedSimpArgs false
set_option linter.unusedVariables false
set_option linter.unusedVariables false
set_option linter.unusedSimpArgs false
namespace Go.Proofs.Ytlkgfimignlgaaa
open Go.RowKit
theorem World.grownBy_refl (w : World) (row : Option Nat) : w.grownBy w row := ⟨rfl, rfl, rfl, Nat.le_refl _, fun _ _ _ => rfl⟩
/-- append of the first m elements of whatever slice to a row that is owned -/
theorem wpList_append_row {P : Program} {w : World} {ops : Array Oper} {rest : List Oper} {o : Oper} {a : Act} {Q : Exit → Act → World → Prop} (hgd : o.guard = none) (s x : Operand) (t : TypeId)
    (ho : o.op = .call { callee := .builtin .append, args := #[s, x], argTypes := #[t, t] })
    (base : Nat) (e : TypeId) (i : TypeInfo) (z : Value) (size bytes : Nat) (ht : P.underlying t = some (.slice e)) (hi : P.info? e = some i) (hz : i.zero = some z)
    (hsize : i.size = size) (hby : i.bytes = bytes) (hzs : z.cells.size = size) (hsz : 0 < size)
    (v : Value) (n : Nat) (xs : List Value) (hs : a.eval s = v) (hown : w.ownsRow base e size v n xs)
    (ao : Option Addr) (m c : Nat) (news : List Value) (hx : a.eval x = .slice ao m c) (hl : news.length = m * size) (hnews : ∀ j u, news[j]? = some u → ∃ b off, ao = some ⟨b, off, none⟩ ∧ w.cell? ⟨b, off + j, none⟩ = some u) (h1 : ∀ u ∈ news, u.oneCell' = true)
    (h63 : n + m ≤ maxLen) (hbytes : (n + m) * bytes ≤ 140737488355328) (hbase : base ≤ w.heap.size)
    (h : ∀ v' w', w'.ownsRow base e size v' (n + m) (xs ++ news) → w.grownBy w' v.ownBlock → (∀ g, v'.ownBlock = some g → v.ownBlock = some g ∨ w.heap.size ≤ g) → wpList P ops Q rest (a.put o.dst v') w') : wpList P ops Q (o :: rest) a w := by
  by_cases hm : m = 0
  · subst hm
    have hn0 : news = [] := by
      cases news with
      | nil => rfl
      | cons _ _ => simp at hl
    subst hn0
    have hsrc : Src P i.size t (.slice ao 0 c) 0 [] w := by
      cases ao with
      | none => exact Src.ofNil w ht c
      | some ad => exact Src.ofSlice w ht ad 0 c [] (by simp) (fun j u hj => by simp at hj) (fun u hu => by simp at hu)
    have hv : ∃ b sl sc, v = .slice b sl sc ∧ sl ≤ sc := by
      rcases hown.2 with ⟨rfl, rfl⟩ | ⟨g, cap, cur, rfl, _, _, hc, _⟩
      · exact ⟨_, _, _, rfl, Nat.le_refl _⟩
      · exact ⟨_, _, _, rfl, hc⟩
    obtain ⟨b, sl, sc, rfl, hle⟩ := hv
    refine wpList_plain hgd fun K hK => ?_
    have hrun := run_append_nothing (P := P) w t t o.type e i ht hi b sl sc hle _ hsrc
    unfold Oper.wp
    simp [execOp, ho, resolve, invoke, builtin, hs, hx, hrun, Result.andThen]
    exact hK _ _ (h _ _ (by simpa using hown) (World.grownBy_refl _ _) fun g hg => .inl hg)
  · have hne : ∃ u, news[0]? = some u := ⟨news[0]'(by rw [hl]; exact Nat.mul_pos (by omega) hsz), List.getElem?_eq_getElem _⟩
    obtain ⟨u, hu⟩ := hne
    obtain ⟨b, off, rfl, _⟩ := hnews 0 u hu
    refine wpList_append_lies w hgd s x t ho base e i z size bytes ht hi hz hsize hby hzs hsz v n xs hs hown ⟨b, off, none⟩ m c news hx hl (fun j u hj => ?_) h1 (by omega) h63 hbytes hbase w.heap.size rfl ?_
    · obtain ⟨b', off', e', hc⟩ := hnews j u hj
      cases e'
      rw [Addr.add_lit]
      exact hc
    · intro g cap w' hown' hg hat hlt
      exact h _ _ hown' hg fun g' hg' => by
        cases hg'
        exact hat.imp_right fun e => Nat.le_of_eq e.symm
theorem grown_below {B : Nat} {w0 w w' : World} {row : Option Nat} (h : Below B w0 w) (hg : w.grownBy w' row) (hB : w0.heap.size ≤ w.heap.size) (hb : B ≤ w0.heap.size) (hr : ∀ k, row = some k → B ≤ k) : Below B w0 w' :=
  h.grown hg (Nat.le_trans hb hB) hr
/-! ### Where a file is put -/
def bef (s t : ByteArray) : Bool := (litE s).before (litE t)
theorem ins_at (p : ByteArray × List UInt8) : ∀ (G : Fs) (k : Nat), k ≤ G.length → (∀ j q, j < k → G[j]? = some q → bef p.1 q.1 = false) → (∀ q, G[k]? = some q → bef p.1 q.1 = true) → insF p G = G.take k ++ p :: G.drop k
  | [], k, hk, _, _ => by
    have : k = 0 := by simpa using hk
    subst this
    rfl
  | q :: r, 0, _, _, h2 => by
    have := h2 q rfl
    unfold bef at this
    simp [insF, this]
  | q :: r, k + 1, hk, h1, h2 => by
    have h0 := h1 0 q (by omega) rfl
    have ih := ins_at p r k (by simpa using hk) (fun j q' hj hq => h1 (j + 1) q' (by omega) (by simpa using hq)) (fun q' hq => h2 q' (by simpa using hq))
    unfold bef at h0
    simp [insF, h0, ih]
theorem bytes_lt : ∀ a b : List UInt8, bytesBefore a b = decide (a < b)
  | [], [] => by simp [bytesBefore]
  | [], _ :: _ => by simp [bytesBefore]
  | _ :: _, [] => by simp [bytesBefore]
  | x :: r, y :: s => by
    have ih := bytes_lt r s
    simp only [bytesBefore, ih, List.cons_lt_cons_iff]
    by_cases h : x < y
    · simp [h]
    · by_cases e : x = y
      · simp [e]
      · simp [h, e]
theorem bef_lt (s t : ByteArray) : bef s t = decide (s.data.toList < t.data.toList) := by
  unfold bef litE
  show bytesBefore _ _ = _
  exact bytes_lt _ _
theorem del_ne {F : Fs} {s : ByteArray} {j : Nat} {q : ByteArray × List UInt8} (h : (delF F s)[j]? = some q) : eqF s q = false := by
  have := List.mem_of_getElem? h
  unfold delF at this
  have := (List.mem_filter.1 this).2
  cases e : eqF s q
  · rfl
  · rw [e] at this; cases this
/-- the first place whose name is not less: the place of the file -/
theorem put_at {F : Fs} {s : ByteArray} {l : List UInt8} {k : Nat} (hk : k ≤ (delF F s).length) (h1 : ∀ j q, j < k → (delF F s)[j]? = some q → q.1.toList < s.toList) (h2 : ∀ q, (delF F s)[k]? = some q → ¬ q.1.toList < s.toList) :
    putF F s l = (delF F s).take k ++ (s, l) :: (delF F s).drop k := by
  unfold putF
  refine ins_at (s, l) _ k hk (fun j q hj hq => ?_) (fun q hq => ?_)
  · rw [bef_lt]
    have := h1 j q hj hq
    rw [Lib.toList_data, Lib.toList_data] at this
    exact decide_eq_false (List.lt_asymm this)
  · rw [bef_lt]
    have h := h2 q hq
    rw [Lib.toList_data, Lib.toList_data] at h
    have hne : q.1.data.toList ≠ s.data.toList := by
      have := del_ne hq
      unfold eqF at this
      simpa using this
    refine decide_eq_true ?_
    show s.data.toList < q.1.data.toList
    rcases List.le_total s.data.toList q.1.data.toList with h3 | h3
    · exact Std.lt_of_le_of_ne h3 (Ne.symm hne)
    · exact absurd (Std.lt_of_le_of_ne h3 hne) h
theorem rowF_cells {w : World} {a : Option Addr} {F : Fs} (h : RowF w a F) : ∀ j u, (F.flatMap fileC)[j]? = some u → ∃ b off, a = some ⟨b, off, none⟩ ∧ w.cell? ⟨b, off + j, none⟩ = some u := by
  intro j u hu
  have key : ∀ (G : Fs) (j : Nat) (u : Value), (G.flatMap fileC)[j]? = some u → ∃ i p, G[i]? = some p ∧ ((j = i * 2 ∧ u = .string p.1) ∨ (j = i * 2 + 1 ∧ u = .string ⟨p.2.toArray⟩)) := by
    intro G
    induction G with
    | nil => intro j u h; simp at h
    | cons p r ih =>
      intro j u h
      match j with
      | 0 => exact ⟨0, p, rfl, .inl ⟨rfl, by simpa [fileC] using h.symm⟩⟩
      | 1 => exact ⟨0, p, rfl, .inr ⟨rfl, by simpa [fileC] using h.symm⟩⟩
      | j + 2 =>
        obtain ⟨i, q, hq, hc⟩ := ih j u (by simpa [fileC] using h)
        exact ⟨i + 1, q, by simpa using hq, hc.imp (fun h => ⟨by omega, h.2⟩) (fun h => ⟨by omega, h.2⟩)⟩
  obtain ⟨i, p, hp, hc⟩ := key F j u hu
  obtain ⟨b, o, e, _, h0, h1⟩ := h i p hp
  rcases hc with ⟨rfl, rfl⟩ | ⟨rfl, rfl⟩
  · exact ⟨b, o, e, h0⟩
  · exact ⟨b, o, e, h1⟩
theorem fileC_len (F : Fs) : (F.flatMap fileC).length = F.length * 2 := by
  induction F with
  | nil => rfl
  | cons p r ih => rw [List.flatMap_cons, List.length_append, ih, List.length_cons]; simp [fileC]; omega
theorem fileC_one (F : Fs) : ∀ u ∈ F.flatMap fileC, u.oneCell' = true := by
  intro u hu
  obtain ⟨p, _, hp⟩ := List.mem_flatMap.1 hu
  simp only [fileC, List.mem_cons, List.not_mem_nil, or_false] at hp
  rcases hp with rfl | rfl <;> rfl
theorem RowF.take {w : World} {a : Option Addr} {F : Fs} (h : RowF w a F) (k : Nat) : RowF w a (F.take k) := fun j p hp => by
  rw [List.getElem?_take] at hp
  split at hp
  · exact h j p hp
  · cases hp
theorem RowF.below {w w' : World} {a : Option Addr} {F : Fs} (h : RowF w a F) (hb : Below w.heap.size w w') : RowF w' a F := fun j p hp => by
  obtain ⟨b, o, e, hl, h0, h1⟩ := h j p hp
  exact ⟨b, o, e, Nat.lt_of_lt_of_le hl hb.size, (hb.cell hl).trans h0, (hb.cell hl).trans h1⟩
theorem RowF.grown {w w' : World} {a : Option Addr} {F : Fs} {row : Option Nat} (h : RowF w a F) (hg : w.grownBy w' row) (hr : ∀ g b o, a = some ⟨b, o, none⟩ → row = some g → b ≠ g) : RowF w' a F := fun j p hp => by
  obtain ⟨b, o, e, hl, h0, h1⟩ := h j p hp
  have hb : w'.heap[b]? = w.heap[b]? := hg.block b hl fun e2 => hr b b o e e2.symm rfl
  exact ⟨b, o, e, Nat.lt_of_lt_of_le hl hg.size, (cell_heap hb).trans h0, (cell_heap hb).trans h1⟩
theorem RowF.drop {w : World} {b o : Nat} {F : Fs} (h : RowF w (some ⟨b, o, none⟩) F) (k : Nat) : RowF w (some ⟨b, o + k * 2, none⟩) (F.drop k) := fun j p hp => by
  rw [List.getElem?_drop] at hp
  obtain ⟨b', o', e, hl, h0, h1⟩ := h _ p hp
  cases e
  exact ⟨b, o + k * 2, rfl, hl, by rw [show o + k * 2 + j * 2 = o + (k + j) * 2 by omega]; exact h0, by rw [show o + k * 2 + j * 2 + 1 = o + (k + j) * 2 + 1 by omega]; exact h1⟩
end Go.Proofs.Ytlkgfimignlgaaa
