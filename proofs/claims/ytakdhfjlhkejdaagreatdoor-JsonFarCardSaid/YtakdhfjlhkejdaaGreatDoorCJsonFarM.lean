/-
  MATHEMATICS for codicillaw02.JsonFar: arrays within each other, many values, a long text.
-/
import Derived.Test.YtakdhfjlhkejdaaGreatDoorCJsonRdW
import Derived.Test.YtakdhfjlhkejdaaGreatDoorCJsonRQu
set_option linter.unusedSimpArgs false
set_option linter.unusedVariables false
set_option linter.unusedVariables false
set_option linter.unusedSimpArgs false
namespace Go.Proofs.YtakdhfjlhkejdaaGreatDoor
open Go.RowKit
def deepN : Nat → JV
  | 0 => .mk 6 noText [] []
  | n + 1 => .mk 6 noText [] [deepN n]
theorem noText_size : noText.size = 0 := rfl
theorem deepN_size : ∀ n, sizeV (deepN n) = n + 1 ∧ keysV (deepN n) = 0 ∧ lettV (deepN n) = 0
  | 0 => ⟨rfl, rfl, rfl⟩
  | n + 1 => by
    obtain ⟨h1, h2, h3⟩ := deepN_size n
    simp only [deepN, sizeV, sizeL, keysV, keysL, lettV, lettL, h1, h2, h3, List.length_nil, noText_size]
    exact ⟨trivial, trivial, rfl⟩
def nullV : JV := .mk 1 noText [] []
def manyN (k : Nat) : JV := .mk 6 noText [] (List.replicate k nullV)
theorem manyL_size : ∀ k, sizeL (List.replicate k nullV) = k ∧ keysL (List.replicate k nullV) = 0 ∧ lettL (List.replicate k nullV) = 0
  | 0 => ⟨rfl, rfl, rfl⟩
  | k + 1 => by
    obtain ⟨h1, h2, h3⟩ := manyL_size k
    rw [List.replicate_succ]
    simp only [sizeL, keysL, lettL, h1, h2, h3]
    refine ⟨?_, ?_, ?_⟩
    · show sizeV nullV + k = k + 1
      rw [show sizeV nullV = 1 from rfl]
      omega
    · rfl
    · rfl
theorem manyN_size (k : Nat) : sizeV (manyN k) = k + 1 ∧ keysV (manyN k) = 0 ∧ lettV (manyN k) = 0 := by
  obtain ⟨h1, h2, h3⟩ := manyL_size k
  unfold manyN
  simp only [sizeV, keysV, lettV, h1, h2, h3, List.length_nil, noText_size]
  exact ⟨trivial, trivial, rfl⟩
theorem deepN_bnd {n : Nat} (h : n ≤ 1000) : bndV (deepN n) := by
  obtain ⟨h1, h2, h3⟩ := deepN_size n
  exact bnd_of _ (by unfold maxLen; omega) (by unfold maxLen; omega) (by unfold maxLen; omega)
theorem manyN_bnd {n : Nat} (h : n ≤ 10000) : bndV (manyN n) := by
  obtain ⟨h1, h2, h3⟩ := manyN_size n
  exact bnd_of _ (by unfold maxLen; omega) (by unfold maxLen; omega) (by unfold maxLen; omega)
/-- one more array around -/
theorem deepN_in {w : World} {lo n g : Nat} {c : Value} (h : IsV w lo (deepN n) (.int .u8 (6 : Nat)) (.string ⟨#[]⟩) (.slice none 0 0) c) (hl : lo ≤ g)
    (hg : w.heap[g]? = some (.cells #[.int .u8 (6 : Nat), .string ⟨#[]⟩, .slice none 0 0, c] 26 (0, 0))) :
    IsV w lo (deepN (n + 1)) (.int .u8 (6 : Nat)) (.string ⟨#[]⟩) (.slice none 0 0) (.slice (some ⟨g, 0, none⟩) 1 1) := by
  obtain ⟨x0, x1, x2, x3⟩ := RB.cells (show RB w g _ _ _ _ from hg)
  simp only [deepN, IsV]
  refine ⟨trivial, rfl, ⟨none, 0, rfl, .inl rfl⟩, some ⟨g, 0, none⟩, 1, rfl, .inr ⟨g, 0, rfl, hl, ?_⟩⟩
  simp only [IsRow]
  exact ⟨⟨_, _, _, _, x0, x1, x2, x3, h⟩, trivial⟩
theorem deepN_zero (w : World) (lo : Nat) : IsV w lo (deepN 0) (.int .u8 (6 : Nat)) (.string ⟨#[]⟩) (.slice none 0 0) (.slice none 0 0) := leafV lo 6 ⟨#[]⟩
/-- the rows of cells of so many nulls -/
def nullC (k : Nat) : List Value := (List.replicate k [Value.int .u8 (1 : Nat), .string ⟨#[]⟩, .slice none 0 0, .slice none 0 0]).flatten
theorem nullC_on (k : Nat) : nullC k ++ [Value.int .u8 (1 : Nat), .string ⟨#[]⟩, .slice none 0 0, .slice none 0 0] = nullC (k + 1) := by
  unfold nullC
  rw [List.replicate_succ', List.flatten_append]
  rfl
theorem nullC_ok (w : World) (lo : Nat) : ∀ k, ItemsOK w lo (List.replicate k nullV) (nullC k)
  | 0 => ItemsOK.nil w lo
  | k + 1 => by
    rw [List.replicate_succ', ← nullC_on]
    exact (nullC_ok w lo k).snoc (leafV lo 1 ⟨#[]⟩)
theorem manyN_is {w : World} {lo k : Nat} {c : Value} (h : w.ownsRow lo 26 4 c k (nullC k)) :
    IsV w lo (manyN k) (.int .u8 (6 : Nat)) (.string ⟨#[]⟩) (.slice none 0 0) c := by
  simp only [manyN, IsV]
  refine ⟨trivial, rfl, ⟨none, 0, rfl, .inl rfl⟩, ?_⟩
  rw [List.length_replicate]
  rcases h.2 with ⟨rfl, hn⟩ | ⟨g, cap, cur, rfl, hg, hh, _⟩
  · have : k = 0 := by omega
    subst this
    exact ⟨none, 0, rfl, .inl rfl⟩
  · refine ⟨_, _, rfl, .inr ⟨g, 0, rfl, hg, ItemsOK.row _ (nullC k) 0 (nullC_ok w lo k) fun j u hu => ?_⟩⟩
    rw [Nat.zero_add]
    exact own_cellAt h j u hu
/-! ### A long text -/
def xN (n : Nat) : List UInt8 := List.replicate n 120
def xI (n : Nat) : List Int := List.replicate n 120
theorem xI_str (n : Nat) : strOfNums (xI n) = ⟨(xN n).toArray⟩ := by
  unfold strOfNums xI xN
  rw [List.map_replicate]
  rfl
theorem xN_len (n : Nat) : (xN n).length = n := List.length_replicate
/-- n bytes x, and the rest as it was made -/
def xP (i n : Nat) : List Int := List.replicate i 120 ++ List.replicate (n - i) 0
theorem xP_zero (n : Nat) : xP 0 n = List.replicate n 0 := rfl
theorem xP_all (n : Nat) : xP n n = xI n := by unfold xP xI; rw [Nat.sub_self]; simp
theorem xP_len {i n : Nat} (h : i ≤ n) : (xP i n).length = n := by unfold xP; simp; omega
theorem xP_set {i n : Nat} (h : i < n) : (xP i n).set i 120 = xP (i + 1) n := by
  unfold xP
  rw [List.set_append_right _ _ (by simp), List.length_replicate, Nat.sub_self, show n - i = (n - (i + 1)) + 1 by omega, List.replicate_succ, List.set_cons_zero, List.replicate_succ', List.append_assoc]
  rfl
theorem quoM_x : ∀ n, quoM (xN n) = xN n
  | 0 => rfl
  | n + 1 => by
    have h := quoM_x n
    unfold xN at h ⊢
    rw [List.replicate_succ]
    show quoB 120 ++ quoM (List.replicate n 120) = _
    rw [h]
    rfl
theorem quoL_x (n : Nat) : quoL (xN n) = 34 :: (xN n ++ [34]) := by
  unfold quoL
  rw [quoM_x]
def xT (n : Nat) : ByteArray := ⟨(xN n).toArray⟩
def xQ (n : Nat) : ByteArray := ⟨#[34]⟩ ++ xT n ++ ⟨#[34]⟩
theorem xT_list (n : Nat) : (xT n).data.toList = xN n := rfl
theorem xT_size (n : Nat) : (xT n).size = n := by rw [Lib.size_eq, xT_list, xN_len]
theorem xQ_list (n : Nat) : (xQ n).data.toList = quoL (xT n).data.toList := by
  rw [xT_list, quoL_x]
  unfold xQ
  rw [ByteArray.data_append, ByteArray.data_append, Array.toList_append, Array.toList_append, xT_list]
  rfl
theorem xQ_size (n : Nat) : (xQ n).size = n + 2 := by
  rw [Lib.size_eq, xQ_list, xT_list, quoL_x, List.length_cons, List.length_append, xN_len]
  rfl
theorem xT_valid (n : Nat) : validB (xT n) = true := by
  unfold validB
  have := ascii_valid (xN n) (fun x hx => by rw [List.eq_of_mem_replicate hx]; decide)
  rw [xT_list, Lib.size_eq, xT_list, this]
  exact beq_self_eq_true _
def xV (n : Nat) : JV := .mk 5 (xT n) [] []
theorem xV_check {n : Nat} (h : n ≤ 65534) : checkE (xV n) = 0 := by
  have h1 : formV (xV n) = true := rfl
  have h2 : utfV (xV n) = true := by
    simp only [xV, utfV, utfL, encB, xT_valid]
    rfl
  have h3 : twiceV (xV n) = false := rfl
  have h4 : deepV 0 (xV n) = false := rfl
  have h5 : sizeV (xV n) = 1 := rfl
  have h6 : lettV (xV n) = n := by
    simp only [xV, lettV, lettL, xT_size]
    rfl
  unfold checkE
  rw [h1, h2, h3, h4, h5, h6, if_neg (by decide), if_neg (by decide), if_neg (by decide), if_neg (by decide), if_neg (by omega), if_neg (by omega)]
theorem xQ_read {n : Nat} (h : n ≤ 65534) : readP (xQ n).data.toList = .ok (xV n) := by
  have ht : textV (xV n) = (xQ n).data.toList := by rw [xQ_list]; simp [xV, textV]
  have := back_read (a := []) (b := []) (xV_check h) (fun x hx => by cases hx) (fun x hx => by cases hx) (by rw [List.nil_append, List.append_nil, ht, ← Lib.size_eq, xQ_size]; omega)
  rw [List.nil_append, List.append_nil, ht] at this
  exact this
theorem xQ_long {n : Nat} (h : 65534 < n) : readP (xQ n).data.toList = .error (0, 4) := rd_long (by rw [← Lib.size_eq, xQ_size]; omega)
theorem xQ_eq (n : Nat) : (⟨(quoL (xT n).data.toList).toArray⟩ : ByteArray) = xQ n := by
  rw [← xQ_list]
theorem xQ_quot {n : Nat} (h : n ≤ 65534) : quotS (xT n) = xQ n ∧ quotE (xT n) = 0 := by
  obtain ⟨h1, h2⟩ := quot_good (xT_valid n)
  rw [h1, h2, xQ_eq]
  exact fit_yes (by rw [xQ_size]; omega)
theorem xQ_quotL {n : Nat} (h : 65534 < n) : quotS (xT n) = ⟨#[]⟩ ∧ quotE (xT n) = 4 := by
  obtain ⟨h1, h2⟩ := quot_good (xT_valid n)
  rw [h1, h2, xQ_eq]
  exact fit_no (by rw [xQ_size]; omega)
theorem made_ownQ {w : World} {B g n : Nat} (h : w.ownsRow B 5 1 (.slice (some ⟨g, 0, none⟩) n n) n (madeCells (Value.int .u8 0).cells (n * 1)).toList) :
    OQ 5 .u8 w B (.slice (some ⟨g, 0, none⟩) n n) (xP 0 n) := by
  unfold OQ
  rw [xP_len (Nat.zero_le _), xP_zero, List.map_replicate]
  rw [Nat.mul_one] at h
  have e : (madeCells (Value.int .u8 0).cells n).toList = List.replicate n (Value.int .u8 0) := toList_madeCells_one _ n
  rw [e] at h
  exact h
theorem xP_put {w : World} {B g n i : Nat} (hi : i < n) (h : OQ 5 .u8 w B (.slice (some ⟨g, 0, none⟩) n n) (xP i n)) :
    (∃ x, w.cell? ⟨g, i, none⟩ = some (.int .u8 x)) ∧ w.frozen? ⟨g, i, none⟩ = false ∧ OQ 5 .u8 (w.setCell ⟨g, i, none⟩ (.int .u8 120)) B (.slice (some ⟨g, 0, none⟩) n n) (xP (i + 1) n) := by
  have hl := xP_len (Nat.le_of_lt hi)
  have h' : OQ 5 .u8 w B (.slice (some ⟨g, 0, none⟩) (xP i n).length n) (xP i n) := by rw [hl]; exact h
  have h3 := h'.set i 120
  rw [xP_set hi, xP_len hi] at h3
  exact ⟨⟨_, h'.cell (by omega)⟩, h'.free i, h3⟩
theorem conv_x {w : World} {B n : Nat} {v : Value} (h : OQ 5 .u8 w B v (xP n n)) : (convert 52 9 v).run Tryz.prog w = .ok (.string (xT n)) w := by
  have := conv_ownQ h
  rw [xP_all, xI_str] at this
  exact this
theorem parse_xQ {n : Nat} (h : n ≤ 65534) (w : World) : Calls Tryz.prog 11 #[.string (xQ n)] w fun e w' => ∃ ka kl kc la ll lc, e = .returned (.tuple #[.agg #[.int .u8 5, .string (xT n), .slice ka kl kc, .slice la ll lc], .agg #[.int .i64 0, .int .i64 0]]) ∧ Below w.heap.size w w' := by
  have := parse_any (xQ n) w (by rw [xQ_size]; unfold maxLen; omega)
  rw [xQ_read h] at this
  refine this.mono ?_
  intro e w' hE
  obtain ⟨hb, k, t, ka, kl, kc, la, ll, lc, rfl, hv⟩ := parse_shape hE
  simp only [vR, xV, IsV] at hv
  obtain ⟨hk, ht, _⟩ := hv
  refine ⟨ka, kl, kc, la, ll, lc, ?_, hb⟩
  rw [hk, ht]
  rfl
theorem parse_xL {n : Nat} (h : 65534 < n) (h2 : n ≤ 100000) (w : World) : Calls Tryz.prog 11 #[.string (xQ n)] w fun e w' => e = .returned (.tuple #[.agg #[.int .u8 0, .string ⟨#[]⟩, .slice none 0 0, .slice none 0 0], .agg #[.int .i64 0, .int .i64 4]]) ∧ Below w.heap.size w w' := by
  have := parse_any (xQ n) w (by rw [xQ_size]; unfold maxLen; omega)
  rw [xQ_long h] at this
  refine this.mono ?_
  rintro e w' ⟨hb, rfl⟩
  exact ⟨rfl, hb⟩
/-! ### Two rows that grow side by side -/
structure FarS (w0 : World) (mb : Nat) (wr : World) (i : Nat) (lv : Value) (xs : List Int) (vb : Value) : Prop where
  res : RB wr mb (.int .u8 6) (.string ⟨#[]⟩) (.slice none 0 0) lv
  own : wr.ownsRow (mb + 1) 26 4 lv i (nullC i)
  byt : OQ 5 .u8 wr (mb + 1) vb xs
  apart : ∀ g, lv.ownBlock = some g → vb.ownBlock ≠ some g
  bel : Below w0.heap.size w0 wr
  lt : w0.heap.size ≤ mb
section
variable {w0 wr w3 w4 : World} {mb i : Nat} {lv vb : Value} {xs : List Int}
theorem FarS.item (h : FarS w0 mb wr i lv xs vb) {g cap : Nat} (h23 : Below wr.heap.size wr w3)
    (hgrow : w3.grownBy w4 lv.ownBlock) (hat : lv.ownBlock = some g ∨ g = w3.heap.size)
    (hown : w4.ownsRow (mb + 1) 26 4 (.slice (some ⟨g, 0, none⟩) (i + 1) cap) (i + 1) (nullC i ++ [Value.int .u8 (1 : Nat), .string ⟨#[]⟩, .slice none 0 0, .slice none 0 0])) :
    FarS w0 mb (w4.setCell ⟨mb, 3, none⟩ (.slice (some ⟨g, 0, none⟩) (i + 1) cap)) (i + 1) (.slice (some ⟨g, 0, none⟩) (i + 1) cap) xs vb := by
  have hsz := h.res.lt
  have hs2 := h23.size
  have hs3 := hgrow.size
  have hgl := hown.lt g rfl
  have hown0 : ∀ j, lv.ownBlock = some j → mb + 1 ≤ j ∧ j < wr.heap.size := h.own.lt
  have hbyt0 : ∀ j, vb.ownBlock = some j → mb + 1 ≤ j ∧ j < wr.heap.size := World.ownsRow.lt h.byt
  have hkg : vb.ownBlock ≠ some g := by
    rcases hat with e | e
    · exact h.apart g e
    · intro e2; have := (hbyt0 g e2).2; omega
  have hl1 : ∀ j, some j = lv.ownBlock → mb + 1 ≤ j ∧ j < wr.heap.size := fun j e => hown0 j e.symm
  have hkey : ∀ j, j < wr.heap.size → j ≠ mb → some j ≠ lv.ownBlock → (w4.setCell ⟨mb, 3, none⟩ (.slice (some ⟨g, 0, none⟩) (i + 1) cap)).heap[j]? = wr.heap[j]? := by
    intro j hj h1 h2
    rw [Below.heap_setCell _ _ _ _ h1, hgrow.block j (by omega) h2, h23.block j (by omega)]
  refine ⟨?_, ?_, ?_, ?_, ?_, h.lt⟩
  · refine RB.set3 (c3 := lv) ?_ _
    exact ((hgrow.block _ (by omega) (fun e => by have := (hl1 _ e).1; omega)).trans (h23.block _ (by omega))).trans h.res
  · rw [← nullC_on]
    exact own_kept hown fun j hj => Below.heap_setCell _ _ _ _ (by show j ≠ mb; have e1 : g = j := Option.some.inj hj; have := hgl.1; omega)
  · exact own_kept h.byt fun j hj => hkey j (hbyt0 j hj).2 (by have := (hbyt0 j hj).1; omega) (fun e => h.apart j e.symm hj)
  · intro j hj e
    have := Option.some.inj hj
    subst this
    exact hkg e
  · refine ⟨hgrow.os.trans (h23.os.trans h.bel.os), hgrow.tape.trans (h23.tape.trans h.bel.tape), hgrow.output.trans (h23.output.trans h.bel.output), by have := h.bel.size; rw [set_size]; omega, fun j hj => ?_⟩
    have := h.bel.size
    have := h.lt
    exact (hkey j (by omega) (by omega) (fun e => by have := (hl1 _ e).1; omega)).trans (h.bel.block j hj)
theorem FarS.byte (h : FarS w0 mb wr i lv xs vb) {g cap : Nat} {ys : List Int} (h23 : Below wr.heap.size wr w3)
    (hgrow : w3.grownBy w4 vb.ownBlock) (hat : vb.ownBlock = some g ∨ g = w3.heap.size)
    (hown : OQ 5 .u8 w4 (mb + 1) (.slice (some ⟨g, 0, none⟩) (xs.length + ys.length) cap) (xs ++ ys)) :
    FarS w0 mb w4 i lv (xs ++ ys) (.slice (some ⟨g, 0, none⟩) (xs.length + ys.length) cap) := by
  have hsz := h.res.lt
  have hs2 := h23.size
  have hs3 := hgrow.size
  have hown0 : ∀ j, lv.ownBlock = some j → mb + 1 ≤ j ∧ j < wr.heap.size := h.own.lt
  have hbyt0 : ∀ j, vb.ownBlock = some j → mb + 1 ≤ j ∧ j < wr.heap.size := World.ownsRow.lt h.byt
  have hl1 : ∀ j, some j = vb.ownBlock → mb + 1 ≤ j ∧ j < wr.heap.size := fun j e => hbyt0 j e.symm
  have hkey : ∀ j, j < wr.heap.size → some j ≠ vb.ownBlock → w4.heap[j]? = wr.heap[j]? := by
    intro j hj h2
    rw [hgrow.block j (by omega) h2, h23.block j (by omega)]
  refine ⟨?_, ?_, hown, ?_, ?_, h.lt⟩
  · exact (hkey _ (by omega) (fun e => by have := (hl1 _ e).1; omega)).trans h.res
  · exact own_kept h.own fun j hj => hkey j (hown0 j hj).2 (fun e => h.apart j hj e.symm)
  · intro j hj e
    have e1 : g = j := Option.some.inj e
    rcases hat with e2 | e2
    · exact h.apart j hj (by rw [← e1]; exact e2)
    · have := (hown0 j hj).2; omega
  · refine ⟨hgrow.os.trans (h23.os.trans h.bel.os), hgrow.tape.trans (h23.tape.trans h.bel.tape), hgrow.output.trans (h23.output.trans h.bel.output), by have := h.bel.size; omega, fun j hj => ?_⟩
    have := h.bel.size
    have := h.lt
    exact (hkey j (by omega) (fun e => by have := (hl1 _ e).1; omega)).trans (h.bel.block j hj)
theorem FarS.go (h : FarS w0 mb wr i lv xs vb) (hb : Below wr.heap.size wr w3) : FarS w0 mb w3 i lv xs vb := by
  have hsz := h.res.lt
  refine ⟨(hb.block _ hsz).trans h.res, own_kept h.own fun j hj => hb.block j (h.own.lt j hj).2, own_kept h.byt fun j hj => hb.block j (World.ownsRow.lt h.byt j hj).2, h.apart, h.bel.trans (hb.mono h.bel.size), h.lt⟩
end
end Go.Proofs.YtakdhfjlhkejdaaGreatDoor
