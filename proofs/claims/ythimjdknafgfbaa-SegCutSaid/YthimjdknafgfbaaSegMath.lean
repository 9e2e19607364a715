/-
  PLAIN LEAN, no program: frames of texts, what is read and scanned of bytes, and what turned bits do. No conditions.
-/
import Derived.Test.YthimjdknafgfbaaCrcTurnM
namespace Go.Proofs.Ythimjdknafgfbaa
open Go

def bOf (l : List UInt8) : ByteArray := ⟨l.toArray⟩
theorem bOf_list (l : List UInt8) : (bOf l).data.toList = l := by simp [bOf]
theorem bOf_size (l : List UInt8) : (bOf l).size = l.length := by simp [bOf, ByteArray.size]
theorem bOf_of (s : ByteArray) : bOf s.data.toList = s := by cases s; simp [bOf]
theorem bOf_inj {l m : List UInt8} (h : bOf l = bOf m) : l = m := by rw [← bOf_list l, h, bOf_list]
theorem bOf_app (l m : List UInt8) : bOf l ++ bOf m = bOf (l ++ m) := by
  apply ByteArray.ext
  simp [bOf]
/-- a number's byte -/
def lowAt (x : B32) (i : Nat) : UInt8 := UInt8.ofBitVec ((x >>> (8 * i)).setWidth 8)
theorem lowAt_nat (x : B32) (i : Nat) : (lowAt x i).toNat = x.toNat / 2 ^ (8 * i) % 256 := by
  unfold lowAt
  show ((x >>> (8 * i)).setWidth 8).toNat = _
  rw [BitVec.toNat_setWidth, BitVec.toNat_ushiftRight, Nat.shiftRight_eq_div_pow]
theorem lowAt_xor (x y : B32) (i : Nat) : lowAt (x ^^^ y) i = lowAt x i ^^^ lowAt y i := by
  unfold lowAt
  rw [BitVec.ushiftRight_xor_distrib, BitVec.setWidth_xor]
  rfl
def low4 (x : B32) : List UInt8 := [lowAt x 0, lowAt x 1, lowAt x 2, lowAt x 3]
theorem low4_len (x : B32) : (low4 x).length = 4 := rfl
/-- a number of bytes, the highest first -/
def numN (l : List UInt8) : Nat := l.foldl (fun n b => n * 256 + b.toNat) 0
theorem numN_low4 (x : B32) : numN (low4 x).reverse = x.toNat := by
  simp only [low4, numN, List.reverse_cons, List.reverse_nil, List.nil_append, List.cons_append, List.foldl, lowAt_nat]
  have := x.isLt
  omega
theorem low4_all (a b c d : UInt8) : ∃ y, low4 y = [a, b, c, d] := by
  have ha := a.toNat_lt
  have hb := b.toNat_lt
  have hc := c.toNat_lt
  have hd := d.toNat_lt
  refine ⟨BitVec.ofNat 32 (a.toNat + b.toNat * 256 + c.toNat * 65536 + d.toNat * 16777216), ?_⟩
  have e : (BitVec.ofNat 32 (a.toNat + b.toNat * 256 + c.toNat * 65536 + d.toNat * 16777216)).toNat = a.toNat + b.toNat * 256 + c.toNat * 65536 + d.toNat * 16777216 := by
    rw [BitVec.toNat_ofNat]; omega
  unfold low4
  congr 1
  · apply UInt8.toNat_inj.1; rw [lowAt_nat, e]; omega
  congr 1
  · apply UInt8.toNat_inj.1; rw [lowAt_nat, e]; omega
  congr 1
  · apply UInt8.toNat_inj.1; rw [lowAt_nat, e]; omega
  congr 1
  apply UInt8.toNat_inj.1; rw [lowAt_nat, e]; omega
theorem low4_inj {x y : B32} (h : low4 x = low4 y) : x = y := by
  have := congrArg (fun l => numN l.reverse) h
  simp only [numN_low4] at this
  exact BitVec.eq_of_toNat_eq this
theorem step_xor (r s : B32) (a b : UInt8) : shN 8 (r ^^^ s ^^^ b8 (a ^^^ b)) = shN 8 (r ^^^ b8 a) ^^^ shN 8 (s ^^^ b8 b) := by
  rw [b8_xor, xor4, shN_xor]
theorem reg_low4 (r y : B32) : regF r (low4 y) = shN 32 (r ^^^ y) := by
  rw [regF_lin, low4_len, shN_xor]
  congr 1
  refine lin_ext (fun y => regF 0#32 (low4 y)) (fun y => shN 32 y) (fun x y => ?_) (fun x y => shN_xor 32 x y) ?_ y
  · show regF 0#32 (low4 (x ^^^ y)) = regF 0#32 (low4 x) ^^^ regF 0#32 (low4 y)
    simp only [low4, lowAt_xor, regF]
    have h := step_xor 0#32 0#32
    rw [show (0#32 ^^^ 0#32 : B32) = 0#32 by decide] at h
    have h1 : ∀ c : UInt8, BitVec.ofNat 32 c.toNat = b8 c := fun _ => rfl
    simp only [h1]
    rw [h, step_xor, step_xor, step_xor]
  · decide +kernel
abbrev R0 : B32 := ~~~ 0#32
def resC : B32 := shN 32 (BitVec.allOnes 32)
theorem sum_res (t : List UInt8) : regF R0 (t ++ low4 (moreB 0#32 t)) = resC := by
  rw [regF_app, reg_low4]
  unfold moreB resC
  rw [not_eq (regF _ t)]
  generalize regF _ t = R
  rw [← BitVec.xor_assoc, BitVec.xor_self, BitVec.zero_xor]
theorem res_sum {t m : List UInt8} (hm : m.length = 4) (h : regF R0 (t ++ m) = resC) : m = low4 (moreB 0#32 t) := by
  obtain ⟨a, b, c, d, rfl⟩ : ∃ a b c d, m = [a, b, c, d] := by
    match m, hm with
    | [a, b, c, d], _ => exact ⟨a, b, c, d, rfl⟩
  obtain ⟨y, hy⟩ := low4_all a b c d
  rw [← hy] at h ⊢
  rw [regF_app, reg_low4] at h
  congr 1
  unfold moreB
  unfold resC at h
  generalize regF _ t = R at h ⊢
  have h2 : shN 32 (R ^^^ y ^^^ BitVec.allOnes 32) = 0#32 := by rw [shN_xor, h, BitVec.xor_self]
  have h3 := shN_ne 32 h2
  rw [not_eq]
  have := congrArg (fun z => R ^^^ z) h3
  simp only [BitVec.xor_zero] at this
  rw [← this, BitVec.xor_assoc R y, ← BitVec.xor_assoc R R, BitVec.xor_self, BitVec.zero_xor, BitVec.xor_assoc, BitVec.xor_self, BitVec.xor_zero]
/-- bytes that end in the sum of what stands ahead -/
def holdsL (l : List UInt8) : Bool := decide (regF R0 l = resC)
theorem holds_iff {t m : List UInt8} (hm : m.length = 4) : holdsL (t ++ m) = decide (m = low4 (moreB 0#32 t)) := by
  unfold holdsL
  apply decide_eq_decide.2
  exact ⟨res_sum hm, fun h => by rw [h]; exact sum_res t⟩
/-- a text, and its sum -/
def withSum (t : List UInt8) : List UInt8 := t ++ low4 (moreB 0#32 t)
theorem withSum_len (t : List UInt8) : (withSum t).length = t.length + 4 := by simp [withSum, low4_len]
theorem withSum_holds (t : List UInt8) : holdsL (withSum t) = true := by unfold holdsL withSum; rw [sum_res]; simp
def headL (n : Nat) : List UInt8 := (low4 (BitVec.ofNat 32 n)).reverse
theorem headL_len (n : Nat) : (headL n).length = 4 := by simp [headL, low4_len]
theorem numN_head {n : Nat} (h : n < 4294967296) : numN (headL n) = n := by
  unfold headL
  rw [numN_low4, BitVec.toNat_ofNat]
  omega
def frameL (t : List UInt8) : List UInt8 := withSum (headL t.length) ++ withSum t
theorem frameL_len (t : List UInt8) : (frameL t).length = t.length + 12 := by
  unfold frameL
  rw [List.length_append, withSum_len, withSum_len, headL_len]
  omega
/-- what is read: the text, the bytes of its frame, the error -/
def readL (l : List UInt8) : List UInt8 × Nat × Int :=
  if l.length < 8 then ([], 0, 70)
  else if holdsL (l.take 8) = false then ([], 0, 71)
  else if 16384 < numN (l.take 4) then ([], 0, 4)
  else if l.length < numN (l.take 4) + 12 then ([], 0, 70)
  else if holdsL ((l.drop 8).take (numN (l.take 4) + 4)) = false then ([], 0, 71)
  else ((l.drop 8).take (numN (l.take 4)), numN (l.take 4) + 12, 0)
theorem read_ok {l : List UInt8} (h : (readL l).2.2 = 0) : 12 ≤ (readL l).2.1 ∧ (readL l).2.1 ≤ l.length ∧ (readL l).2.1 = (readL l).1.length + 12 := by
  unfold readL at h ⊢
  split at h
  · cases h
  rename_i h8
  rw [if_neg h8]
  split at h
  · cases h
  rename_i h1
  rw [if_neg h1]
  split at h
  · cases h
  rename_i h2
  rw [if_neg h2]
  split at h
  · cases h
  rename_i h3
  rw [if_neg h3]
  split at h
  · cases h
  rename_i h4
  rw [if_neg h4]
  refine ⟨by simp, by simp; omega, ?_⟩
  simp only [List.length_take, List.length_drop]
  omega
theorem read_err (l : List UInt8) : (readL l).2.2 = 0 ∨ (readL l).2.2 = 4 ∨ (readL l).2.2 = 70 ∨ (readL l).2.2 = 71 := by
  unfold readL
  repeat' split
  all_goals simp
theorem read_lens (l : List UInt8) : (readL l).1.length ≤ l.length ∧ (readL l).2.1 ≤ l.length := by
  unfold readL
  split
  · simp
  split
  · simp
  split
  · simp
  split
  · simp
  split
  · simp
  · simp only [List.length_take, List.length_drop]
    omega
def scanF : Nat → List UInt8 → List (List UInt8) × Nat × Int
  | 0, _ => ([], 0, 0)
  | f + 1, l =>
    if l = [] then ([], 0, 0)
    else if (readL l).2.2 = 0 then
      ((readL l).1 :: (scanF f (l.drop (readL l).2.1)).1, (readL l).2.1 + (scanF f (l.drop (readL l).2.1)).2.1, (scanF f (l.drop (readL l).2.1)).2.2)
    else ([], 0, (readL l).2.2)
def scanL (l : List UInt8) : List (List UInt8) × Nat × Int := scanF l.length l
theorem scanF_on : ∀ (f : Nat) (l : List UInt8), l.length ≤ f → scanF f l = scanL l := by
  have key : ∀ (n f g : Nat) (l : List UInt8), l.length ≤ n → l.length ≤ f → l.length ≤ g → scanF f l = scanF g l := by
    intro n
    induction n with
    | zero =>
      intro f g l h _ _
      have : l = [] := List.eq_nil_of_length_eq_zero (by omega)
      subst this
      cases f <;> cases g <;> simp [scanF]
    | succ n ih =>
      intro f g l h hf hg
      by_cases h0 : l = []
      · subst h0
        cases f <;> cases g <;> simp [scanF]
      · have hl : 0 < l.length := List.length_pos_iff.2 h0
        obtain ⟨f, rfl⟩ : ∃ k, f = k + 1 := ⟨f - 1, by omega⟩
        obtain ⟨g, rfl⟩ : ∃ k, g = k + 1 := ⟨g - 1, by omega⟩
        rw [scanF, scanF, if_neg h0, if_neg h0]
        split
        · rename_i he
          have hr := read_ok he
          have := ih f g (l.drop (readL l).2.1) (by rw [List.length_drop]; omega) (by rw [List.length_drop]; omega) (by rw [List.length_drop]; omega)
          rw [this]
        · rfl
  intro f l h
  exact key l.length f l.length l (Nat.le_refl _) h (Nat.le_refl _)
theorem scan_nil : scanL [] = ([], 0, 0) := rfl
theorem scan_ok {l : List UInt8} (h : (readL l).2.2 = 0) :
    scanL l = ((readL l).1 :: (scanL (l.drop (readL l).2.1)).1, (readL l).2.1 + (scanL (l.drop (readL l).2.1)).2.1, (scanL (l.drop (readL l).2.1)).2.2) := by
  have hr := read_ok h
  have h0 : l ≠ [] := by intro e; rw [e] at hr; simp at hr; omega
  obtain ⟨k, hk⟩ : ∃ k, l.length = k + 1 := ⟨l.length - 1, by omega⟩
  have e : scanL l = scanF (k + 1) l := by unfold scanL; rw [hk]
  rw [e, scanF, if_neg h0, if_pos h, scanF_on k _ (by rw [List.length_drop]; omega)]
theorem scan_bad {l : List UInt8} (h0 : l ≠ []) (h : (readL l).2.2 ≠ 0) : scanL l = ([], 0, (readL l).2.2) := by
  have hl : 0 < l.length := List.length_pos_iff.2 h0
  obtain ⟨k, hk⟩ : ∃ k, l.length = k + 1 := ⟨l.length - 1, by omega⟩
  have e : scanL l = scanF (k + 1) l := by unfold scanL; rw [hk]
  rw [e, scanF, if_neg h0, if_neg h]
theorem scan_good : ∀ (n : Nat) (l : List UInt8), l.length ≤ n → (scanL l).2.1 ≤ l.length := by
  intro n
  induction n with
  | zero =>
    intro l h
    have : l = [] := List.eq_nil_of_length_eq_zero (by omega)
    subst this
    rw [scan_nil]
    simp
  | succ n ih =>
    intro l h
    by_cases h0 : l = []
    · subst h0; rw [scan_nil]; simp
    by_cases he : (readL l).2.2 = 0
    · have hr := read_ok he
      rw [scan_ok he]
      have := ih (l.drop (readL l).2.1) (by rw [List.length_drop]; omega)
      rw [List.length_drop] at this
      show (readL l).2.1 + _ ≤ _
      omega
    · rw [scan_bad h0 he]
      simp
theorem take_app_le {A B : List UInt8} {n : Nat} (h : n ≤ A.length) : (A ++ B).take n = A.take n := List.take_append_of_le_length h
/-- a frame's parts -/
theorem frame_take8 (t m : List UInt8) : (frameL t ++ m).take 8 = withSum (headL t.length) := by
  unfold frameL
  rw [List.append_assoc]
  have : (withSum (headL t.length)).length = 8 := by rw [withSum_len, headL_len]
  rw [← this, List.take_left]
theorem frame_take4 (t m : List UInt8) : (frameL t ++ m).take 4 = headL t.length := by
  unfold frameL withSum
  rw [List.append_assoc, List.append_assoc]
  have : (headL t.length).length = 4 := headL_len _
  conv => lhs; rw [← this, List.take_left]
theorem frame_drop8 (t m : List UInt8) : (frameL t ++ m).drop 8 = withSum t ++ m := by
  unfold frameL
  rw [List.append_assoc]
  have : (withSum (headL t.length)).length = 8 := by rw [withSum_len, headL_len]
  rw [← this, List.drop_left]
theorem read_frame {t : List UInt8} (ht : t.length ≤ 16384) (m : List UInt8) : readL (frameL t ++ m) = (t, t.length + 12, 0) := by
  have hl : (frameL t ++ m).length = t.length + 12 + m.length := by rw [List.length_append, frameL_len]
  unfold readL
  rw [frame_take8, frame_take4, frame_drop8, numN_head (by omega), hl, if_neg (by omega), withSum_holds, if_neg (by simp), if_neg (by omega), if_neg (by omega)]
  have e1 : (withSum t ++ m).take (t.length + 4) = withSum t := by rw [← withSum_len t, List.take_left]
  rw [e1, withSum_holds, if_neg (by simp)]
  unfold withSum
  rw [List.append_assoc, List.take_left]
theorem scan_frame {t : List UInt8} (ht : t.length ≤ 16384) (m : List UInt8) : scanL (frameL t ++ m) = (t :: (scanL m).1, t.length + 12 + (scanL m).2.1, (scanL m).2.2) := by
  have hr := read_frame ht m
  have hd : (frameL t ++ m).drop (t.length + 12) = m := by rw [← frameL_len t, List.drop_left]
  rw [scan_ok (by rw [hr]), hr]
  simp only
  rw [hd]
def framesL (ts : List (List UInt8)) : List UInt8 := (ts.map frameL).flatten
theorem framesL_cons (t : List UInt8) (ts : List (List UInt8)) : framesL (t :: ts) = frameL t ++ framesL ts := by simp [framesL]
theorem framesL_snoc (ts : List (List UInt8)) (t : List UInt8) : framesL (ts ++ [t]) = framesL ts ++ frameL t := by simp [framesL]
theorem scan_frames : ∀ (ts : List (List UInt8)), (∀ t ∈ ts, t.length ≤ 16384) → ∀ m, scanL (framesL ts ++ m) = (ts ++ (scanL m).1, (framesL ts).length + (scanL m).2.1, (scanL m).2.2)
  | [], _, m => by simp [framesL]
  | t :: ts, h, m => by
    rw [framesL_cons, List.append_assoc, scan_frame (h t (by simp)), scan_frames ts (fun x hx => h x (by simp [hx]))]
    simp only [List.cons_append, List.length_append, frameL_len, Nat.add_assoc]
/-- what is read of a frame that was cut off -/
theorem read_cut {t : List UInt8} (ht : t.length ≤ 16384) {n : Nat} (hn : n < t.length + 12) : readL ((frameL t).take n) = ([], 0, 70) := by
  have hl : ((frameL t).take n).length = n := by rw [List.length_take, frameL_len]; omega
  have h8 := frame_take8 t []
  have h4 := frame_take4 t []
  rw [List.append_nil] at h8 h4
  unfold readL
  rw [hl]
  by_cases h : n < 8
  · rw [if_pos h]
  rw [if_neg h, List.take_take, List.take_take, Nat.min_eq_left (by omega), Nat.min_eq_left (by omega), h8, h4, withSum_holds, if_neg (by simp), numN_head (by omega), if_neg (by omega), if_pos hn]
theorem scan_cut : ∀ (ts : List (List UInt8)), (∀ t ∈ ts, t.length ≤ 16384) → ∀ n, n ≤ (framesL ts).length →
    (scanL ((framesL ts).take n)).1.length ≤ ts.length ∧ (scanL ((framesL ts).take n)).1 = ts.take (scanL ((framesL ts).take n)).1.length ∧ (scanL ((framesL ts).take n)).2.1 ≤ n ∧
    ((scanL ((framesL ts).take n)).2.2 = 0 ↔ (scanL ((framesL ts).take n)).2.1 = n) ∧ ((scanL ((framesL ts).take n)).2.2 = 0 ∨ (scanL ((framesL ts).take n)).2.2 = 70) ∧
    ((scanL ((framesL ts).take n)).1.length < ts.length → n - (scanL ((framesL ts).take n)).2.1 < 12 + (ts.getD (scanL ((framesL ts).take n)).1.length []).length) ∧
    (n = (framesL ts).length → (scanL ((framesL ts).take n)).1.length = ts.length)
  | [], _, n, hn => by
    have : n = 0 := by simpa [framesL] using hn
    subst this
    simp [framesL, scan_nil]
  | t :: ts, h, n, hn => by
    have ht := h t (by simp)
    have hlen : (framesL (t :: ts)).length = t.length + 12 + (framesL ts).length := by rw [framesL_cons, List.length_append, frameL_len]
    by_cases hw : t.length + 12 ≤ n
    · have e : (framesL (t :: ts)).take n = frameL t ++ (framesL ts).take (n - (t.length + 12)) := by
        rw [framesL_cons, List.take_append, frameL_len, List.take_of_length_le (by rw [frameL_len]; exact hw)]
      have ih := scan_cut ts (fun x hx => h x (by simp [hx])) (n - (t.length + 12)) (by omega)
      rw [e, scan_frame ht, hlen]
      generalize scanL ((framesL ts).take (n - (t.length + 12))) = r at ih ⊢
      obtain ⟨i1, i2, i3, i4, i5, i6, i7⟩ := ih
      simp only [List.length_cons, List.take_succ_cons, List.getD_cons_succ]
      refine ⟨by omega, by rw [← i2], by omega, ?_, i5, fun hh => ?_, fun hh => ?_⟩
      · rw [i4]; omega
      · have := i6 (by omega); omega
      · rw [i7 (by omega)]
    · have e : (framesL (t :: ts)).take n = (frameL t).take n := by
        rw [framesL_cons, take_app_le (by rw [frameL_len]; omega)]
      rw [e, hlen]
      by_cases h0 : n = 0
      · subst h0
        rw [List.take_zero, scan_nil]
        simp
        omega
      · have hne : (frameL t).take n ≠ [] := by
          intro e2
          have := congrArg List.length e2
          rw [List.length_take, frameL_len] at this
          simp at this
          omega
        have hr := read_cut ht (n := n) (by omega)
        rw [scan_bad hne (by rw [hr]; simp), hr]
        simp
        refine ⟨by omega, by omega, fun hh => ?_⟩
        omega
/-! ### Bits that are turned -/
def turnF (l : List UInt8) (F : Nat) (x : B32) : Nat → List UInt8
  | 0 => l
  | j + 1 => if x.getLsbD j then (turnF l F x j).modify ((F + j) / 8) (· ^^^ UInt8.ofNat (2 ^ ((F + j) % 8))) else turnF l F x j
theorem turnF_len (l : List UInt8) (F : Nat) (x : B32) : ∀ j, (turnF l F x j).length = l.length
  | 0 => rfl
  | j + 1 => by
    rw [turnF]
    split
    · rw [List.length_modify, turnF_len l F x j]
    · exact turnF_len l F x j
theorem take_mod (f : UInt8 → UInt8) : ∀ (l : List UInt8) (q k : Nat), (l.modify q f).take k = (l.take k).modify q f
  | [], q, k => by cases q <;> simp
  | a :: l, 0, k => by cases k <;> simp
  | a :: l, q + 1, k => by
    cases k with
    | zero => simp
    | succ k => simp [take_mod f l q k]
theorem mod_app (f : UInt8 → UInt8) : ∀ (A B : List UInt8) (q : Nat), A.length ≤ q → (A ++ B).modify q f = A ++ B.modify (q - A.length) f
  | [], B, q, _ => by simp
  | a :: A, B, q, h => by
    obtain ⟨q, rfl⟩ : ∃ k, q = k + 1 := ⟨q - 1, by simp at h; omega⟩
    simp only [List.cons_append, List.modify_succ_cons, List.length_cons, Nat.add_sub_add_right]
    rw [mod_app f A B q (by simp at h; omega)]
theorem mod_set (f : UInt8 → UInt8) : ∀ (l : List UInt8) (q : Nat) (h : q < l.length), l.modify q f = l.set q (f l[q])
  | a :: l, 0, h => by simp
  | a :: l, q + 1, h => by simp [mod_set f l q (by simpa using h)]
theorem mod_far (f : UInt8 → UInt8) : ∀ (l : List UInt8) (q : Nat), l.length ≤ q → l.modify q f = l
  | [], q, h => by cases q <;> simp
  | a :: l, 0, h => by simp at h
  | a :: l, q + 1, h => by simp [mod_far f l q (by simpa using h)]
theorem turnF_take (l : List UInt8) (F : Nat) (x : B32) (k : Nat) : ∀ j, (turnF l F x j).take k = turnF (l.take k) F x j
  | 0 => rfl
  | j + 1 => by
    rw [turnF, turnF]
    split
    · rw [take_mod, turnF_take l F x k j]
    · exact turnF_take l F x k j
theorem turnF_app (A B : List UInt8) (F : Nat) (x : B32) (h : 8 * A.length ≤ F) : ∀ j, turnF (A ++ B) F x j = A ++ turnF B (F - 8 * A.length) x j
  | 0 => rfl
  | j + 1 => by
    rw [turnF, turnF]
    split
    · rw [turnF_app A B F x h j, mod_app _ _ _ _ (by omega), show (F + j) / 8 - A.length = (F - 8 * A.length + j) / 8 by omega, show (F + j) % 8 = (F - 8 * A.length + j) % 8 by omega]
    · exact turnF_app A B F x h j
theorem reg_turn (R : B32) (l : List UInt8) (F : Nat) (x : B32) (hF : F < 8 * l.length) : ∀ j, j ≤ 32 → regF R (turnF l F x j) = regF R l ^^^ shN (8 * l.length - F) (lowB x (min j (8 * l.length - F)))
  | 0, _ => by simp [turnF, lowB, shN_zero]
  | j + 1, hj => by
    have ih := reg_turn R l F x hF j (by omega)
    by_cases hin : F + j < 8 * l.length
    · rw [Nat.min_eq_left (by omega)] at ih ⊢
      by_cases hx : x.getLsbD j = true
      · have hq : (F + j) / 8 < (turnF l F x j).length := by rw [turnF_len]; omega
        have hl := turnF_len l F x j
        rw [turnF, if_pos hx, mod_set _ _ _ hq]
        have := turn_on (l := turnF l F x j) (R := R) (S := regF R l) (F := F) (j := j) (x := x) (q := (F + j) / 8) (r := (F + j) % 8) (by rw [hl]; exact ih) (by omega) hx hq (by omega) (by omega)
        rw [hl] at this
        exact this
      · rw [turnF, if_neg hx, ih, lowB, if_neg hx]
    · rw [show min (j + 1) (8 * l.length - F) = min j (8 * l.length - F) by omega, ← ih, turnF]
      split
      · rw [mod_far _ _ _ (by rw [turnF_len]; omega)]
      · rfl
theorem lowB_odd {x : B32} (hx : x.getLsbD 0 = true) : ∀ k, 0 < k → k ≤ 32 → (lowB x k).getLsbD 0 = true
  | 1, _, _ => by rw [lowB, if_pos hx, lowB]; decide
  | k + 2, _, h => by
    rw [lowB]
    have ih := lowB_odd hx (k + 1) (by omega) (by omega)
    split
    · rw [BitVec.getLsbD_xor, ih, BitVec.getLsbD_shiftLeft]
      simp
    · exact ih
/-- what was whole is told, whatever was turned -/
theorem turned_tells {l : List UInt8} {F : Nat} {x : B32} (hl : holdsL l = true) (hF : F < 8 * l.length) (hx : x.getLsbD 0 = true) : holdsL (turnF l F x 32) = false := by
  unfold holdsL at hl ⊢
  have h1 := of_decide_eq_true hl
  apply decide_eq_false
  rw [reg_turn R0 l F x hF 32 (Nat.le_refl _), h1]
  intro e
  have e2 := congrArg (fun z => resC ^^^ z) e
  simp only [← BitVec.xor_assoc, BitVec.xor_self, BitVec.zero_xor] at e2
  have e3 := shN_ne _ e2
  have e4 := lowB_odd hx (min 32 (8 * l.length - F)) (by omega) (by omega)
  rw [e3] at e4
  simp at e4
theorem scan_turned {x : B32} (hx : x.getLsbD 0 = true) : ∀ (ts : List (List UInt8)), (∀ t ∈ ts, t.length ≤ 16384) → ∀ F, F < 8 * (framesL ts).length →
    (scanL (turnF (framesL ts) F x 32)).2.2 = 71 ∧ (scanL (turnF (framesL ts) F x 32)).2.1 ≤ F / 8 ∧ (scanL (turnF (framesL ts) F x 32)).1.length < ts.length ∧
    (scanL (turnF (framesL ts) F x 32)).1 = ts.take (scanL (turnF (framesL ts) F x 32)).1.length
  | [], _, F, hF => by simp [framesL] at hF
  | t :: ts, h, F, hF => by
    have ht := h t (by simp)
    rw [framesL_cons, List.length_append, frameL_len] at hF
    rw [framesL_cons]
    by_cases hw : 8 * (t.length + 12) ≤ F
    · rw [turnF_app _ _ _ _ (by rw [frameL_len]; exact hw), frameL_len, scan_frame ht]
      have ih := scan_turned hx ts (fun y hy => h y (by simp [hy])) (F - 8 * (t.length + 12)) (by omega)
      generalize scanL (turnF (framesL ts) (F - 8 * (t.length + 12)) x 32) = r at ih ⊢
      obtain ⟨i1, i2, i3, i4⟩ := ih
      simp only [List.length_cons, List.take_succ_cons]
      exact ⟨i1, by omega, by omega, by rw [← i4]⟩
    · have hlen : (turnF (frameL t ++ framesL ts) F x 32).length = t.length + 12 + (framesL ts).length := by rw [turnF_len, List.length_append, frameL_len]
      have hne : turnF (frameL t ++ framesL ts) F x 32 ≠ [] := by
        intro e
        rw [e] at hlen
        simp at hlen
        omega
      have hr : readL (turnF (frameL t ++ framesL ts) F x 32) = ([], 0, 71) := by
        unfold readL
        rw [hlen, if_neg (by omega)]
        by_cases h64 : F < 64
        · rw [turnF_take, frame_take8, turned_tells (withSum_holds _) (by rw [withSum_len, headL_len]; exact h64) hx, if_pos rfl]
        · have hs : frameL t ++ framesL ts = withSum (headL t.length) ++ (withSum t ++ framesL ts) := by unfold frameL; rw [List.append_assoc]
          have h8 : (withSum (headL t.length)).length = 8 := by rw [withSum_len, headL_len]
          have e1 : turnF (frameL t ++ framesL ts) F x 32 = withSum (headL t.length) ++ turnF (withSum t ++ framesL ts) (F - 64) x 32 := by
            rw [hs, turnF_app _ _ _ _ (by rw [h8]; omega), h8]
          have e2 : (turnF (frameL t ++ framesL ts) F x 32).take 8 = withSum (headL t.length) := by rw [e1, ← h8, List.take_left]
          have e3 : (turnF (frameL t ++ framesL ts) F x 32).take 4 = headL t.length := by
            rw [e1]
            unfold withSum
            rw [List.append_assoc]
            conv => lhs; rw [← headL_len t.length, List.take_left]
          have e4 : (turnF (frameL t ++ framesL ts) F x 32).drop 8 = turnF (withSum t ++ framesL ts) (F - 64) x 32 := by rw [e1, ← h8, List.drop_left]
          rw [e2, e3, e4, withSum_holds, if_neg (by simp), numN_head (by omega), if_neg (by omega), if_neg (by omega), turnF_take, ← withSum_len t, List.take_left,
            turned_tells (withSum_holds _) (by rw [withSum_len]; omega) hx, if_pos rfl]
      rw [scan_bad hne (by rw [hr]; simp), hr]
      simp
end Go.Proofs.Ythimjdknafgfbaa
