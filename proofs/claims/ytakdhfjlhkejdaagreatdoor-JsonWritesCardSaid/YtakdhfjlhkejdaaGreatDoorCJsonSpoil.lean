/-
  CONTRACT of codicillaw02.spoil: what is spoilt in a value whose rows lie in some blocks leaves all other blocks alone.
-/
import Derived.Test.YtakdhfjlhkejdaaGreatDoorN3
import Derived.Test.YtakdhfjlhkejdaaGreatDoorCJsonMany
set_option linter.unusedSimpArgs false
set_option linter.unusedVariables false
set_option linter.unusedVariables false
namespace Go.Proofs.YtakdhfjlhkejdaaGreatDoor
open Go.RowKit

/-- of one kind -/
def kin (c c' : Value) : Prop := (∃ a b, c = .int .u8 a ∧ c' = .int .u8 b) ∨ (∃ s t, c = .string s ∧ c' = .string t) ∨ c = c'
theorem kin.refl (c : Value) : kin c c := .inr (.inr rfl)
theorem kin.trans {a b c : Value} (h : kin a b) (k : kin b c) : kin a c := by
  rcases h with ⟨x, y, rfl, rfl⟩ | ⟨x, y, rfl, rfl⟩ | rfl
  · rcases k with ⟨p, q, e, rfl⟩ | ⟨p, q, e, rfl⟩ | rfl
    · exact .inl ⟨_, _, rfl, rfl⟩
    · cases e
    · exact .inl ⟨_, _, rfl, rfl⟩
  · rcases k with ⟨p, q, e, rfl⟩ | ⟨p, q, e, rfl⟩ | rfl
    · cases e
    · exact .inr (.inl ⟨_, _, rfl, rfl⟩)
    · exact .inr (.inl ⟨_, _, rfl, rfl⟩)
  · exact k
theorem kin.slice {a : Option Addr} {n c : Nat} {x : Value} (h : kin (.slice a n c) x) : x = .slice a n c := by
  rcases h with ⟨x, y, e, _⟩ | ⟨x, y, e, _⟩ | rfl
  · cases e
  · cases e
  · rfl
theorem kin.int {n : Int} {x : Value} (h : kin (.int .u8 n) x) : ∃ m, x = .int .u8 m := by
  rcases h with ⟨x, y, _, rfl⟩ | ⟨x, y, e, _⟩ | rfl
  · exact ⟨_, rfl⟩
  · cases e
  · exact ⟨_, rfl⟩
theorem kin.str {s : ByteArray} {x : Value} (h : kin (.string s) x) : ∃ t, x = .string t := by
  rcases h with ⟨x, y, e, _⟩ | ⟨x, y, _, rfl⟩ | rfl
  · cases e
  · exact ⟨_, rfl⟩
  · exact ⟨_, rfl⟩
/-- a world in which some blocks' cells are of the kinds that they were, and all other blocks as they were -/
structure TT (lo hi : Nat) (w w' : World) : Prop where
  os : w'.os = w.os
  tape : w'.tape = w.tape
  output : w'.output = w.output
  size : w.heap.size ≤ w'.heap.size
  out : ∀ j, j < w.heap.size → (j < lo ∨ hi ≤ j) → w'.heap[j]? = w.heap[j]?
  inn : ∀ (a : Addr) (c : Value), lo ≤ a.block → a.block < hi → w.cell? a = some c → ∃ c', w'.cell? a = some c' ∧ kin c c'
  frz : ∀ a : Addr, lo ≤ a.block → a.block < hi → a.block < w.heap.size → w.frozen? a = false → w'.frozen? a = false
theorem TT.trans {lo hi : Nat} {a b c : World} (h : TT lo hi a b) (k : TT lo hi b c) : TT lo hi a c where
  os := k.os.trans h.os
  tape := k.tape.trans h.tape
  output := k.output.trans h.output
  size := Nat.le_trans h.size k.size
  out j hj ho := (k.out j (Nat.lt_of_lt_of_le hj h.size) ho).trans (h.out j hj ho)
  inn p u h1 h2 hu := by
    obtain ⟨v, hv, k1⟩ := h.inn p u h1 h2 hu
    obtain ⟨x, hx, k2⟩ := k.inn p v h1 h2 hv
    exact ⟨x, hx, k1.trans k2⟩
  frz p h1 h2 h3 hf := k.frz p h1 h2 (Nat.lt_of_lt_of_le h3 h.size) (h.frz p h1 h2 h3 hf)
theorem TT.below {lo hi : Nat} {w w' : World} (h : Below w.heap.size w w') : TT lo hi w w' where
  os := h.os
  tape := h.tape
  output := h.output
  size := h.size
  out j hj _ := h.block j hj
  inn p u _ _ hu := ⟨u, (h.cell (cell_lt hu)).trans hu, kin.refl u⟩
  frz p _ _ h3 hf := (h.frozen h3).trans hf
theorem TT.set {lo hi : Nat} {w : World} {p : Addr} {c x : Value} (h1 : lo ≤ p.block) (h2 : p.block < hi) (hc : w.cell? p = some c) (hk : kin c x) : TT lo hi w (w.setCell p x) where
  os := rfl
  tape := rfl
  output := rfl
  size := by simp [World.setCell]
  out j hj ho := Below.heap_setCell _ _ _ _ (by omega)
  inn q u _ _ hu := by
    by_cases e : p = q
    · subst e
      rw [hc] at hu
      cases hu
      exact ⟨x, World.cell?_setCell_same w p x hc, hk⟩
    · exact ⟨u, (World.cell?_setCell_other w p q x e).trans hu, kin.refl u⟩
  frz q _ _ _ hf := (World.frozen?_setCell _ _ _ _).trans hf
/-- a row of texts that may be written -/
def SKeys (w : World) (lo hi n : Nat) (c : Value) : Prop :=
  ∃ a cap, c = .slice a n cap ∧ (n = 0 ∨ ∃ b off, a = some ⟨b, off, none⟩ ∧ lo ≤ b ∧ b < hi ∧ ∀ j, j < n → (∃ s, w.cell? ⟨b, off + j, none⟩ = some (.string s)) ∧ w.frozen? ⟨b, off + j, none⟩ = false)
mutual
/-- a value of a tree's shape, whose rows may be written -/
def SV (w : World) (lo hi : Nat) : JV → Value → Value → Value → Value → Prop
  | .mk _ _ ks l, c0, c1, c2, c3 => (∃ n, c0 = .int .u8 n) ∧ (∃ s, c1 = .string s) ∧ SKeys w lo hi ks.length c2 ∧ ∃ a cap, c3 = .slice a l.length cap ∧ (l = [] ∨ ∃ b off, a = some ⟨b, off, none⟩ ∧ lo ≤ b ∧ b < hi ∧ SRow w lo hi l b off)
def SRow (w : World) (lo hi : Nat) : List JV → Nat → Nat → Prop
  | [], _, _ => True
  | v :: t, b, off => (∃ c0 c1 c2 c3, w.cell? ⟨b, off, none⟩ = some c0 ∧ w.cell? ⟨b, off + 1, none⟩ = some c1 ∧ w.cell? ⟨b, off + 2, none⟩ = some c2 ∧ w.cell? ⟨b, off + 3, none⟩ = some c3 ∧ w.frozen? ⟨b, off, none⟩ = false ∧ SV w lo hi v c0 c1 c2 c3) ∧ SRow w lo hi t b (off + 4)
end
theorem SKeys.kept {lo hi n : Nat} {w w' : World} (h : TT lo hi w w') {c : Value} (hs : SKeys w lo hi n c) : SKeys w' lo hi n c := by
  obtain ⟨a, cap, rfl, hs⟩ := hs
  refine ⟨a, cap, rfl, ?_⟩
  rcases hs with rfl | ⟨b, off, rfl, h1, h2, hs⟩
  · exact .inl rfl
  · refine .inr ⟨b, off, rfl, h1, h2, fun j hj => ?_⟩
    obtain ⟨⟨s, hc⟩, hf⟩ := hs j hj
    obtain ⟨x, hx, hk⟩ := h.inn _ _ h1 h2 hc
    obtain ⟨t, rfl⟩ := hk.str
    exact ⟨⟨t, hx⟩, h.frz _ h1 h2 (cell_lt hc) hf⟩
mutual
theorem SV.kept {lo hi : Nat} {w w' : World} (h : TT lo hi w w') : ∀ (v : JV) (c0 c1 c2 c3 d0 d1 : Value), SV w lo hi v c0 c1 c2 c3 → kin c0 d0 → kin c1 d1 → SV w' lo hi v d0 d1 c2 c3
  | .mk k t ks l, c0, c1, c2, c3, d0, d1, hs, k0, k1 => by
    simp only [SV] at hs ⊢
    obtain ⟨⟨n, rfl⟩, ⟨s, rfl⟩, hk, a, cap, e3, hr⟩ := hs
    refine ⟨k0.int, k1.str, hk.kept h, a, cap, e3, ?_⟩
    rcases hr with hr | ⟨b, off, e, h1, h2, hr⟩
    · exact .inl hr
    · exact .inr ⟨b, off, e, h1, h2, SRow.kept h l b off h1 h2 hr⟩
theorem SRow.kept {lo hi : Nat} {w w' : World} (h : TT lo hi w w') : ∀ (l : List JV) (b off : Nat), lo ≤ b → b < hi → SRow w lo hi l b off → SRow w' lo hi l b off
  | [], _, _, _, _, _ => by simp only [SRow]
  | v :: t, b, off, h1, h2, hs => by
    simp only [SRow] at hs ⊢
    obtain ⟨⟨c0, c1, c2, c3, g0, g1, g2, g3, hf, hv⟩, ht⟩ := hs
    obtain ⟨d0, e0, k0⟩ := h.inn _ _ h1 h2 g0
    obtain ⟨d1, e1, k1⟩ := h.inn _ _ h1 h2 g1
    obtain ⟨d2, e2, k2⟩ := h.inn _ _ h1 h2 g2
    obtain ⟨d3, e3, k3⟩ := h.inn _ _ h1 h2 g3
    have hv2 := SV.kept h v c0 c1 c2 c3 d0 d1 hv k0 k1
    have q2 : d2 = c2 := by
      obtain ⟨_, _, _, _⟩ := v
      simp only [SV] at hv
      obtain ⟨_, _, ⟨_, _, rfl, _⟩, _⟩ := hv
      exact k2.slice
    have q3 : d3 = c3 := by
      obtain ⟨_, _, _, _⟩ := v
      simp only [SV] at hv
      obtain ⟨_, _, _, _, _, rfl, _⟩ := hv
      exact k3.slice
    subst q2
    subst q3
    exact ⟨⟨d0, d1, d2, d3, e0, e1, e2, e3, h.frz _ h1 h2 (cell_lt g0) hf, hv2⟩, SRow.kept h t b (off + 4) h1 h2 ht⟩
end
theorem SRow.at' {w : World} {lo hi : Nat} : ∀ (l : List JV) (b off i : Nat) (v : JV), SRow w lo hi l b off → l[i]? = some v →
    ∃ c0 c1 c2 c3, w.cell? ⟨b, off + i * 4, none⟩ = some c0 ∧ w.cell? ⟨b, off + i * 4 + 1, none⟩ = some c1 ∧ w.cell? ⟨b, off + i * 4 + 2, none⟩ = some c2 ∧ w.cell? ⟨b, off + i * 4 + 3, none⟩ = some c3 ∧ w.frozen? ⟨b, off + i * 4, none⟩ = false ∧ SV w lo hi v c0 c1 c2 c3
  | [], _, _, _, _, _, hi => by simp at hi
  | x :: t, b, off, 0, v, h, hi => by
    simp only [SRow] at h
    simp only [List.getElem?_cons_zero, Option.some.injEq] at hi
    subst hi
    simpa using h.1
  | x :: t, b, off, i + 1, v, h, hi => by
    simp only [SRow] at h
    have := SRow.at' t b (off + 4) i v h.2 (by simpa using hi)
    rw [show off + (i + 1) * 4 = off + 4 + i * 4 by omega]
    exact this
end Go.Proofs.YtakdhfjlhkejdaaGreatDoor
