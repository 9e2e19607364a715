/-
  THE DOCUMENT'S OWN DISK (codicilref06): files in a row of two cells each. CONTRACT of Find.
-/
import Derived.Test.YtlkgfimignlgaaaCDiskTX
set_option linter.unusedSimpArgs false
set_option linter.unusedVariables false
set_option linter.unusedVariables false
set_option linter.unusedSimpArgs false
namespace Go.Proofs.Ytlkgfimignlgaaa
open Go.RowKit
/-- a row of files that may be read -/
def RowF (w : World) (a : Option Addr) (F : Fs) : Prop := ∀ j p, F[j]? = some p → ∃ b o, a = some ⟨b, o, none⟩ ∧ b < w.heap.size ∧ w.cell? ⟨b, o + j * 2, none⟩ = some (.string p.1) ∧ w.cell? ⟨b, o + j * 2 + 1, none⟩ = some (.string ⟨p.2.toArray⟩)
theorem RowF.keep {w w' : World} {a : Option Addr} {F : Fs} {n c : Nat} (h : RowF w a F) (hs : w.heap.size ≤ w'.heap.size) (hk : ∀ j, (Value.slice a n c).ownBlock = some j → w'.heap[j]? = w.heap[j]?) : RowF w' a F := by
  intro j p hp
  obtain ⟨b, o, rfl, hb, h0, h1⟩ := h j p hp
  exact ⟨b, o, rfl, Nat.lt_of_lt_of_le hb hs, (cell_heap (hk b rfl)).trans h0, (cell_heap (hk b rfl)).trans h1⟩
/-- the place of a file; -1: there is none -/
def atF (F : Fs) (s : ByteArray) : Int := match F.findIdx? (eqF s) with
  | some i => (i : Nat)
  | none => -1
theorem eqF_raw (s : ByteArray) (p : ByteArray × List UInt8) : (p.1.toList == s.toList) = eqF s p := by
  unfold eqF
  rw [Lib.toList_data, Lib.toList_data]
set_option maxRecDepth 10000000 in
set_option maxHeartbeats 1000000 in
theorem find_any (F : Fs) (a : Option Addr) (c : Nat) (s : ByteArray) (w : World) (h : RowF w a F) (hn : F.length ≤ 1000000000) :
    Calls Try.prog 54 #[.slice a F.length c, .string s] w fun e w' => e = .returned (.int .i64 (atF F s)) ∧ w' = w := by
  have HF := Lib.hid h
  clear h
  go_enter Try.func54, Try.ntmps54
  go_wp2
  go_loopw [5] (fun v wr => ∃ i : Nat, v = .int .i64 i ∧ i ≤ F.length ∧ (∀ j p, j < i → F[j]? = some p → eqF s p = false) ∧ wr = w) (fun v _ => F.length - (intOf v).toNat)
  case atStart => exact ⟨0, rfl, Nat.zero_le _, fun j p hj => absurd hj (Nat.not_lt_zero j), rfl⟩
  case round =>
    obtain ⟨i, rfl, hi, hno, rfl⟩ := hrel
    have HNO := Lib.hid hno
    clear hno
    by_cases hlt : i < F.length
    · obtain ⟨p, hp⟩ : ∃ p, F[i]? = some p := ⟨_, List.getElem?_eq_getElem hlt⟩
      obtain ⟨b, o, rfl, hb, h0, h1⟩ := HF.out i p hp
      have hki : (i : Int) < (F.length : Int) := by omega
      have hk0 : (0 : Int) ≤ (i : Int) := by omega
      have hraw := eqF_raw s p
      cases he : eqF s p
      · have HN2 : Hid (∀ j q, j < i + 1 → F[j]? = some q → eqF s q = false) := Lib.hid fun j q hj hq => by
          by_cases e : j = i
          · subst e
            rw [hp] at hq
            cases hq
            exact he
          · exact HNO.out j q (by omega) hq
        rw [he] at hraw
        clear he hp hlt
        go_wp2
        go_roundw
        case rel => exact ⟨i + 1, by go_num, by omega, HN2.out, trivial⟩
        case measure => simp [intOf]; omega
      · have hat : atF F s = (i : Nat) := by
          unfold atF
          have : F.findIdx? (eqF s) = some i := by
            rw [List.findIdx?_eq_some_iff_getElem]
            obtain ⟨hl, e⟩ := List.getElem?_eq_some_iff.1 hp
            exact ⟨hl, by rw [e]; exact he, fun j hj => by rw [HNO.out j _ hj (List.getElem?_eq_getElem (by omega))]; decide⟩
          rw [this]
        rw [he] at hraw
        have HAT := Lib.hid hat
        clear he hp hlt hat
        go_wp2
        go_ret
        exact ⟨by rw [HAT.out]; rfl, rfl⟩
    · have hki : ¬ (i : Int) < (F.length : Int) := by omega
      have hat : atF F s = -1 := by
        unfold atF
        have : F.findIdx? (eqF s) = none := by
          rw [List.findIdx?_eq_none_iff]
          intro x hx
          obtain ⟨j, hj, e⟩ := List.getElem_of_mem hx
          exact HNO.out j x (by omega) (by rw [← e]; exact List.getElem?_eq_getElem hj)
        rw [this]
      have HAT := Lib.hid hat
      clear hlt hat
      go_wp2
      go_ret
      exact ⟨by rw [HAT.out]; rfl, rfl⟩
end Go.Proofs.Ytlkgfimignlgaaa
