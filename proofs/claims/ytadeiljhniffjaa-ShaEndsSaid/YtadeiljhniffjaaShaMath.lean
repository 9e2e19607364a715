/-
  PLAIN LEAN, no program: SHA-256 over lists of numbers, in the forms in which a walk spells the operations. No conditions.
-/
import Derived.Laws.BytesArg
import Derived.KernelRfl
import Derived.Lib.Strings
namespace Go.Proofs.Ytadeiljhniffjaa
open Go

def byI (s : ByteArray) (k : Nat) : Int := ((s.data.toList.getD k 0).toNat : Int)
def rotI (x n : Int) : Int := bits .or .u32 (x / 2 ^ n.toNat) (IntKind.u32.wrap (x * 2 ^ (32 - n).toNat))

theorem take_set_on {L : List Int} {t : Nat} {v : Int} (h : t < L.length) : (L.set t v).take (t + 1) = L.take t ++ [v] := by
  rw [List.take_add_one, List.take_set_of_le (Nat.le_refl t), List.getElem?_set_self h]
  rfl
theorem getD_take' {L M : List Int} {t j : Nat} (h : L.take t = M) (hj : j < t) : L.getD j 0 = M.getD j 0 := by
  subst h
  rw [List.getD_eq_getElem?_getD, List.getD_eq_getElem?_getD, List.getElem?_take_of_lt hj]
/-- four bytes as a number, the highest first -/
def be4 (a b c d : Int) : Int := bits .or .u32 (bits .or .u32 (bits .or .u32 (a % 4294967296 * 16777216 % 4294967296) (b % 4294967296 * 65536 % 4294967296)) (c % 4294967296 * 256 % 4294967296)) (d % 4294967296)
def beI (s : ByteArray) (t : Nat) : Int := be4 (byI s (4 * t)) (byI s (4 * t + 1)) (byI s (4 * t + 2)) (byI s (4 * t + 3))
def w16 (s : ByteArray) (t : Nat) : List Int := (List.range t).map (beI s)
theorem w16_on (s : ByteArray) (t : Nat) : w16 s t ++ [beI s t] = w16 s (t + 1) := by
  unfold w16
  rw [List.range_succ, List.map_append]
  rfl
theorem ext_byte {s b : ByteArray} {p q i : Nat} (hb : b = s.extract p q) (h : i < b.size) : ((b[i]'h).toNat : Int) = byI s (p + i) := by
  subst hb
  have e : (s.extract p q)[i]'h = (s.extract p q).data.toList.getD i 0 := by
    rw [List.getD_eq_getElem?_getD, List.getElem?_eq_getElem (by rw [← Lib.size_eq]; exact h)]
    rfl
  have hi : i < q - p := by
    rw [ByteArray.size_extract] at h
    omega
  rw [e]
  unfold byI
  rw [ByteArray.data_extract, Array.toList_extract, List.extract_eq_take_drop]
  rw [List.getD_eq_getElem?_getD, List.getElem?_take_of_lt hi, List.getElem?_drop, List.getD_eq_getElem?_getD]
theorem be_ext {s b : ByteArray} {t : Nat} (hb : b = s.extract (4 * t) (4 * (t + 1))) (h0 : 0 < b.size) (h1 : 1 < b.size) (h2 : 2 < b.size) (h3 : 3 < b.size) :
    be4 ((b[0]'h0).toNat : Int) ((b[1]'h1).toNat : Int) ((b[2]'h2).toNat : Int) ((b[3]'h3).toNat : Int) = beI s t := by
  rw [ext_byte hb h0, ext_byte hb h1, ext_byte hb h2, ext_byte hb h3]
  rfl
def s0I (x : Int) : Int := bits .xor .u32 (bits .xor .u32 (rotI x 7) (rotI x 18)) (x / 8)
def s1I (x : Int) : Int := bits .xor .u32 (bits .xor .u32 (rotI x 17) (rotI x 19)) (x / 1024)
/-- one word more -/
def nextW (L : List Int) : Int := (s1I (L.getD (L.length - 2) 0) + L.getD (L.length - 7) 0 + s0I (L.getD (L.length - 15) 0) + L.getD (L.length - 16) 0) % 4294967296
def oneW (L : List Int) : List Int := L ++ [nextW L]
def wordsN : Nat → List Int → List Int
  | 0, L => L
  | n + 1, L => oneW (wordsN n L)
theorem wordsN_len : ∀ (n : Nat) (L : List Int), (wordsN n L).length = L.length + n
  | 0, L => rfl
  | n + 1, L => by rw [wordsN, oneW, List.length_append, wordsN_len n L]; rfl
theorem oneW_at {L M : List Int} {m : Nat} (hM : L.take (m + 16) = M) (hL : m + 16 ≤ L.length) :
    (s1I (L.getD (m + 14) 0) + L.getD (m + 9) 0 + s0I (L.getD (m + 1) 0) + L.getD m 0) % 4294967296 = nextW M := by
  have hl : M.length = m + 16 := by rw [← hM, List.length_take]; omega
  unfold nextW
  rw [hl, getD_take' hM (by omega : m + 14 < m + 16), getD_take' hM (by omega : m + 9 < m + 16), getD_take' hM (by omega : m + 1 < m + 16), getD_take' hM (by omega : m < m + 16)]
  rfl
def nt32 (e : Int) : Int := bits .xor .u32 (if IntKind.u32.signed = true then -1 else IntKind.u32.max) e
def t1F (e f g h k x : Int) : Int := (h + bits .xor .u32 (bits .xor .u32 (rotI e 6) (rotI e 11)) (rotI e 25) + bits .xor .u32 (bits .and .u32 e f) (bits .and .u32 (nt32 e) g) + k + x) % 4294967296
def t2F (a b c : Int) : Int := (bits .xor .u32 (bits .xor .u32 (rotI a 2) (rotI a 13)) (rotI a 22) + bits .xor .u32 (bits .xor .u32 (bits .and .u32 a b) (bits .and .u32 a c)) (bits .and .u32 b c)) % 4294967296
/-- one round -/
def rnd (k x : Int) : List Int → List Int
  | [a, b, c, d, e, f, g, h] => [(t1F e f g h k x + t2F a b c) % 4294967296, a, b, c, (d + t1F e f g h k x) % 4294967296, e, f, g]
  | l => l
def mixN (K W : List Int) : Nat → List Int → List Int
  | 0, H => H
  | t + 1, H => rnd (K.getD t 0) (W.getD t 0) (mixN K W t H)
theorem rnd_len {k x : Int} {l : List Int} (h : l.length = 8) : (rnd k x l).length = 8 := by
  unfold rnd
  split
  · rfl
  · exact h
theorem mixN_len {K W : List Int} : ∀ (t : Nat) {H : List Int}, H.length = 8 → (mixN K W t H).length = 8
  | 0, _, h => h
  | t + 1, _, h => rnd_len (mixN_len t h)
def addL (H M : List Int) : List Int := List.zipWith (fun x n => (x + n) % 4294967296) H M
theorem addL_len {H M : List Int} (h : H.length = 8) (m : M.length = 8) : (addL H M).length = 8 := by unfold addL; simp [h, m]
/-- i of the sums done -/
def addAt (H M : List Int) (i : Nat) : List Int := (addL H M).take i ++ H.drop i
theorem addAt_len {H M : List Int} (h : H.length = 8) (m : M.length = 8) {i : Nat} (hi : i ≤ 8) : (addAt H M i).length = 8 := by
  unfold addAt
  rw [List.length_append, List.length_take, List.length_drop, addL_len h m, h]
  omega
theorem addAt_zero (H M : List Int) : addAt H M 0 = H := by simp [addAt]
theorem addAt_all {H M : List Int} (h : H.length = 8) (m : M.length = 8) : addAt H M 8 = addL H M := by
  unfold addAt
  rw [List.take_of_length_le (by rw [addL_len h m]; omega), List.drop_eq_nil_of_le (by omega), List.append_nil]
theorem addAt_get {H M : List Int} (h : H.length = 8) (m : M.length = 8) {i : Nat} (hi : i < 8) : (addAt H M i).getD i 0 = H.getD i 0 := by
  have hl : ((addL H M).take i).length = i := by rw [List.length_take, addL_len h m]; omega
  unfold addAt
  rw [List.getD_eq_getElem?_getD, List.getElem?_append_right (by omega), hl, Nat.sub_self, List.getElem?_drop, List.getD_eq_getElem?_getD, Nat.add_zero]
theorem addAt_on {H M : List Int} (h : H.length = 8) (m : M.length = 8) {i : Nat} (hi : i < 8) :
    (addAt H M i).set i ((H.getD i 0 + M.getD i 0) % 4294967296) = addAt H M (i + 1) := by
  have hl : ((addL H M).take i).length = i := by rw [List.length_take, addL_len h m]; omega
  have hd : H.drop i = H.getD i 0 :: H.drop (i + 1) := by
    rw [List.drop_eq_getElem_cons (by omega)]
    simp [List.getD, List.getElem?_eq_getElem (show i < H.length by omega)]
  have e : (addL H M)[i]? = some ((H.getD i 0 + M.getD i 0) % 4294967296) := by
    unfold addL
    rw [List.getElem?_zipWith]
    simp [List.getD, List.getElem?_eq_getElem (show i < H.length by omega), List.getElem?_eq_getElem (show i < M.length by omega)]
  unfold addAt
  rw [List.set_append_right _ _ (by omega), hl, Nat.sub_self, hd, List.set_cons_zero, List.take_add_one, List.append_assoc, e]
  rfl
def blockF (K H W : List Int) : List Int := addL H (mixN K (wordsN 48 W) 64 H)
/-- n blocks of a text -/
def foldS (K : List Int) : Nat → List Int → ByteArray → List Int
  | 0, H, _ => H
  | n + 1, H, s => foldS K n (blockF K H (w16 s 16)) (s.extract 64 s.size)
theorem eight {H : List Int} (h : H.length = 8) : ∃ a b c d e f g i, H = [a, b, c, d, e, f, g, i] := by
  match H, h with
  | [a, b, c, d, e, f, g, i], _ => exact ⟨a, b, c, d, e, f, g, i, rfl⟩
def strSz : Value → Nat
  | .string s => s.size
  | _ => 0
def hL : List Int := [1779033703, 3144134277, 1013904242, 2773480762, 1359893119, 2600822924, 528734635, 1541459225]
def kL : List Int := [1116352408, 1899447441, 3049323471, 3921009573, 961987163, 1508970993, 2453635748, 2870763221, 3624381080, 310598401, 607225278, 1426881987, 1925078388, 2162078206, 2614888103, 3248222580, 3835390401, 4022224774, 264347078, 604807628, 770255983, 1249150122, 1555081692, 1996064986, 2554220882, 2821834349, 2952996808, 3210313671, 3336571891, 3584528711, 113926993, 338241895, 666307205, 773529912, 1294757372, 1396182291, 1695183700, 1986661051, 2177026350, 2456956037, 2730485921, 2820302411, 3259730800, 3345764771, 3516065817, 3600352804, 4094571909, 275423344, 430227734, 506948616, 659060556, 883997877, 958139571, 1322822218, 1537002063, 1747873779, 1955562222, 2024104815, 2227730452, 2361852424, 2428436474, 2756734187, 3204031479, 3329325298]
/-- a number's four bytes -/
def by4 (x : Int) : List Int := [x / 16777216 % 256, x / 65536 % 256, x / 256 % 256, x % 256]
def outN : List Int → List Int
  | [] => []
  | x :: t => by4 x ++ outN t
theorem outN_len : ∀ (H : List Int), (outN H).length = 4 * H.length
  | [] => rfl
  | x :: t => by rw [outN, List.length_append, outN_len t]; simp [by4]; omega
theorem outN_app : ∀ (A B : List Int), outN (A ++ B) = outN A ++ outN B
  | [], B => rfl
  | x :: t, B => by rw [List.cons_append, outN, outN, outN_app t B, List.append_assoc]
theorem outN_on {H : List Int} {j : Nat} {x : Int} (h : j < H.length) (hx : x = H.getD j 0) : outN (H.take j) ++ by4 x = outN (H.take (j + 1)) := by
  have e : H[j]? = some x := by
    rw [hx]
    simp [List.getD, List.getElem?_eq_getElem h]
  rw [List.take_add_one, outN_app, e]
  simp [outN]
def lastB (b : Int) : Nat → List Int
  | 0 => []
  | i + 1 => (b / 2 ^ (8 * i) % 256) :: lastB b i
theorem lastB_len (b : Int) : ∀ (i : Nat), (lastB b i).length = i
  | 0 => rfl
  | i + 1 => by rw [lastB, List.length_cons, lastB_len b i]
def szP (n : Nat) : Nat := if 64 - n % 64 < 9 then 128 - n % 64 else 64 - n % 64
theorem szP_rng (n : Nat) : 9 ≤ szP n ∧ szP n ≤ 72 ∧ (n + szP n) % 64 = 0 := by unfold szP; split <;> omega
def bitsN (n : Nat) : Int := IntKind.u64.wrap ((n : Int) * 8)
def padI (n : Nat) : List Int := (128 :: List.replicate (szP n - 9) 0) ++ lastB (bitsN n) 8
theorem padI_len (n : Nat) : (padI n).length = szP n := by
  have := (szP_rng n).1
  unfold padI
  rw [List.length_append, List.length_cons, List.length_replicate, lastB_len]
  omega
/-- i of the last bytes laid -/
structure PadAt (n : Nat) (L : List Int) (i : Nat) : Prop where
  len : L.length = szP n
  front : L.take (szP n - i) = (128 :: List.replicate (szP n - 1) 0).take (szP n - i)
  back : L.drop (szP n - i) = lastB (bitsN n) i
theorem PadAt.start (n : Nat) : PadAt n ((List.replicate (szP n) 0).set 0 128) 0 := by
  have := (szP_rng n).1
  obtain ⟨m, hm⟩ : ∃ m, szP n = m + 1 := ⟨szP n - 1, by omega⟩
  refine ⟨by simp, ?_, ?_⟩
  · rw [hm]; rfl
  · rw [lastB]; exact List.drop_eq_nil_of_le (by simp)
theorem PadAt.on {n : Nat} {L : List Int} {i : Nat} (h : PadAt n L i) (hi : i < 8) : PadAt n (L.set (szP n - 1 - i) (bitsN n / 2 ^ (8 * i) % 256)) (i + 1) := by
  have hr := (szP_rng n).1
  have hl := h.len
  have e : szP n - (i + 1) = szP n - 1 - i := by omega
  have e2 : szP n - i = szP n - 1 - i + 1 := by omega
  refine ⟨by simpa using hl, ?_, ?_⟩
  · rw [e, List.take_set_of_le (Nat.le_refl _)]
    have := congrArg (List.take (szP n - 1 - i)) h.front
    rw [List.take_take, List.take_take, Nat.min_eq_left (by omega)] at this
    exact this
  · rw [e, List.drop_eq_getElem_cons (by simp; omega), lastB]
    congr 1
    · simp
    · rw [List.drop_set_of_lt (by omega), ← e2]
      exact h.back
theorem PadAt.done {n : Nat} {L : List Int} (h : PadAt n L 8) : L = padI n := by
  have hr := (szP_rng n).1
  rw [← List.take_append_drop (szP n - 8) L, h.front, h.back]
  unfold padI
  congr 1
  obtain ⟨m, hm⟩ : ∃ m, szP n = m + 9 := ⟨szP n - 9, by omega⟩
  rw [hm, show m + 9 - 8 = m + 1 by omega, show m + 9 - 9 = m by omega, List.take_succ_cons, List.take_replicate]
  congr 2
  omega
theorem foldS_len (K : List Int) : ∀ (n : Nat) (H : List Int) (s : ByteArray), H.length = 8 → (foldS K n H s).length = 8
  | 0, _, _, h => h
  | n + 1, H, s, h => by rw [foldS]; exact foldS_len K n _ _ (addL_len h (mixN_len 64 h))
/-- what sha.Sum does of a text -/
def preF (s : ByteArray) : List Int := foldS kL (s.size / 64) hL (s.extract 0 (s.size - s.size % 64))
def postF (s : ByteArray) : List Int := foldS kL ((s.size % 64 + szP s.size) / 64) (preF s) (s.extract (s.size - s.size % 64) s.size ++ strOfNums (padI s.size))
def sumP (s : ByteArray) : ByteArray := strOfNums (outN (postF s))
end Go.Proofs.Ytadeiljhniffjaa
