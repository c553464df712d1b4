/-
  Sums of bytes, plainly: a bit, a half byte, a byte; what another byte does to them.
  SHA-256, plainly: words, rounds, blocks, what fills up.
  xxHash64, plainly.
-/
import Derived.WalkKit
import Derived.Handy
namespace Go.Proofs.YtgpmghnemhngeaaDoor
section
set_option linter.unusedVariables false
set_option linter.unusedSimpArgs false

/-- One bit falls out. -/
def crcBit (s : Nat) : Nat := if s % 2 = 1 then (s / 2) ^^^ 2197175160 else s / 2
/-- What four bits come to. -/
def stepsL : List Nat := [0, 274646895, 549293790, 820201905, 1098587580, 1361435347, 1640403810, 1905808397, 2197175160, 2460548119, 2722870694, 2987750089, 3280807620, 3553878443, 3811616794, 4084100981]
/-- Four bits fall out. -/
def crcNib (s : Nat) : Nat := (s / 16) ^^^ stepsL.getD (s % 16) 0
/-- A byte. -/
def crcByte (s : Nat) (x : UInt8) : Nat := crcNib (crcNib (s ^^^ x.toNat))
/-- Bytes. -/
def crcG (s : Nat) (xs : List UInt8) : Nat := xs.foldl crcByte s
def notW (s : Nat) : Nat := s ^^^ 4294967295
/-- The sum of bytes that goes on from a sum. -/
def crc (s : Nat) (xs : List UInt8) : Nat := notW (crcG (notW s) xs)

/-- The constant that four bits come to. -/
def fourK (a b c d : Bool) : Nat :=
  (((if a then 2197175160 else 0) / 2 ^^^ (if b then 2197175160 else 0)) / 2 ^^^ (if c then 2197175160 else 0)) / 2 ^^^ (if d then 2197175160 else 0)
theorem xor_lt32 {a b : Nat} (ha : a < 4294967296) (hb : b < 4294967296) : a ^^^ b < 4294967296 := Nat.xor_lt_two_pow (n := 32) ha hb
/-! Another byte, another sum. -/
/-! A sum as it stands in a frame. -/
def maskN (s : Nat) : Nat := (s / 32768 + s % 32768 * 131072 + 2726488792) % 4294967296
def unmaskN (n : Nat) : Nat := ((n + 1568478504) % 4294967296 % 131072 * 32768 + (n + 1568478504) % 4294967296 / 131072)
/-- A number of 32 bits in four bytes, the lowest one first. -/
def low4 (n : Nat) : List UInt8 := [UInt8.ofNat n, UInt8.ofNat (n / 256), UInt8.ofNat (n / 65536), UInt8.ofNat (n / 16777216)]
end
section
set_option linter.unusedVariables false
set_option linter.unusedSimpArgs false

def M32 : Nat := 4294967296
def rotr (x n : Nat) : Nat := (x / 2 ^ n) ||| (x * 2 ^ (32 - n) % 4294967296)
def sg0 (x : Nat) : Nat := rotr x 7 ^^^ rotr x 18 ^^^ (x / 8)
def sg1 (x : Nat) : Nat := rotr x 17 ^^^ rotr x 19 ^^^ (x / 1024)
def Sg0 (x : Nat) : Nat := rotr x 2 ^^^ rotr x 13 ^^^ rotr x 22
def Sg1 (x : Nat) : Nat := rotr x 6 ^^^ rotr x 11 ^^^ rotr x 25
def chW (e f g : Nat) : Nat := (e &&& f) ^^^ ((e ^^^ 4294967295) &&& g)
def majW (a b c : Nat) : Nat := (a &&& b) ^^^ (a &&& c) ^^^ (b &&& c)

theorem rotr_lt {x n : Nat} (h : x < 4294967296) : rotr x n < 4294967296 :=
  Nat.or_lt_two_pow (n := 32) (Nat.lt_of_le_of_lt (Nat.div_le_self _ _) h) (Nat.mod_lt _ (by decide))
theorem and_lt32 {a b : Nat} (ha : a < 4294967296) : a &&& b < 4294967296 := Nat.lt_of_le_of_lt Nat.and_le_left ha
theorem sg0_lt {x : Nat} (h : x < 4294967296) : sg0 x < 4294967296 := xor_lt32 (xor_lt32 (rotr_lt h) (rotr_lt h)) (by omega)
theorem sg1_lt {x : Nat} (h : x < 4294967296) : sg1 x < 4294967296 := xor_lt32 (xor_lt32 (rotr_lt h) (rotr_lt h)) (by omega)
theorem Sg0_lt {x : Nat} (h : x < 4294967296) : Sg0 x < 4294967296 := xor_lt32 (xor_lt32 (rotr_lt h) (rotr_lt h)) (rotr_lt h)
theorem Sg1_lt {x : Nat} (h : x < 4294967296) : Sg1 x < 4294967296 := xor_lt32 (xor_lt32 (rotr_lt h) (rotr_lt h)) (rotr_lt h)
theorem chW_lt {e f g : Nat} (he : e < 4294967296) : chW e f g < 4294967296 := xor_lt32 (and_lt32 he) (and_lt32 (xor_lt32 he (by decide)))
theorem majW_lt {a b c : Nat} (ha : a < 4294967296) (hb : b < 4294967296) : majW a b c < 4294967296 := xor_lt32 (xor_lt32 (and_lt32 ha) (and_lt32 ha)) (and_lt32 hb)

/-- A byte as a number. -/
def bt (b : List UInt8) (i : Nat) : Nat := (b.getD i 0).toNat
theorem bt_lt (b : List UInt8) (i : Nat) : bt b i < 256 := (b.getD i 0).toNat_lt
/-- Four bytes, the highest first. -/
def be4 (b : List UInt8) (i : Nat) : Nat := bt b i * 16777216 + bt b (i + 1) * 65536 + bt b (i + 2) * 256 + bt b (i + 3)
theorem be4_lt (b : List UInt8) (i : Nat) : be4 b i < 4294967296 := by
  unfold be4
  have h0 := bt_lt b i; have h1 := bt_lt b (i+1); have h2 := bt_lt b (i+2); have h3 := bt_lt b (i+3)
  omega
/-- The next word. -/
def wnext (b : List UInt8) (l : List Nat) : Nat :=
  if l.length < 16 then be4 b (4 * l.length)
  else (l.getD (l.length - 16) 0 + sg0 (l.getD (l.length - 15) 0) + l.getD (l.length - 7) 0 + sg1 (l.getD (l.length - 2) 0)) % 4294967296
/-- The first n words. -/
def wl (b : List UInt8) : Nat → List Nat
  | 0 => []
  | n + 1 => wl b n ++ [wnext b (wl b n)]
theorem wl_length (b : List UInt8) (n : Nat) : (wl b n).length = n := by
  induction n with
  | zero => rfl
  | succ n ih => simp [wl, ih]
def wW (b : List UInt8) (t : Nat) : Nat := (wl b (t + 1)).getD t 0
theorem wl_get (b : List UInt8) (n t : Nat) (h : t < n) : (wl b n).getD t 0 = wW b t := by
  induction n with
  | zero => omega
  | succ n ih =>
    by_cases e : t = n
    · subst e; rfl
    · have ht : t < n := by omega
      rw [← ih ht]
      show (wl b n ++ [wnext b (wl b n)]).getD t 0 = _
      simp only [List.getD_eq_getElem?_getD]
      rw [List.getElem?_append_left (by rw [wl_length]; exact ht)]
theorem wW_first (b : List UInt8) (t : Nat) (h : t < 16) : wW b t = be4 b (4 * t) := by
  show (wl b t ++ [wnext b (wl b t)]).getD t 0 = _
  simp only [List.getD_eq_getElem?_getD]
  rw [List.getElem?_append_right (by rw [wl_length]; exact Nat.le_refl _), wl_length]
  simp [wnext, wl_length, h]
theorem wW_next (b : List UInt8) (t : Nat) (h : 16 ≤ t) : wW b t = (wW b (t - 16) + sg0 (wW b (t - 15)) + wW b (t - 7) + sg1 (wW b (t - 2))) % 4294967296 := by
  show (wl b t ++ [wnext b (wl b t)]).getD t 0 = _
  simp only [List.getD_eq_getElem?_getD]
  rw [List.getElem?_append_right (by rw [wl_length]; exact Nat.le_refl _), wl_length]
  simp only [Nat.sub_self, List.getElem?_cons_zero, Option.getD_some, wnext, wl_length]
  rw [if_neg (by omega), wl_get b t _ (by omega), wl_get b t _ (by omega), wl_get b t _ (by omega), wl_get b t _ (by omega)]
theorem wW_lt (b : List UInt8) (t : Nat) : wW b t < 4294967296 := by
  by_cases h : t < 16
  · rw [wW_first b t h]; exact be4_lt _ _
  · rw [wW_next b t (by omega)]; exact Nat.mod_lt _ (by decide)

/-- What each round adds. -/
def kL : List Nat := [1116352408, 1899447441, 3049323471, 3921009573, 961987163, 1508970993, 2453635748, 2870763221,
  3624381080, 310598401, 607225278, 1426881987, 1925078388, 2162078206, 2614888103, 3248222580,
  3835390401, 4022224774, 264347078, 604807628, 770255983, 1249150122, 1555081692, 1996064986,
  2554220882, 2821834349, 2952996808, 3210313671, 3336571891, 3584528711, 113926993, 338241895,
  666307205, 773529912, 1294757372, 1396182291, 1695183700, 1986661051, 2177026350, 2456956037,
  2730485921, 2820302411, 3259730800, 3345764771, 3516065817, 3600352804, 4094571909, 275423344,
  430227734, 506948616, 659060556, 883997877, 958139571, 1322822218, 1537002063, 1747873779,
  1955562222, 2024104815, 2227730452, 2361852424, 2428436474, 2756734187, 3204031479, 3329325298]
theorem kL_lt (i : Nat) : kL.getD i 0 < 4294967296 := by
  by_cases h : i < 64
  · have : ∀ l : Fin 64, kL.getD l.val 0 < 4294967296 := by decide +kernel
    exact this ⟨i, h⟩
  · have h' : kL.length ≤ i := by simp only [kL, List.length_cons, List.length_nil]; omega
    rw [List.getD_eq_getElem?_getD, List.getElem?_eq_none h']; decide

structure St where
  (a b c d e f g h : Nat)
structure St.Ok (s : St) : Prop where
  a : s.a < 4294967296
  b : s.b < 4294967296
  c : s.c < 4294967296
  d : s.d < 4294967296
  e : s.e < 4294967296
  f : s.f < 4294967296
  g : s.g < 4294967296
  h : s.h < 4294967296
/-- A state's words by their places. -/
def St.at (s : St) : Nat → Nat
  | 0 => s.a | 1 => s.b | 2 => s.c | 3 => s.d | 4 => s.e | 5 => s.f | 6 => s.g | _ => s.h
theorem St.Ok.at {s : St} (h : s.Ok) (i : Nat) : s.at i < 4294967296 := by
  unfold St.at
  split <;> first | exact h.a | exact h.b | exact h.c | exact h.d | exact h.e | exact h.f | exact h.g | exact h.h
/-- What a round adds up. -/
def oneT (s : St) (k w : Nat) : Nat := (s.h + Sg1 s.e + chW s.e s.f s.g + k + w) % 4294967296
def rnd (s : St) (k w : Nat) : St :=
  ⟨(oneT s k w + Sg0 s.a + majW s.a s.b s.c) % 4294967296, s.a, s.b, s.c, (s.d + oneT s k w) % 4294967296, s.e, s.f, s.g⟩
theorem rnd_ok {s : St} (h : s.Ok) (k w : Nat) : (rnd s k w).Ok := ⟨Nat.mod_lt _ (by decide), h.a, h.b, h.c, Nat.mod_lt _ (by decide), h.e, h.f, h.g⟩
def rounds (b : List UInt8) (s : St) : Nat → St
  | 0 => s
  | n + 1 => rnd (rounds b s n) (kL.getD n 0) (wW b n)
theorem rounds_ok (b : List UInt8) {s : St} (h : s.Ok) (n : Nat) : (rounds b s n).Ok := by
  induction n with
  | zero => exact h
  | succ n ih => exact rnd_ok ih _ _
def addS (s t : St) : St := ⟨(s.a + t.a) % 4294967296, (s.b + t.b) % 4294967296, (s.c + t.c) % 4294967296, (s.d + t.d) % 4294967296, (s.e + t.e) % 4294967296, (s.f + t.f) % 4294967296, (s.g + t.g) % 4294967296, (s.h + t.h) % 4294967296⟩
theorem addS_at (s t : St) (i : Nat) : (addS s t).at i = (s.at i + t.at i) % 4294967296 := by
  unfold St.at
  split <;> rfl
theorem addS_ok (s t : St) : (addS s t).Ok := by constructor <;> exact Nat.mod_lt _ (by decide)
/-- A state behind the block that b begins with. -/
def blockS (s : St) (b : List UInt8) : St := addS s (rounds b s 64)
theorem blockS_ok (s : St) (b : List UInt8) : (blockS s b).Ok := addS_ok _ _
/-- A state behind n blocks. -/
def blocksS (s : St) (n : Nat) (xs : List UInt8) : St := (List.range n).foldl (fun t i => blockS t (xs.drop (64 * i))) s
theorem blocksS_zero (s : St) (xs : List UInt8) : blocksS s 0 xs = s := by unfold blocksS; rw [List.range_zero, List.foldl_nil]
theorem blocksS_succ (s : St) (n : Nat) (xs : List UInt8) : blocksS s (n + 1) xs = blockS (blocksS s n xs) (xs.drop (64 * n)) := by
  unfold blocksS
  rw [List.range_succ, List.foldl_append, List.foldl_cons, List.foldl_nil]
theorem blocksS_ok {s : St} (h : s.Ok) (n : Nat) (xs : List UInt8) : (blocksS s n xs).Ok := by
  cases n with
  | zero => rw [blocksS_zero]; exact h
  | succ n => rw [blocksS_succ]; exact blockS_ok _ _
theorem bt_eq {xs ys : List UInt8} {i : Nat} (h : xs.take 64 = ys.take 64) (hi : i < 64) : bt xs i = bt ys i := by
  have e : ∀ zs : List UInt8, zs[i]? = (zs.take 64)[i]? := fun zs => by rw [List.getElem?_take, if_pos hi]
  unfold bt
  rw [List.getD_eq_getElem?_getD, List.getD_eq_getElem?_getD, e xs, e ys, h]
theorem be4_eq {xs ys : List UInt8} {t : Nat} (h : xs.take 64 = ys.take 64) (ht : t < 16) : be4 xs (4 * t) = be4 ys (4 * t) := by
  unfold be4
  rw [bt_eq h (by omega), bt_eq h (by omega), bt_eq h (by omega), bt_eq h (by omega)]
theorem wl_eq {xs ys : List UInt8} (h : xs.take 64 = ys.take 64) (n : Nat) : wl xs n = wl ys n := by
  induction n with
  | zero => rfl
  | succ n ih =>
    have : wnext xs (wl ys n) = wnext ys (wl ys n) := by
      unfold wnext
      split
      · rename_i hl; exact be4_eq h hl
      · rfl
    show wl xs n ++ [wnext xs (wl xs n)] = wl ys n ++ [wnext ys (wl ys n)]
    rw [ih, this]
theorem rounds_eq {xs ys : List UInt8} (h : xs.take 64 = ys.take 64) (s : St) (n : Nat) : rounds xs s n = rounds ys s n := by
  induction n with
  | zero => rfl
  | succ n ih =>
    show rnd (rounds xs s n) _ (wW xs n) = rnd (rounds ys s n) _ (wW ys n)
    rw [ih]
    unfold wW
    rw [wl_eq h]
theorem blockS_eq {xs ys : List UInt8} (h : xs.take 64 = ys.take 64) (s : St) : blockS s xs = blockS s ys := by unfold blockS; rw [rounds_eq h]
theorem take64_append {xs ys : List UInt8} {k : Nat} (h : k + 64 ≤ xs.length) : ((xs ++ ys).drop k).take 64 = (xs.drop k).take 64 := by
  rw [List.drop_append_of_le_length (by omega), List.take_append_of_le_length (by rw [List.length_drop]; omega)]
theorem blocksS_append (s : St) (n : Nat) (xs ys : List UInt8) (h : 64 * n ≤ xs.length) : blocksS s n (xs ++ ys) = blocksS s n xs := by
  induction n with
  | zero => rw [blocksS_zero, blocksS_zero]
  | succ n ih => rw [blocksS_succ, blocksS_succ, ih (by omega), blockS_eq (take64_append (by omega))]
def iv : St := ⟨0x6a09e667, 0xbb67ae85, 0x3c6ef372, 0xa54ff53a, 0x510e527f, 0x9b05688c, 0x1f83d9ab, 0x5be0cd19⟩
theorem iv_ok : iv.Ok := by constructor <;> decide
/-- A byte of a state's words, the highest first. -/
def outB (s : St) (i : Nat) : Nat := s.at (i / 4) / 2 ^ (8 * (3 - i % 4)) % 256
theorem outB_lt (s : St) (i : Nat) : outB s i < 256 := Nat.mod_lt _ (by decide)
def outS (s : St) : List UInt8 := (List.range 32).map fun i => UInt8.ofNat (outB s i)
theorem outS_length (s : St) : (outS s).length = 32 := by simp [outS]
theorem outS_get (s : St) {i : Nat} (h : i < 32) : (outS s)[i]? = some (UInt8.ofNat (outB s i)) := by simp [outS, h]
/-- A number in eight bytes, the highest first. -/
def big8 (n : Nat) : List UInt8 := (List.range 8).map fun k => UInt8.ofNat (n / 2 ^ (8 * (7 - k)) % 256)
theorem big8_length (n : Nat) : (big8 n).length = 8 := by simp [big8]
/-- How many bytes 0 stand behind the byte 128. -/
def zerosN (n : Nat) : Nat := (119 - n % 64) % 64
def padS (n : Nat) : List UInt8 := 128 :: (List.replicate (zerosN n) 0 ++ big8 (8 * n))
theorem padS_length (n : Nat) : (padS n).length = 9 + zerosN n := by simp [padS, big8_length]; omega
/-- SHA-256. -/
def sha (xs : List UInt8) : List UInt8 := outS (blocksS iv ((xs.length + 9 + zerosN xs.length) / 64) (xs ++ padS xs.length))
theorem sha_length (xs : List UInt8) : (sha xs).length = 32 := outS_length _
end
section
set_option linter.unusedVariables false
set_option linter.unusedSimpArgs false

def q1 : Nat := 11400714785074694791
def q2 : Nat := 14029467366897019727
def q3 : Nat := 1609587929392839161
def q4 : Nat := 9650029242287828579
def q5 : Nat := 2870177450012600261
def rotl (x n : Nat) : Nat := (x * 2 ^ n % 18446744073709551616) ||| (x / 2 ^ (64 - n))
def xround (a x : Nat) : Nat := rotl ((a + x * q2) % 18446744073709551616) 31 * q1 % 18446744073709551616
def xmerge (h a : Nat) : Nat := ((h ^^^ xround 0 a) * q1 + q4) % 18446744073709551616
def leN : List UInt8 → Nat
  | [] => 0
  | x :: r => x.toNat + 256 * leN r
structure La where
  (a b c d : Nat)
structure La.Ok (s : La) : Prop where
  a : s.a < 18446744073709551616
  b : s.b < 18446744073709551616
  c : s.c < 18446744073709551616
  d : s.d < 18446744073709551616
def laneStep (s : La) (xs : List UInt8) : La :=
  ⟨xround s.a (leN (xs.take 8)), xround s.b (leN ((xs.drop 8).take 8)), xround s.c (leN ((xs.drop 16).take 8)), xround s.d (leN ((xs.drop 24).take 8))⟩
def lanes (s : La) : Nat → List UInt8 → La
  | 0, _ => s
  | n + 1, xs => lanes (laneStep s xs) n (xs.drop 32)
def la0 : La := ⟨(q1 + q2) % 18446744073709551616, q2, 0, 18446744073709551616 - q1⟩
def laneEnd (s : La) : Nat :=
  xmerge (xmerge (xmerge (xmerge ((rotl s.a 1 + rotl s.b 7 + rotl s.c 12 + rotl s.d 18) % 18446744073709551616) s.a) s.b) s.c) s.d
def tail1 (h : Nat) (x : UInt8) : Nat := rotl (h ^^^ (x.toNat * q5 % 18446744073709551616)) 11 * q1 % 18446744073709551616
def tail4 (h : Nat) (xs : List UInt8) : Nat := (rotl (h ^^^ (leN (xs.take 4) * q1 % 18446744073709551616)) 23 * q2 + q3) % 18446744073709551616
def tail8 (h : Nat) (xs : List UInt8) : Nat := (rotl (h ^^^ xround 0 (leN (xs.take 8))) 27 * q1 + q4) % 18446744073709551616
def tails8 (h n : Nat) (xs : List UInt8) : Nat := (List.range n).foldl (fun a i => tail8 a (xs.drop (8 * i))) h
def tailsB (h : Nat) (xs : List UInt8) : Nat := xs.foldl tail1 h
def xend (h : Nat) (xs : List UInt8) : Nat :=
  let h8 := tails8 h (xs.length / 8) xs
  let r := xs.drop (8 * (xs.length / 8))
  if 4 ≤ r.length then tailsB (tail4 h8 r) (r.drop 4) else tailsB h8 r
def xsettle (h : Nat) : Nat :=
  let a := (h ^^^ (h / 8589934592)) * q2 % 18446744073709551616
  let b := (a ^^^ (a / 536870912)) * q3 % 18446744073709551616
  b ^^^ (b / 4294967296)
def xx (xs : List UInt8) : Nat :=
  let n := xs.length
  let h0 := if 32 ≤ n then laneEnd (lanes la0 (n / 32) xs) else q5
  let r := if 32 ≤ n then xs.drop (32 * (n / 32)) else xs
  xsettle (xend ((h0 + n) % 18446744073709551616) r)

theorem xor_lt64 {a b : Nat} (ha : a < 18446744073709551616) (hb : b < 18446744073709551616) : a ^^^ b < 18446744073709551616 := Nat.xor_lt_two_pow (n := 64) ha hb
theorem xround_lt (a x : Nat) : xround a x < 18446744073709551616 := Nat.mod_lt _ (by decide)
theorem xmerge_lt (a x : Nat) : xmerge a x < 18446744073709551616 := Nat.mod_lt _ (by decide)
theorem leN_lt (xs : List UInt8) : leN xs < 256 ^ xs.length := by
  induction xs with
  | nil => decide
  | cons x r ih => have := x.toNat_lt; simp only [leN, List.length_cons, Nat.pow_succ]; omega
theorem leN_append (xs ys : List UInt8) : leN (xs ++ ys) = leN xs + 256 ^ xs.length * leN ys := by
  induction xs with
  | nil => simp [leN]
  | cons x r ih => simp only [List.cons_append, leN, ih, List.length_cons, Nat.pow_succ, Nat.mul_add, Nat.add_assoc]; rw [Nat.mul_comm (256 ^ r.length) 256, Nat.mul_assoc]
theorem leN_snoc (xs : List UInt8) (x : UInt8) : leN (xs ++ [x]) = leN xs + x.toNat * 2 ^ (8 * xs.length) := by
  rw [leN_append, Nat.pow_mul]
  show _ + 256 ^ _ * (x.toNat + 256 * 0) = _
  rw [Nat.mul_zero, Nat.add_zero, Nat.mul_comm]
theorem laneStep_ok (s : La) (xs : List UInt8) : (laneStep s xs).Ok := ⟨xround_lt _ _, xround_lt _ _, xround_lt _ _, xround_lt _ _⟩
theorem lanes_ok {s : La} (h : s.Ok) : ∀ (n : Nat) (xs : List UInt8), (lanes s n xs).Ok := by
  intro n
  induction n generalizing s with
  | zero => intro _; rw [lanes]; exact h
  | succ n ih => intro xs; rw [lanes]; exact ih (laneStep_ok s xs) _
theorem la0_ok : la0.Ok := by constructor <;> decide
theorem laneEnd_lt (s : La) : laneEnd s < 18446744073709551616 := xmerge_lt _ _
theorem tail1_lt (h : Nat) (x : UInt8) : tail1 h x < 18446744073709551616 := Nat.mod_lt _ (by decide)
theorem tail4_lt (h : Nat) (xs : List UInt8) : tail4 h xs < 18446744073709551616 := Nat.mod_lt _ (by decide)
theorem tail8_lt (h : Nat) (xs : List UInt8) : tail8 h xs < 18446744073709551616 := Nat.mod_lt _ (by decide)
theorem tailsB_lt {h : Nat} (hh : h < 18446744073709551616) (xs : List UInt8) : tailsB h xs < 18446744073709551616 := by
  induction xs generalizing h with
  | nil => exact hh
  | cons x r ih => rw [tailsB, List.foldl_cons]; exact ih (tail1_lt _ _)
theorem lanes_succ (s : La) (n : Nat) (xs : List UInt8) : lanes s (n + 1) xs = laneStep (lanes s n xs) (xs.drop (32 * n)) := by
  induction n generalizing s xs with
  | zero => simp only [lanes, Nat.mul_zero, List.drop_zero]
  | succ n ih =>
    rw [lanes, ih, List.drop_drop, lanes]
    rw [show 32 * (n + 1) = 32 + 32 * n from by omega]
theorem tails8_succ (h : Nat) (n : Nat) (xs : List UInt8) : tails8 h (n + 1) xs = tail8 (tails8 h n xs) (xs.drop (8 * n)) := by
  unfold tails8
  rw [List.range_succ, List.foldl_append, List.foldl_cons, List.foldl_nil]
theorem tails8_lt {h : Nat} (hh : h < 18446744073709551616) (n : Nat) (xs : List UInt8) : tails8 h n xs < 18446744073709551616 := by
  cases n with
  | zero => rw [tails8, List.range_zero, List.foldl_nil]; exact hh
  | succ n => rw [tails8_succ]; exact tail8_lt _ _
end
end Go.Proofs.YtgpmghnemhngeaaDoor
