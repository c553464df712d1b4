/-
  Letters as bytes again: the package's own way, whatever its letters.
-/
import Derived.Test.YtmgjlldccmgpcaaDoorUn
import Derived.Test.YtmgjlldccmgpcaaDoorLb
import Derived.Lib.OthersKept
import Derived.Laws.RangeAny
import Derived.Deep.LoopGhost
import Derived.Shelf.Abstract
namespace Go.Proofs.YtmgjlldccmgpcaaDoor
set_option linter.unusedVariables false
set_option linter.unusedSimpArgs false
open Go.RowKit
theorem get_bl (s : ByteArray) {i : Nat} (h : i < s.size) : s[i]'h = (bl s)[i]'(by rw [bl_len]; exact h) := by
  cases s; rfl
theorem ntwo_pow (m : Nat) : ((2 : Int) ^ m) = ((2 ^ m : Nat) : Int) := by simp
/-- What a number of letters tells of a rune. -/
def numT (f : UInt8 → Nat) (wd r : Nat) : Value := if r < 128 ∧ f (UInt8.ofNat r) < 2 ^ wd then .tuple #[.int .u32 (f (UInt8.ofNat r) : Nat), .bool true] else .tuple #[.int .u32 0, .bool false]
def Num (g : Nat) (f : UInt8 → Nat) (wd : Nat) : Prop := ∀ (r : Nat) (W : World), Calls Tryd.prog g #[.int .i32 (r : Int)] W fun e w' => e = .returned (numT f wd r) ∧ W = w'
/-- What is handed back: bytes, and what was wrong. -/
def BytesRes (w : World) (r : Nat × List UInt8) (e : Ending) (w' : World) : Prop := ∃ A c, e = .returned (.tuple #[.slice A r.2.length c, .int .i64 (r.1 : Nat)]) ∧ Rd w' A (r.2.map Bv) ∧ Below w.heap.size w w'
theorem bytesN_app {q : Nat} {l : List Bool} (m : List Bool) (h : 8 * q ≤ l.length) : bytesN q (l ++ m) = bytesN q l := by
  unfold bytesN
  refine List.map_congr_left fun i hi => ?_
  have := List.mem_range.1 hi
  rw [List.drop_append_of_le_length (by omega), List.take_append_of_le_length (by rw [List.length_drop]; omega)]
theorem bytesN_more {q : Nat} {l : List Bool} : bytesN (q + 1) l = bytesN q l ++ [UInt8.ofNat (packB ((l.drop (8 * q)).take 8))] := by
  unfold bytesN; rw [List.range_succ, List.map_append, List.map_singleton]
/-- Bits that are held, and a letter's behind them. -/
theorem held_more {l : List Bool} {n wd : Nat} (hn : n < 2 ^ wd) : natOf ((l ++ bitsOf n wd).drop (8 * (l.length / 8))) = natOf (l.drop (8 * (l.length / 8))) * 2 ^ wd + n := by
  rw [List.drop_append_of_le_length (by omega), natOf_append, bitsOf_length, natOf_bitsOf, Nat.mod_eq_of_lt hn]
theorem held_lt (l : List Bool) : natOf (l.drop (8 * (l.length / 8))) < 2 ^ (l.length % 8) := by
  have h := natOf_lt (l.drop (8 * (l.length / 8)))
  rwa [List.length_drop, show l.length - 8 * (l.length / 8) = l.length % 8 by omega] at h
/-- A byte is whole. -/
theorem held_byte {l : List Bool} {n wd e : Nat} (hn : n < 2 ^ wd) (he : l.length % 8 + wd = 8 + e) (h8 : e < 8) :
    (l ++ bitsOf n wd).length / 8 = l.length / 8 + 1 ∧ (l ++ bitsOf n wd).length % 8 = e ∧
    bytesN (l.length / 8 + 1) (l ++ bitsOf n wd) = bytesN (l.length / 8) l ++ [UInt8.ofNat (natOf ((l ++ bitsOf n wd).drop (8 * (l.length / 8))) / 2 ^ e)] ∧
    natOf ((l ++ bitsOf n wd).drop (8 * (l.length / 8))) / 2 ^ e < 256 ∧
    natOf ((l ++ bitsOf n wd).drop (8 * (l.length / 8))) % 2 ^ e = natOf ((l ++ bitsOf n wd).drop (8 * (l.length / 8 + 1))) := by
  have hl : (l ++ bitsOf n wd).length = l.length + wd := by rw [List.length_append, bitsOf_length]
  have hd : ((l ++ bitsOf n wd).drop (8 * (l.length / 8))).length = 8 + e := by rw [List.length_drop, hl]; omega
  have hhi := natOf_high ((l ++ bitsOf n wd).drop (8 * (l.length / 8))) 8 (by omega)
  have hlo := natOf_low ((l ++ bitsOf n wd).drop (8 * (l.length / 8))) 8 (by omega)
  rw [hd, Nat.add_sub_cancel_left] at hhi hlo
  have ht : (((l ++ bitsOf n wd).drop (8 * (l.length / 8))).take 8).length = 8 := by rw [List.length_take, hd]; omega
  have hlt := natOf_lt (((l ++ bitsOf n wd).drop (8 * (l.length / 8))).take 8)
  rw [ht] at hlt
  refine ⟨by omega, by omega, ?_, by rw [hhi]; omega, ?_⟩
  · rw [bytesN_more, bytesN_app _ (by omega), hhi]
    unfold packB
    rw [ht, Nat.sub_self, Nat.pow_zero, Nat.mul_one]
  · rw [hlo, List.drop_drop, show 8 * (l.length / 8) + 8 = 8 * (l.length / 8 + 1) by omega]
/-- A byte is not whole yet. -/
theorem held_part {l : List Bool} {n wd : Nat} (he : l.length % 8 + wd < 8) :
    (l ++ bitsOf n wd).length / 8 = l.length / 8 ∧ (l ++ bitsOf n wd).length % 8 = l.length % 8 + wd ∧ bytesN (l.length / 8) (l ++ bitsOf n wd) = bytesN (l.length / 8) l := by
  have hl : (l ++ bitsOf n wd).length = l.length + wd := by rw [List.length_append, bitsOf_length]
  exact ⟨by omega, by omega, bytesN_app _ (by omega)⟩
/-- What the loop holds behind so many letters. -/
structure Un (wd : Nat) (f : UInt8 → Nat) (s : Bs) (pos : Nat) (xs : List UInt8) (h c : Nat) : Prop where
  all : ∀ x ∈ s.take pos, f x < 2 ^ wd
  row : xs = bytesN ((unBits wd f (s.take pos)).length / 8) (unBits wd f (s.take pos))
  held : h = natOf ((unBits wd f (s.take pos)).drop (8 * ((unBits wd f (s.take pos)).length / 8)))
  count : c = (unBits wd f (s.take pos)).length % 8
theorem Un.zero (wd : Nat) (f : UInt8 → Nat) (s : Bs) : Un wd f s 0 [] 0 0 := ⟨fun x hx => by simp at hx, by simp [unBits, bytesN], by simp [unBits, natOf], by simp [unBits]⟩
theorem Un.lt {wd : Nat} {f : UInt8 → Nat} {s : Bs} {pos : Nat} {xs : List UInt8} {h c : Nat} (u : Un wd f s pos xs h c) : h < 2 ^ c ∧ c < 8 := by
  obtain ⟨-, -, rfl, rfl⟩ := u
  exact ⟨held_lt _, by omega⟩
theorem Un.step {wd : Nat} {f : UInt8 → Nat} {s : Bs} {pos : Nat} {xs : List UInt8} {h c : Nat} (u : Un wd f s pos xs h c) (hp : pos < s.length) (hn : f s[pos] < 2 ^ wd) :
    (c + wd < 8 → Un wd f s (pos + 1) xs (h * 2 ^ wd + f s[pos]) (c + wd)) ∧
    (∀ e, c + wd = 8 + e → e < 8 → (h * 2 ^ wd + f s[pos]) / 2 ^ e < 256 ∧ Un wd f s (pos + 1) (xs ++ [UInt8.ofNat ((h * 2 ^ wd + f s[pos]) / 2 ^ e)]) ((h * 2 ^ wd + f s[pos]) % 2 ^ e) e) := by
  have ht : s.take (pos + 1) = s.take pos ++ [s[pos]] := List.take_succ_eq_append_getElem hp
  have hb : unBits wd f (s.take (pos + 1)) = unBits wd f (s.take pos) ++ bitsOf (f s[pos]) wd := by rw [ht, unBits_snoc]
  have hall : ∀ x ∈ s.take (pos + 1), f x < 2 ^ wd := by
    intro x hx
    rw [ht] at hx
    rcases List.mem_append.1 hx with hx | hx
    · exact u.all x hx
    · rw [List.mem_singleton] at hx; rw [hx]; exact hn
  obtain ⟨-, rfl, rfl, rfl⟩ := u
  have hm := held_more (l := unBits wd f (s.take pos)) hn
  refine ⟨fun h8 => ?_, fun e he h8 => ?_⟩
  · obtain ⟨p1, p2, p3⟩ := held_part (l := unBits wd f (s.take pos)) (n := f s[pos]) (wd := wd) h8
    exact ⟨hall, by rw [hb, p1, p3], by rw [hb, p1, hm], by rw [hb, p2]⟩
  · obtain ⟨p1, p2, p3, p4, p5⟩ := held_byte (l := unBits wd f (s.take pos)) hn he h8
    rw [hm] at p3 p4 p5
    exact ⟨p4, hall, by rw [hb, p1, p3], by rw [hb, p1, p5], by rw [hb, p2]⟩
theorem Un.len {wd : Nat} {f : UInt8 → Nat} {s : Bs} {pos : Nat} {xs : List UInt8} {h c : Nat} (u : Un wd f s pos xs h c) (hp : pos ≤ s.length) (hw : wd ≤ 8) : xs.length ≤ pos := by
  rw [u.row, bytesN_len, unBits_length, List.length_take, Nat.min_eq_left hp]
  have : wd * pos ≤ 8 * pos := Nat.mul_le_mul_right pos hw
  omega
theorem Un.fin {wd : Nat} {f : UInt8 → Nat} {s : Bs} {xs : List UInt8} {h c : Nat} (u : Un wd f s s.length xs h c) : unP wd f s = if wd ≤ c ∨ h ≠ 0 then (8, []) else (0, xs) := by
  obtain ⟨ha, rfl, rfl, rfl⟩ := u
  rw [List.take_length] at *
  unfold unP
  rw [if_pos (by rw [List.all_eq_true]; exact fun x hx => decide_eq_true (ha x hx))]
theorem un_bad {wd : Nat} {f : UInt8 → Nat} {s : Bs} {pos : Nat} (hp : pos < s.length) (h : ¬ f s[pos] < 2 ^ wd) : unP wd f s = (8, []) := by
  unfold unP
  rw [if_neg]
  rw [List.all_eq_true]
  intro ha
  exact h (of_decide_eq_true (ha s[pos] (List.getElem_mem hp)))
theorem own_iter {w : World} {B e n k p : Nat} {s : ByteArray} {u : Value} {xs : List Value} (h : w.ownsRow B e 1 u n xs) (hk : w.heap[k]? = some (.stringIter s p)) : ∀ g, u.ownBlock = some g → g ≠ k := by
  intro g hg e
  subst e
  rcases h.2 with ⟨rfl, _⟩ | ⟨g', cap, cur, rfl, _, hh, _⟩
  · cases hg
  · have : g' = g := by simpa [Value.ownBlock] using hg
    subst this
    rw [hh] at hk
    cases hk
section
set_option maxHeartbeats 3200000
set_option maxRecDepth 100000
theorem unwritten_4 (g : Nat) (f : UInt8 → Nat) (s : ByteArray) (w : World) (hl : s.size ≤ 1000000) (eg : ∀ args w, (callFunc g args).run Tryd.prog w = .ok (.enter g args) w)
    (hnum : Num g f 4) (hhigh : ∀ c : UInt8, 128 ≤ c.toNat → ¬ f c < 2 ^ 4) :
    Calls Tryd.prog 44 #[.string s, .int .i64 4, .func (.func g) #[] #[]] w (BytesRes w (unP 4 f (bl s))) := by
  obtain ⟨i0, hi, hz0, hz1, hz2⟩ := info_parts infoU8
  obtain ⟨R, hR⟩ : ∃ R, R = unP 4 f (bl s) := ⟨_, rfl⟩
  rw [← hR]
  have HR := Lib.hid hR; clear hR
  have HN := Lib.hid hnum; clear hnum
  have HH := Lib.hid hhigh; clear hhigh
  have HBL := Lib.hid (bl_len s)
  obtain ⟨m, hm⟩ : ∃ m, m = s.size * 4 / 8 := ⟨_, rfl⟩
  have hml : m ≤ 1000000 := by omega
  have hmi : (s.size : Int) * 4 / 8 = (m : Int) := by omega
  have HM := Lib.hid hm; clear hm
  go_enter Tryd.func44, Tryd.ntmps44
  go_wp2_with (first | (at_make; go_must (refine wpList_make_own _ rfl _ _ 28 rfl w.heap.size 5 i0 (.int .u8 0) 1 Tryd.underlying28 hi hz0 hz1 _ _ _ m rfl rfl hmi (by rw [hz2]; omega) (by unfold maxLen; omega) (Nat.le_refl _) ?_; intro w1 hown hgr)) | fail)
  obtain ⟨k, hk⟩ : ∃ k, k = w1.heap.size := ⟨_, rfl⟩
  have hb1 : RowKit.Below w.heap.size w w1 := (RowKit.Below.refl _ w).grown hgr (Nat.le_refl _) (fun k e => by cases e)
  have hwk : w.heap.size ≤ k := by rw [hk]; exact hb1.size
  have hit0 : (w1.iter s 0).heap[k]? = some (.stringIter s 0) := by rw [hk]; exact World.iter_heap w1 s 0
  have hb0 : RowKit.Below w.heap.size w (w1.iter s 0) := hb1.alloc hb1.size _
  have ho0 : (w1.iter s 0).ownsRow w.heap.size 5 1 (.slice (some ⟨w.heap.size, 0, none⟩) 0 m) 0 [] := hown.alloc _
  have HB0 := Lib.hid hb0; have HO0 := Lib.hid ho0; clear hb0 ho0 hown hgr hb1
  simp only [← hk]
  have HK := Lib.hid hk; clear hk hmi
  go_loopw [8, 9, 10] (fun s8 s9 s10 wr => ∃ (pos h c : Nat) (xs : List UInt8), s9 = .int .u32 (h : Nat) ∧ s10 = .int .i64 (c : Nat) ∧ pos ≤ s.size ∧ Aside (wr.ownsRow w.heap.size 5 1 s8 xs.length (xs.map Bv)) ∧ Aside (wr.heap[k]? = some (.stringIter s pos)) ∧ Aside (RowKit.Below w.heap.size w wr) ∧ Aside (Un 4 f (bl s) pos xs h c)) (fun _ _ _ wr => s.size - wr.iterPos k)
  case atStart => exact ⟨0, 0, 0, [], rfl, rfl, by omega, HO0.out, hit0, HB0.out, Un.zero _ _ _⟩
  case round =>
    clear hit0
    obtain ⟨pos, h, c, xs, rfl, rfl, hp, OW, IT, BW, U⟩ := hrel
    obtain ⟨A8, c8, hv8, hrd8, -⟩ := own_rd OW.out
    subst hv8
    have HRD := Lib.hid hrd8; clear hrd8
    obtain ⟨hh1, hc8⟩ := U.out.lt
    have hh : h < 128 := by
      have : 2 ^ c ≤ 2 ^ 7 := Nat.pow_le_pow_right (by decide) (by omega)
      omega
    have hxl := U.out.len (by rw [HBL.out]; exact hp) (by decide)
    have hks : k < wr.heap.size := (Array.getElem?_eq_some_iff.1 IT.out).1
    clear hh1
    by_cases hlt : pos < s.size
    · have hlb : pos < (bl s).length := by rw [HBL.out]; exact hlt
      have hgb := get_bl s hlt
      by_cases ha : (s[pos]'hlt).toNat < 128
      · have hnx : ∀ ty, (Instr.next (.pointer (some ⟨k, 0, none⟩)) true ty).run Tryd.prog wr = _ := fun ty => Lib.run_next_ascii_at wr k s pos ty IT.out hlt ha
        have hcall := HN.out (s[pos]'hlt).toNat (wr.iterAt k s (pos + 1))
        have hit1 := Lib.iterAt_heap wr k s pos (pos + 1) IT.out
        have hb2 : RowKit.Below w.heap.size w (wr.iterAt k s (pos + 1)) := Lib.below_iterAt BW.out hwk s (pos + 1)
        have ho2 : (wr.iterAt k s (pos + 1)).ownsRow w.heap.size 5 1 (.slice A8 xs.length c8) xs.length (xs.map Bv) := own_moved OW.out (fun g hg => Lib.iterAt_other wr k g s (pos + 1) (own_iter OW.out IT.out g hg))
        have hsz : (wr.iterAt k s (pos + 1)).heap.size = wr.heap.size := Lib.iterAt_size _ _ _ _
        unfold numT at hcall
        rw [UInt8.ofNat_toNat, hgb] at hcall
        rw [hgb] at hnx ha
        obtain ⟨W, hW⟩ : ∃ W, W = wr.iterAt k s (pos + 1) := ⟨_, rfl⟩
        rw [← hW] at hnx hcall hit1 hb2 ho2 hsz
        clear hW hgb
        have hstep := @Un.step 4 f (bl s) pos xs h c U.out hlb
        have hbad := @un_bad 4 f (bl s) pos hlb
        generalize (bl s)[pos] = x at hnx hcall ha hstep hbad
        have hx0 := x.toNat_lt
        generalize x.toNat = r at hnx hcall ha hx0
        have IT1 := Lib.hid hit1; have B2 := Lib.hid hb2; have O2 := Lib.hid ho2; have SZ := Lib.hid hsz
        clear hit1 hb2 ho2 hsz
        by_cases hv : f x < 2 ^ 4
        · rw [if_pos ⟨ha, hv⟩] at hcall
          obtain ⟨s1, s2⟩ := hstep hv
          generalize f x = n at hv hcall s1 s2
          have hn : n < 16 := hv
          have HC := Lib.hid hcall; clear hcall hv hbad
          obtain ⟨H, hH⟩ : ∃ H, H = h * 2 ^ 4 + n := ⟨_, rfl⟩
          rw [← hH] at s1 s2
          have hH' : H = h * 16 + n := hH
          have hor : bits .or .u32 ((h : Int) * 16) (n : Int) = (H : Int) := by
            have h1 : h * 16 ||| n = h * 16 + n := by rw [Nat.or_comm, Nat.add_comm]; exact or_beside _ _ 4 (by omega)
            have h2 := u32_or_nat (h * 16) n (by omega) (by omega)
            rw [h1] at h2
            rw [hH']
            exact h2
          have hHl : H < 8192 := by omega
          have S1 := Lib.hid s1; have S2 := Lib.hid s2; clear s1 s2 hH hH'
          by_cases h8 : c + 4 < 8
          · have u' := S1.out h8
            have hc9 : ¬ (8 : Int) ≤ (c : Int) + 4 := by omega
            have U' := Lib.hid u'; clear u' S1 S2
            go_wp2_with (first | (go_at_fn g; refine HC.out.mono ?_; rintro e w3 ⟨rfl, rfl⟩) | fail)
            go_roundw
            case rel => exact ⟨pos + 1, H, c + 4, xs, rfl, by go_num, by omega, (show Aside _ from O2.out), (show Aside _ from IT1.out), (show Aside _ from B2.out), (show Aside _ from U'.out)⟩
            case measure => simp only [World.iterPos, IT1.out, IT.out]; omega
          · obtain ⟨e, he⟩ : ∃ e, c + 4 = 8 + e := ⟨c + 4 - 8, by omega⟩
            obtain ⟨b256, u'⟩ := S2.out e he (by omega)
            have hc9 : (8 : Int) ≤ (c : Int) + 4 := by omega
            have hee : (c : Int) + 4 - 8 = (e : Int) := by omega
            have he5 : e ≤ 5 := by omega
            obtain ⟨y, hy⟩ : ∃ y, y = H / 2 ^ e := ⟨_, rfl⟩
            obtain ⟨z, hz⟩ : ∃ z, z = H % 2 ^ e := ⟨_, rfl⟩
            have hsh : (H : Int) / 2 ^ e = (y : Int) := by rw [ntwo_pow, hy]; rfl
            have hand : bits .and .u32 (H : Int) ((2 : Int) ^ e - 1) = (z : Int) := by
              have h1 : (2 : Int) ^ e - 1 = ((2 ^ e - 1 : Nat) : Int) := by rw [ntwo_pow, Int.ofNat_sub (Nat.one_le_two_pow)]; rfl
              have h2 : 2 ^ e ≤ 2 ^ 5 := Nat.pow_le_pow_right (by decide) he5
              rw [h1, u32_and_nat _ _ (by omega) (by omega), Nat.and_two_pow_sub_one_eq_mod, hz]
            have hp1 : (2 : Int) ^ e ≤ 32 := by
              have h2 : 2 ^ e ≤ 2 ^ 5 := Nat.pow_le_pow_right (by decide) he5
              rw [ntwo_pow]; omega
            have hp0 : (1 : Int) ≤ (2 : Int) ^ e := by
              have h2 : 0 < 2 ^ e := Nat.two_pow_pos e
              rw [ntwo_pow]; omega
            rw [← hy] at b256 u'
            rw [← hz] at u'
            have U' := Lib.hid u'; clear u' S1 S2 hy hz
            have hyb : Value.int .u8 (y : Int) = Bv (UInt8.ofNat y) := byte_of rfl b256
            have HYB := Lib.hid hyb; clear hyb
            have hkW : k < W.heap.size := by rw [SZ.out]; exact hks
            have hne : ∀ g, (Value.slice A8 xs.length c8).ownBlock = some g → g ≠ k := own_iter O2.out IT1.out
            have HNE := Lib.hid hne; clear hne
            have HCE := Lib.hid he; clear he
            go_wp2_with (first
              | (go_at_fn g; refine HC.out.mono ?_; rintro e w3 ⟨rfl, rfl⟩)
              | (at_builtin; go_must (refine wpList_append_lies _ rfl _ _ 28 rfl w.heap.size 5 i0 (.int .u8 0) 1 1 Tryd.underlying28 hi hz0 hz1 hz2 rfl (by decide) _ xs.length (xs.map Bv) rfl (O2.out.alloc _) ⟨W.heap.size, 0, none⟩ 1 1 [.int .u8 (y : Int)] rfl rfl (World.news_of_block (heap_alloc_new _ _)) (by simp [Value.oneCell']) (by omega) (by unfold maxLen; omega) (by omega) (by simp; omega) (W.heap.size + 1) (by simp) ?_; intro g' cap' w4 own4 grow4 hg4 hlt4))
              | fail)
            have hit4 : w4.heap[k]? = some (.stringIter s (pos + 1)) := by
              rw [grow4.block k (by simp; omega) (fun e => HNE.out k e.symm rfl), Below.heap_alloc _ _ _ hkW]
              exact IT1.out
            have hB4 : RowKit.Below w.heap.size w w4 := (B2.out.alloc B2.out.size _).grown grow4 (by simp; omega) (fun i hi => (O2.out.lt i hi).1)
            have hO4 : w4.ownsRow w.heap.size 5 1 (.slice (some ⟨g', 0, none⟩) (xs.length + 1) cap') (xs ++ [UInt8.ofNat y]).length ((xs ++ [UInt8.ofNat y]).map Bv) := by
              rw [List.length_append, List.map_append, List.map_singleton, ← HYB.out]; exact own4
            have IT4 := Lib.hid hit4; have B4 := Lib.hid hB4; have O4 := Lib.hid hO4; clear hit4 hB4 hO4 own4 grow4
            go_wp2
            go_roundw
            case rel => exact ⟨pos + 1, z, e, xs ++ [UInt8.ofNat y], rfl, rfl, by omega, (show Aside _ from O4.out), (show Aside _ from IT4.out), (show Aside _ from B4.out), (show Aside _ from U'.out)⟩
            case measure => simp only [World.iterPos, IT4.out, IT.out]; omega
        · rw [if_neg (fun h => hv h.2)] at hcall
          have hr : R = (8, []) := by rw [HR.out]; exact hbad hv
          subst hr
          have HC := Lib.hid hcall; clear hcall hv hbad hstep
          go_wp2_with (first | (go_at_fn g; refine HC.out.mono ?_; rintro e w3 ⟨rfl, rfl⟩) | fail)
          go_ret2
          exact ⟨none, 0, rfl, Rd.nil _ _, B2.out⟩
      · have hnx : ∀ ty, (Instr.next (.pointer (some ⟨k, 0, none⟩)) true ty).run Tryd.prog wr = _ := fun ty => Lib.run_next_any_at wr k s pos ty IT.out hlt
        obtain ⟨hr128, -⟩ := decode_high s pos hlt (by omega)
        obtain ⟨r, hrr⟩ : ∃ r, r = (Utf8.decode s pos).1 := ⟨_, rfl⟩
        obtain ⟨wd, hwd⟩ : ∃ wd, wd = (Utf8.decode s pos).2 := ⟨_, rfl⟩
        rw [← hrr] at hr128
        rw [← hrr, ← hwd] at hnx
        have hb2 : RowKit.Below w.heap.size w (wr.iterAt k s (pos + wd)) := Lib.below_iterAt BW.out hwk s (pos + wd)
        have hcall := HN.out r (wr.iterAt k s (pos + wd))
        unfold numT at hcall
        rw [if_neg (fun h => by omega)] at hcall
        have hr : R = (8, []) := by rw [HR.out]; exact un_bad hlb (HH.out _ (by rw [← hgb]; omega))
        subst hr
        obtain ⟨W, hW⟩ : ∃ W, W = wr.iterAt k s (pos + wd) := ⟨_, rfl⟩
        rw [← hW] at hnx hcall hb2
        have B2 := Lib.hid hb2; have HC := Lib.hid hcall; clear hb2 hcall hW hrr hwd hgb
        go_wp2_with (first | (go_at_fn g; refine HC.out.mono ?_; rintro e w3 ⟨rfl, rfl⟩) | fail)
        go_ret2
        exact ⟨none, 0, rfl, Rd.nil _ _, B2.out⟩
    · have hnx : ∀ ty, (Instr.next (.pointer (some ⟨k, 0, none⟩)) true ty).run Tryd.prog wr = _ := fun ty => Lib.run_next_end_at wr k s pos ty IT.out hlt
      obtain rfl : pos = s.size := by omega
      have hfin : R = if 4 ≤ c ∨ h ≠ 0 then (8, []) else (0, xs) := by
        have u := U.out
        rw [← HBL.out] at u
        rw [HR.out]; exact u.fin
      by_cases hc : 4 ≤ c
      · rw [if_pos (Or.inl hc)] at hfin
        subst hfin
        have hc' : (4 : Int) ≤ (c : Int) := by omega
        go_wp2
        go_ret2
        exact ⟨none, 0, rfl, Rd.nil _ _, BW.out⟩
      · have hc' : ¬ (4 : Int) ≤ (c : Int) := by omega
        by_cases h0 : h = 0
        · subst h0
          rw [if_neg (by simp; omega)] at hfin
          subst hfin
          go_wp2
          go_ret2
          exact ⟨A8, c8, rfl, HRD.out, BW.out⟩
        · rw [if_pos (Or.inr h0)] at hfin
          subst hfin
          have h0' : ((h : Int) != 0) = true := by rw [bne_iff_ne]; omega
          go_wp2
          go_ret2
          exact ⟨none, 0, rfl, Rd.nil _ _, BW.out⟩
theorem unwritten_6 (g : Nat) (f : UInt8 → Nat) (s : ByteArray) (w : World) (hl : s.size ≤ 1000000) (eg : ∀ args w, (callFunc g args).run Tryd.prog w = .ok (.enter g args) w)
    (hnum : Num g f 6) (hhigh : ∀ c : UInt8, 128 ≤ c.toNat → ¬ f c < 2 ^ 6) :
    Calls Tryd.prog 44 #[.string s, .int .i64 6, .func (.func g) #[] #[]] w (BytesRes w (unP 6 f (bl s))) := by
  obtain ⟨i0, hi, hz0, hz1, hz2⟩ := info_parts infoU8
  obtain ⟨R, hR⟩ : ∃ R, R = unP 6 f (bl s) := ⟨_, rfl⟩
  rw [← hR]
  have HR := Lib.hid hR; clear hR
  have HN := Lib.hid hnum; clear hnum
  have HH := Lib.hid hhigh; clear hhigh
  have HBL := Lib.hid (bl_len s)
  obtain ⟨m, hm⟩ : ∃ m, m = s.size * 6 / 8 := ⟨_, rfl⟩
  have hml : m ≤ 1000000 := by omega
  have hmi : (s.size : Int) * 6 / 8 = (m : Int) := by omega
  have HM := Lib.hid hm; clear hm
  go_enter Tryd.func44, Tryd.ntmps44
  go_wp2_with (first | (at_make; go_must (refine wpList_make_own _ rfl _ _ 28 rfl w.heap.size 5 i0 (.int .u8 0) 1 Tryd.underlying28 hi hz0 hz1 _ _ _ m rfl rfl hmi (by rw [hz2]; omega) (by unfold maxLen; omega) (Nat.le_refl _) ?_; intro w1 hown hgr)) | fail)
  obtain ⟨k, hk⟩ : ∃ k, k = w1.heap.size := ⟨_, rfl⟩
  have hb1 : RowKit.Below w.heap.size w w1 := (RowKit.Below.refl _ w).grown hgr (Nat.le_refl _) (fun k e => by cases e)
  have hwk : w.heap.size ≤ k := by rw [hk]; exact hb1.size
  have hit0 : (w1.iter s 0).heap[k]? = some (.stringIter s 0) := by rw [hk]; exact World.iter_heap w1 s 0
  have hb0 : RowKit.Below w.heap.size w (w1.iter s 0) := hb1.alloc hb1.size _
  have ho0 : (w1.iter s 0).ownsRow w.heap.size 5 1 (.slice (some ⟨w.heap.size, 0, none⟩) 0 m) 0 [] := hown.alloc _
  have HB0 := Lib.hid hb0; have HO0 := Lib.hid ho0; clear hb0 ho0 hown hgr hb1
  simp only [← hk]
  have HK := Lib.hid hk; clear hk hmi
  go_loopw [8, 9, 10] (fun s8 s9 s10 wr => ∃ (pos h c : Nat) (xs : List UInt8), s9 = .int .u32 (h : Nat) ∧ s10 = .int .i64 (c : Nat) ∧ pos ≤ s.size ∧ Aside (wr.ownsRow w.heap.size 5 1 s8 xs.length (xs.map Bv)) ∧ Aside (wr.heap[k]? = some (.stringIter s pos)) ∧ Aside (RowKit.Below w.heap.size w wr) ∧ Aside (Un 6 f (bl s) pos xs h c)) (fun _ _ _ wr => s.size - wr.iterPos k)
  case atStart => exact ⟨0, 0, 0, [], rfl, rfl, by omega, HO0.out, hit0, HB0.out, Un.zero _ _ _⟩
  case round =>
    clear hit0
    obtain ⟨pos, h, c, xs, rfl, rfl, hp, OW, IT, BW, U⟩ := hrel
    obtain ⟨A8, c8, hv8, hrd8, -⟩ := own_rd OW.out
    subst hv8
    have HRD := Lib.hid hrd8; clear hrd8
    obtain ⟨hh1, hc8⟩ := U.out.lt
    have hh : h < 128 := by
      have : 2 ^ c ≤ 2 ^ 7 := Nat.pow_le_pow_right (by decide) (by omega)
      omega
    have hxl := U.out.len (by rw [HBL.out]; exact hp) (by decide)
    have hks : k < wr.heap.size := (Array.getElem?_eq_some_iff.1 IT.out).1
    clear hh1
    by_cases hlt : pos < s.size
    · have hlb : pos < (bl s).length := by rw [HBL.out]; exact hlt
      have hgb := get_bl s hlt
      by_cases ha : (s[pos]'hlt).toNat < 128
      · have hnx : ∀ ty, (Instr.next (.pointer (some ⟨k, 0, none⟩)) true ty).run Tryd.prog wr = _ := fun ty => Lib.run_next_ascii_at wr k s pos ty IT.out hlt ha
        have hcall := HN.out (s[pos]'hlt).toNat (wr.iterAt k s (pos + 1))
        have hit1 := Lib.iterAt_heap wr k s pos (pos + 1) IT.out
        have hb2 : RowKit.Below w.heap.size w (wr.iterAt k s (pos + 1)) := Lib.below_iterAt BW.out hwk s (pos + 1)
        have ho2 : (wr.iterAt k s (pos + 1)).ownsRow w.heap.size 5 1 (.slice A8 xs.length c8) xs.length (xs.map Bv) := own_moved OW.out (fun g hg => Lib.iterAt_other wr k g s (pos + 1) (own_iter OW.out IT.out g hg))
        have hsz : (wr.iterAt k s (pos + 1)).heap.size = wr.heap.size := Lib.iterAt_size _ _ _ _
        unfold numT at hcall
        rw [UInt8.ofNat_toNat, hgb] at hcall
        rw [hgb] at hnx ha
        obtain ⟨W, hW⟩ : ∃ W, W = wr.iterAt k s (pos + 1) := ⟨_, rfl⟩
        rw [← hW] at hnx hcall hit1 hb2 ho2 hsz
        clear hW hgb
        have hstep := @Un.step 6 f (bl s) pos xs h c U.out hlb
        have hbad := @un_bad 6 f (bl s) pos hlb
        generalize (bl s)[pos] = x at hnx hcall ha hstep hbad
        have hx0 := x.toNat_lt
        generalize x.toNat = r at hnx hcall ha hx0
        have IT1 := Lib.hid hit1; have B2 := Lib.hid hb2; have O2 := Lib.hid ho2; have SZ := Lib.hid hsz
        clear hit1 hb2 ho2 hsz
        by_cases hv : f x < 2 ^ 6
        · rw [if_pos ⟨ha, hv⟩] at hcall
          obtain ⟨s1, s2⟩ := hstep hv
          generalize f x = n at hv hcall s1 s2
          have hn : n < 64 := hv
          have HC := Lib.hid hcall; clear hcall hv hbad
          obtain ⟨H, hH⟩ : ∃ H, H = h * 2 ^ 6 + n := ⟨_, rfl⟩
          rw [← hH] at s1 s2
          have hH' : H = h * 64 + n := hH
          have hor : bits .or .u32 ((h : Int) * 64) (n : Int) = (H : Int) := by
            have h1 : h * 64 ||| n = h * 64 + n := by rw [Nat.or_comm, Nat.add_comm]; exact or_beside _ _ 6 (by omega)
            have h2 := u32_or_nat (h * 64) n (by omega) (by omega)
            rw [h1] at h2
            rw [hH']
            exact h2
          have hHl : H < 8192 := by omega
          have S1 := Lib.hid s1; have S2 := Lib.hid s2; clear s1 s2 hH hH'
          by_cases h8 : c + 6 < 8
          · have u' := S1.out h8
            have hc9 : ¬ (8 : Int) ≤ (c : Int) + 6 := by omega
            have U' := Lib.hid u'; clear u' S1 S2
            go_wp2_with (first | (go_at_fn g; refine HC.out.mono ?_; rintro e w3 ⟨rfl, rfl⟩) | fail)
            go_roundw
            case rel => exact ⟨pos + 1, H, c + 6, xs, rfl, by go_num, by omega, (show Aside _ from O2.out), (show Aside _ from IT1.out), (show Aside _ from B2.out), (show Aside _ from U'.out)⟩
            case measure => simp only [World.iterPos, IT1.out, IT.out]; omega
          · obtain ⟨e, he⟩ : ∃ e, c + 6 = 8 + e := ⟨c + 6 - 8, by omega⟩
            obtain ⟨b256, u'⟩ := S2.out e he (by omega)
            have hc9 : (8 : Int) ≤ (c : Int) + 6 := by omega
            have hee : (c : Int) + 6 - 8 = (e : Int) := by omega
            have he5 : e ≤ 5 := by omega
            obtain ⟨y, hy⟩ : ∃ y, y = H / 2 ^ e := ⟨_, rfl⟩
            obtain ⟨z, hz⟩ : ∃ z, z = H % 2 ^ e := ⟨_, rfl⟩
            have hsh : (H : Int) / 2 ^ e = (y : Int) := by rw [ntwo_pow, hy]; rfl
            have hand : bits .and .u32 (H : Int) ((2 : Int) ^ e - 1) = (z : Int) := by
              have h1 : (2 : Int) ^ e - 1 = ((2 ^ e - 1 : Nat) : Int) := by rw [ntwo_pow, Int.ofNat_sub (Nat.one_le_two_pow)]; rfl
              have h2 : 2 ^ e ≤ 2 ^ 5 := Nat.pow_le_pow_right (by decide) he5
              rw [h1, u32_and_nat _ _ (by omega) (by omega), Nat.and_two_pow_sub_one_eq_mod, hz]
            have hp1 : (2 : Int) ^ e ≤ 32 := by
              have h2 : 2 ^ e ≤ 2 ^ 5 := Nat.pow_le_pow_right (by decide) he5
              rw [ntwo_pow]; omega
            have hp0 : (1 : Int) ≤ (2 : Int) ^ e := by
              have h2 : 0 < 2 ^ e := Nat.two_pow_pos e
              rw [ntwo_pow]; omega
            rw [← hy] at b256 u'
            rw [← hz] at u'
            have U' := Lib.hid u'; clear u' S1 S2 hy hz
            have hyb : Value.int .u8 (y : Int) = Bv (UInt8.ofNat y) := byte_of rfl b256
            have HYB := Lib.hid hyb; clear hyb
            have hkW : k < W.heap.size := by rw [SZ.out]; exact hks
            have hne : ∀ g, (Value.slice A8 xs.length c8).ownBlock = some g → g ≠ k := own_iter O2.out IT1.out
            have HNE := Lib.hid hne; clear hne
            have HCE := Lib.hid he; clear he
            go_wp2_with (first
              | (go_at_fn g; refine HC.out.mono ?_; rintro e w3 ⟨rfl, rfl⟩)
              | (at_builtin; go_must (refine wpList_append_lies _ rfl _ _ 28 rfl w.heap.size 5 i0 (.int .u8 0) 1 1 Tryd.underlying28 hi hz0 hz1 hz2 rfl (by decide) _ xs.length (xs.map Bv) rfl (O2.out.alloc _) ⟨W.heap.size, 0, none⟩ 1 1 [.int .u8 (y : Int)] rfl rfl (World.news_of_block (heap_alloc_new _ _)) (by simp [Value.oneCell']) (by omega) (by unfold maxLen; omega) (by omega) (by simp; omega) (W.heap.size + 1) (by simp) ?_; intro g' cap' w4 own4 grow4 hg4 hlt4))
              | fail)
            have hit4 : w4.heap[k]? = some (.stringIter s (pos + 1)) := by
              rw [grow4.block k (by simp; omega) (fun e => HNE.out k e.symm rfl), Below.heap_alloc _ _ _ hkW]
              exact IT1.out
            have hB4 : RowKit.Below w.heap.size w w4 := (B2.out.alloc B2.out.size _).grown grow4 (by simp; omega) (fun i hi => (O2.out.lt i hi).1)
            have hO4 : w4.ownsRow w.heap.size 5 1 (.slice (some ⟨g', 0, none⟩) (xs.length + 1) cap') (xs ++ [UInt8.ofNat y]).length ((xs ++ [UInt8.ofNat y]).map Bv) := by
              rw [List.length_append, List.map_append, List.map_singleton, ← HYB.out]; exact own4
            have IT4 := Lib.hid hit4; have B4 := Lib.hid hB4; have O4 := Lib.hid hO4; clear hit4 hB4 hO4 own4 grow4
            go_wp2
            go_roundw
            case rel => exact ⟨pos + 1, z, e, xs ++ [UInt8.ofNat y], rfl, rfl, by omega, (show Aside _ from O4.out), (show Aside _ from IT4.out), (show Aside _ from B4.out), (show Aside _ from U'.out)⟩
            case measure => simp only [World.iterPos, IT4.out, IT.out]; omega
        · rw [if_neg (fun h => hv h.2)] at hcall
          have hr : R = (8, []) := by rw [HR.out]; exact hbad hv
          subst hr
          have HC := Lib.hid hcall; clear hcall hv hbad hstep
          go_wp2_with (first | (go_at_fn g; refine HC.out.mono ?_; rintro e w3 ⟨rfl, rfl⟩) | fail)
          go_ret2
          exact ⟨none, 0, rfl, Rd.nil _ _, B2.out⟩
      · have hnx : ∀ ty, (Instr.next (.pointer (some ⟨k, 0, none⟩)) true ty).run Tryd.prog wr = _ := fun ty => Lib.run_next_any_at wr k s pos ty IT.out hlt
        obtain ⟨hr128, -⟩ := decode_high s pos hlt (by omega)
        obtain ⟨r, hrr⟩ : ∃ r, r = (Utf8.decode s pos).1 := ⟨_, rfl⟩
        obtain ⟨wd, hwd⟩ : ∃ wd, wd = (Utf8.decode s pos).2 := ⟨_, rfl⟩
        rw [← hrr] at hr128
        rw [← hrr, ← hwd] at hnx
        have hb2 : RowKit.Below w.heap.size w (wr.iterAt k s (pos + wd)) := Lib.below_iterAt BW.out hwk s (pos + wd)
        have hcall := HN.out r (wr.iterAt k s (pos + wd))
        unfold numT at hcall
        rw [if_neg (fun h => by omega)] at hcall
        have hr : R = (8, []) := by rw [HR.out]; exact un_bad hlb (HH.out _ (by rw [← hgb]; omega))
        subst hr
        obtain ⟨W, hW⟩ : ∃ W, W = wr.iterAt k s (pos + wd) := ⟨_, rfl⟩
        rw [← hW] at hnx hcall hb2
        have B2 := Lib.hid hb2; have HC := Lib.hid hcall; clear hb2 hcall hW hrr hwd hgb
        go_wp2_with (first | (go_at_fn g; refine HC.out.mono ?_; rintro e w3 ⟨rfl, rfl⟩) | fail)
        go_ret2
        exact ⟨none, 0, rfl, Rd.nil _ _, B2.out⟩
    · have hnx : ∀ ty, (Instr.next (.pointer (some ⟨k, 0, none⟩)) true ty).run Tryd.prog wr = _ := fun ty => Lib.run_next_end_at wr k s pos ty IT.out hlt
      obtain rfl : pos = s.size := by omega
      have hfin : R = if 6 ≤ c ∨ h ≠ 0 then (8, []) else (0, xs) := by
        have u := U.out
        rw [← HBL.out] at u
        rw [HR.out]; exact u.fin
      by_cases hc : 6 ≤ c
      · rw [if_pos (Or.inl hc)] at hfin
        subst hfin
        have hc' : (6 : Int) ≤ (c : Int) := by omega
        go_wp2
        go_ret2
        exact ⟨none, 0, rfl, Rd.nil _ _, BW.out⟩
      · have hc' : ¬ (6 : Int) ≤ (c : Int) := by omega
        by_cases h0 : h = 0
        · subst h0
          rw [if_neg (by simp; omega)] at hfin
          subst hfin
          go_wp2
          go_ret2
          exact ⟨A8, c8, rfl, HRD.out, BW.out⟩
        · rw [if_pos (Or.inr h0)] at hfin
          subst hfin
          have h0' : ((h : Int) != 0) = true := by rw [bne_iff_ne]; omega
          go_wp2
          go_ret2
          exact ⟨none, 0, rfl, Rd.nil _ _, BW.out⟩
end
end Go.Proofs.YtmgjlldccmgpcaaDoor
