/-
  HashKeys (P3.6): a key of at most 64 bytes is as it is with bytes 0 behind it, and a longer one as its sum. The condition is the table's: it holds what its initialiser lays, which the card ties to the program's text.
-/
import Derived.Test.YtleppphcjncfhaaDoorHt
import Derived.Test.YtleppphcjncfhaaDoorHr
import Derived.Test.YtleppphcjncfhaaDoorKn
import Derived.Test.YtleppphcjncfhaaDoorHp
import Derived.Test.YtleppphcjncfhaaDoorAq
import Derived.Deep.RegionHeld3
import Derived.Laws.MakeOwn
namespace Go.Proofs.YtleppphcjncfhaaDoor
set_option linter.unusedVariables false
set_option linter.unusedSimpArgs false
open Go.ChangeShapes Go.WideShapes Go.ChangeAt Go.RowKit

theorem macS_long {K : List UInt8} (T : List UInt8) (h : 64 < K.length) : macS (sha K) T = macS K T := by
  have : fullK (sha K) = fullK K := by
    unfold fullK
    rw [if_pos h, if_neg (by rw [sha_length]; omega), sha_length]
  unfold macS
  rw [this]
theorem macS_zeros {K : List UInt8} (T : List UInt8) {z : Nat} (h : K.length + z ≤ 64) : macS (K ++ List.replicate z 0) T = macS K T := by
  have : fullK (K ++ List.replicate z 0) = fullK K := by
    unfold fullK
    rw [if_neg (by rw [List.length_append, List.length_replicate]; omega), if_neg (by omega), List.length_append, List.length_replicate, List.append_assoc, List.replicate_append_replicate, show z + (64 - (K.length + z)) = 64 - K.length by omega]
  unfold macS
  rw [this]
theorem macS_length' (K l : List UInt8) : (macS K l).length = 32 := sha_length _
theorem parts_two (w : World) (A B : Option Addr) (ca cb n m : Nat) (xs ys : List UInt8) (hn : xs.length = n) (hm : ys.length = m) (hx : Rd w A (xs.map Bv)) (hy : Rd w B (ys.map Bv)) (hc : n ≤ ca) (hca : ca ≤ 9223372036854775807) (hd : m ≤ cb) (hcb : cb ≤ 9223372036854775807) :
    PartsRd (w.alloc (.cells #[.slice A n ca, .slice B m cb] 28)) (some ⟨w.heap.size, 0, none⟩) [(A, ca, xs), (B, cb, ys)] := by
  subst hn hm
  exact parts_new w [(A, ca, xs), (B, cb, ys)] fun p hp => by
    simp only [List.mem_cons, List.not_mem_nil, or_false] at hp
    rcases hp with rfl | rfl
    · exact ⟨hx, hc, hca⟩
    · exact ⟨hy, hd, hcb⟩
theorem mac_one (w : World) (A B : Option Addr) (ca cb n m : Nat) (K T : List UInt8) (l : List UInt8) (hl : macS K T = l) (hn : K.length = n) (hm : T.length = m) (hx : Rd w A (K.map Bv)) (hy : Rd w B (T.map Bv)) (hc : n ≤ ca) (hca : ca ≤ 9223372036854775807) (hd : m ≤ cb) (hcb : cb ≤ 9223372036854775807)
    (hb : n ≤ 100000000) (hb2 : m ≤ 90000000) (ht : AddsMet w) :
    Calls Tryd.prog 23 #[.slice A n ca, .slice (some ⟨w.heap.size, 0, none⟩) 1 1] (w.alloc (.cells #[.slice B m cb] 28)) fun e w' => e = .returned (sumV l) ∧ Below w.heap.size w w' := by
  subst hl
  have hbl := (Below.refl _ w).alloc (Nat.le_refl _) (.cells #[.slice B m cb] 28)
  refine (mac_any _ A (some ⟨w.heap.size, 0, none⟩) ca n 1 1 K [(B, cb, T)] hn (hx.below hbl) hc hca hb (ht.below hbl) rfl (parts_one w B cb m T hm hy hd hcb) (by rw [joined_one, hm]; exact hb2) (by decide)).mono ?_
  rintro e w' ⟨rfl, h2⟩
  rw [joined_one]
  exact ⟨rfl, hbl.trans (h2.mono (by simp))⟩
theorem join_two_here (w : World) (A B : Option Addr) (ca cb la lb : Nat) (xs ys zs : List UInt8) (hz : xs ++ ys = zs) (hla : xs.length = la) (hlb : ys.length = lb) (hx : Rd w A (xs.map Bv)) (hy : Rd w B (ys.map Bv)) (hl : la + lb ≤ 140737488351232) :
    Calls Tryd.prog 17 #[.slice (some ⟨w.heap.size, 0, none⟩) 2 2] (w.alloc (.cells #[.slice A la ca, .slice B lb cb] 28)) fun e w' =>
      ∃ C c, e = .returned (.slice C (la + lb) c) ∧ Rd w' C (zs.map Bv) ∧ la + lb ≤ c ∧ c ≤ maxLen ∧ Below w.heap.size w w' := by
  subst hz hla hlb
  refine (join_two_own w A B ca cb xs ys hx hy hl).mono ?_
  rintro e w' ⟨v, rfl, h1, h2⟩
  obtain ⟨C, c, rfl, rd, _, h3, h4⟩ := own_rd h1
  rw [List.length_append] at h3 ⊢
  exact ⟨C, c, rfl, rd, h3, h4, h2⟩
theorem made_one (v : Value) (z : Nat) (h : v.cells = #[v]) : madeCells v.cells z = Array.replicate z v := by
  rw [h]
  unfold madeCells
  apply Array.ext
  · simp
  · intro i h1 h2
    simp [Nat.mod_one]
theorem run_zeros (w : World) (z : Nat) (h : z ≤ 1000) : (Instr.makeSlice 28 (.int .i64 (z : Int)) (.int .i64 (z : Int))).run Tryd.prog w = .ok (.slice (some ⟨w.heap.size, 0, none⟩) z z) (w.alloc (.cells (Array.replicate z (.int .u8 0)) 5)) := by
  obtain ⟨i0, hi, hz0, hz1, hz2⟩ := info_parts infoU8
  have hm := made_one (.int .u8 0) (z * 1) rfl
  rw [Nat.mul_one] at hm
  rw [run_makeSlice w 28 5 i0 (.int .u8 0) Tryd.underlying28 hi hz0 .i64 .i64 z z (by omega) (by omega) (by rw [hz1]; omega) (by rw [hz2]; omega) (by omega), hz1, Int.toNat_natCast, Nat.mul_one, hm]
theorem zeros_below {w w' : World} {o : Obj} {B : Nat} (h : Below B (w.drew.alloc o) w') (hB : B = w.heap.size + 1) : Below w.heap.size w w' := by
  subst hB
  have h1 : Below w.heap.size w (w.drew.alloc o) := (below_drewN (Below.refl _ w) 1).alloc (Nat.le_refl _) o
  exact h1.trans (h.mono (Nat.le_succ _))
theorem join_far (W : World) (R : Nat) (A B : Option Addr) (ca cb la lb : Nat) (xs ys : List UInt8) (hla : xs.length = la) (hlb : ys.length = lb) (hr : W.heap[R]? = some (.cells #[.slice A la ca, .slice B lb cb] 28)) (hx : Rd W A (xs.map Bv)) (hy : Rd W B (ys.map Bv)) (hl : la + lb ≤ 140737488351232) :
    Calls Tryd.prog 17 #[.slice (some ⟨R, 0, none⟩) 2 2] W fun e w' => ∃ C c, e = .returned (.slice C (la + lb) c) ∧ Rd w' C ((xs ++ ys).map Bv) ∧ la + lb ≤ c ∧ c ≤ maxLen ∧ Below W.heap.size W w' := by
  subst hla hlb
  have hP : ∀ p ∈ [(A, ca, xs), (B, cb, ys)], Rd W p.1 (p.2.2.map Bv) := by
    intro p hp
    simp at hp
    rcases hp with rfl | rfl
    · exact hx
    · exact hy
  have hj : joined [(A, ca, xs), (B, cb, ys)] = xs ++ ys := by simp [joined]
  have hS : Rd W (some ⟨R, 0, none⟩) ([(A, ca, xs), (B, cb, ys)].map partV) := by
    intro k v hv
    refine ⟨R, 0, rfl, ?_⟩
    rw [cell_blk hr, Nat.zero_add]
    simpa [partV] using hv
  refine (join_any W (some ⟨R, 0, none⟩) 2 [(A, ca, xs), (B, cb, ys)] hS hP (by rw [hj, List.length_append]; exact hl) (by simp)).mono ?_
  rintro e w4 ⟨v4, rfl, own4, hb4⟩
  rw [hj] at own4
  obtain ⟨A4, c4, rfl, rd4, _, h3, h4⟩ := own_rd own4
  rw [List.length_append] at h3 ⊢
  exact ⟨A4, c4, rfl, rd4, h3, h4, hb4⟩
theorem mac_far (W : World) (R : Nat) (A B : Option Addr) (ca cb n m : Nat) (K T : List UInt8) (l : List UInt8) (hl : macS K T = l) (hn : K.length = n) (hm : T.length = m) (hr : W.heap[R]? = some (.cells #[.slice B m cb] 28)) (hx : Rd W A (K.map Bv)) (hy : Rd W B (T.map Bv)) (hc : n ≤ ca) (hca : ca ≤ 9223372036854775807) (hd : m ≤ cb) (hcb : cb ≤ 9223372036854775807)
    (hb : n ≤ 100000000) (hb2 : m ≤ 90000000) (ht : AddsMet W) :
    Calls Tryd.prog 23 #[.slice A n ca, .slice (some ⟨R, 0, none⟩) 1 1] W fun e w' => e = .returned (sumV l) ∧ Below W.heap.size W w' := by
  subst hl
  have hp : PartsRd W (some ⟨R, 0, none⟩) [(B, cb, T)] := by
    subst hm
    refine ⟨fun k v hv => ⟨R, 0, rfl, ?_⟩, fun p hp => ?_⟩
    · rw [cell_blk hr, Nat.zero_add]; simpa [partV] using hv
    · simp only [List.mem_cons, List.not_mem_nil, or_false] at hp
      subst hp
      exact ⟨hy, hd, hcb⟩
  refine (mac_any W A (some ⟨R, 0, none⟩) ca n 1 1 K [(B, cb, T)] hn hx hc hca hb ht rfl hp (by rw [joined_one, hm]; exact hb2) (by decide)).mono ?_
  rintro e w' ⟨rfl, h2⟩
  rw [joined_one]
  exact ⟨rfl, h2⟩
section
set_option maxHeartbeats 1600000
set_option maxRecDepth 100000
theorem keys_walk (A : Option Addr) (ca : Nat) (K : List UInt8) (B : Option Addr) (cb : Nat) (T : List UInt8) (zs : Int) (w : World) (ht : AddsMet w) (hx : Rd w A (K.map Bv)) (hla : K.length ≤ ca) (hca : ca ≤ 9223372036854775807)
    (hy : Rd w B (T.map Bv)) (hlb : T.length ≤ cb) (hcb : cb ≤ 9223372036854775807) (hz1 : -9223372036854775808 ≤ zs) (hz2 : zs ≤ 9223372036854775807) :
    Calls Tryd.prog 7 #[.slice A K.length ca, .slice B T.length cb, .int .i64 zs] w fun e w' => e = .returned (.bool true) ∧ Below w.heap.size w w' := by
  have HT := Lib.hid ht; clear ht
  obtain ⟨n, hn⟩ : ∃ n, n = K.length := ⟨_, rfl⟩
  obtain ⟨m, hm⟩ : ∃ m, m = T.length := ⟨_, rfl⟩
  rw [← hn] at hla ⊢
  rw [← hm] at hlb ⊢
  have HN := Lib.hid hn; clear hn
  have HM := Lib.hid hm; clear hm
  go_enter Tryd.func7, Tryd.ntmps7
  go_wp2_with fail
  refine (live_any w HT.out).mono ?_
  rintro e w1 ⟨rfl, hb1⟩
  have hx1 := hx.below hb1
  have hy1 := hy.below hb1
  have hp1 := parts_two w1 A B ca cb n m K T HN.out.symm HM.out.symm hx1 hy1 hla hca hlb hcb
  have hb2 := hb1.alloc hb1.size (.cells #[.slice A n ca, .slice B m cb] 28)
  have hx2 := hx1.alloc (.cells #[.slice A n ca, .slice B m cb] 28)
  have hy2 := hy1.alloc (.cells #[.slice A n ca, .slice B m cb] 28)
  have ht2 := HT.out.below hb2
  clear hx hy hx1 hy1
  go_wp2_with fail
  refine (short_any _ (some ⟨w1.heap.size, 0, none⟩) 2 2 [(A, ca, K), (B, cb, T)] rfl hp1.row (by decide)).mono ?_
  rintro e w2 ⟨rfl, rfl⟩
  clear hp1 HT
  generalize w1.alloc (.cells #[.slice A n ca, .slice B m cb] 28) = w2 at *
  have HT2 := Lib.hid ht2; clear ht2
  cases hs : shortB [(A, ca, K), (B, cb, T)] with
  | false =>
    clear hs
    go_wp2_with fail
    refine (live_any w2 HT2.out).mono ?_
    rintro e w3 ⟨rfl, hb3⟩
    have hb3' := hb2.trans (hb3.mono hb2.size)
    go_wp2
    go_ret
    exact ⟨rfl, hb3'⟩
  | true =>
    have hk2000 : n ≤ 2000 := by
      have := (shortB_spec hs).1 (A, ca, K) (by simp)
      simpa [HN.out] using this
    have ht2000 : m ≤ 2000 := by
      have := (shortB_spec hs).1 (B, cb, T) (by simp)
      simpa [HM.out] using this
    clear hs
    have hmc := mac_one w2 A B ca cb n m K T _ rfl HN.out.symm HM.out.symm hx2 hy2 hla hca hlb hcb (by omega) (by omega) HT2.out
    have HX2 := Lib.hid hx2; clear hx2
    have HY2 := Lib.hid hy2; clear hy2
    have HMC := Lib.hid hmc; clear hmc
    go_wp2_with fail
    refine HMC.out.mono ?_
    rintro e w3 ⟨rfl, hb3⟩
    have hb3' := hb2.trans (hb3.mono hb2.size)
    have hx3 := HX2.out.below hb3
    have hy3 := HY2.out.below hb3
    have ht3 := HT2.out.below hb3
    have HX3 := Lib.hid hx3; clear hx3
    have HY3 := Lib.hid hy3; clear hy3
    have HT3 := Lib.hid ht3; clear ht3
    obtain ⟨sl, hsl2⟩ : ∃ sl, sl = macS K T := ⟨_, rfl⟩
    rw [← hsl2]
    have hsl : sl.length = 32 := by rw [hsl2]; exact macS_length' _ _
    obtain ⟨cm, hcm'⟩ : ∃ cm, cm = sl.map Bv := ⟨_, rfl⟩
    have hcn : cm.length = 32 := by rw [hcm', List.length_map, hsl]
    have hone : ∀ v ∈ cm, v.oneCell' = true := by rw [hcm']; exact bytes_one _
    unfold sumV
    rw [← hcm']
    have HCM := Lib.hid hcm'; clear hcm'
    have HCN := Lib.hid hcn; clear hcn
    have HON := Lib.hid hone; clear hone
    have HSL := Lib.hid hsl; clear hsl
    have HS2 := Lib.hid hsl2; clear hsl2
    clear hb3 HX2 HY2 HT2 hb2 HMC
    by_cases hbig : (n : Int) ≤ 64
    · have hd : decide (64 < (n : Int)) = false := by simp; omega
      go_wp2_with (first
        | (refine wpList_store_agg (o := ⟨none, _, _, _, _, _⟩) ?_ 25 (.tmp 7) (.tmp 22) ?_ w3.heap.size 0 cm ?_ ?_ 25 _ (heap_alloc_new w3 _) ?_ ?_ HON.out ?_; rfl; rfl; rfl; rfl; (rw [HCN.out]; kernel_rfl); (rw [HCN.out]; decide); intro w4 hg4 hm4 hs4)
        | fail)
      obtain ⟨hg4', hb4, hz4⟩ := fresh_store hg4 hm4 hs4 HCN.out
      have hb4' := hb3'.trans (hb4.mono hb3'.size)
      have hx4 := HX3.out.below hb4
      have hy4 := HY3.out.below hb4
      have ht4 := HT3.out.below hb4
      obtain ⟨z, hz⟩ : ∃ z : Nat, (z : Int) = min (max zs 0) (64 - (n : Int)) := ⟨(min (max zs 0) (64 - (n : Int))).toNat, by omega⟩
      have hz64 : n + z ≤ 64 := by omega
      have hzz : z ≤ 64 := by omega
      have hl4 : w3.heap.size < w4.heap.size := blk_lt hg4'
      have hzr : Rd (w4.drew.alloc (.cells (Array.replicate z (.int .u8 0)) 5)) (some ⟨w4.heap.size, 0, none⟩) ((List.replicate z (0 : UInt8)).map Bv) := by
        have := rd_row w4.drew (List.replicate z (.int .u8 0)) 5
        rw [List.map_replicate, show Bv 0 = .int .u8 0 from rfl]
        simpa using this
      clear hzr
      have zr : ∀ (W : World) (g : Nat), W.heap[g]? = some (.cells (Array.replicate z (.int .u8 0)) 5) → Rd W (some ⟨g, 0, none⟩) ((List.replicate z (0 : UInt8)).map Bv) := by
        intro W g hW k v hv
        refine ⟨g, 0, rfl, ?_⟩
        rw [cell_blk hW, Nat.zero_add]
        rw [List.map_replicate, show Bv 0 = .int .u8 0 from rfl] at hv
        rw [← hv, Array.getElem?_replicate, List.getElem?_replicate]
      have e1 : Below w4.heap.size w4 ((w4.alloc (.cells (Array.replicate z (.int .u8 0)) 5)).alloc (.cells #[.slice A n ca, .slice (some ⟨w4.heap.size, 0, none⟩) z z] 28)).drew := below_drewN (((Below.refl _ w4).alloc (Nat.le_refl _) _).alloc (by rw [World.size_alloc]; omega) _) 1
      have r1 : ((w4.alloc (.cells (Array.replicate z (.int .u8 0)) 5)).alloc (.cells #[.slice A n ca, .slice (some ⟨w4.heap.size, 0, none⟩) z z] 28)).drew.heap[w4.heap.size + 1]? = some (.cells #[.slice A n ca, .slice (some ⟨w4.heap.size, 0, none⟩) z z] 28) := by
        have h := heap_alloc_new (w4.alloc (.cells (Array.replicate z (.int .u8 0)) 5)) (.cells #[.slice A n ca, .slice (some ⟨w4.heap.size, 0, none⟩) z z] 28)
        rw [World.size_alloc] at h
        exact h
      have z1 : ((w4.alloc (.cells (Array.replicate z (.int .u8 0)) 5)).alloc (.cells #[.slice A n ca, .slice (some ⟨w4.heap.size, 0, none⟩) z z] 28)).drew.heap[w4.heap.size]? = some (.cells (Array.replicate z (.int .u8 0)) 5) := by
        have h := heap_alloc_new w4 (.cells (Array.replicate z (.int .u8 0)) 5)
        exact (heap_alloc_old _ _ (by rw [World.size_alloc]; omega)).trans (h)
      have HJ1 := Lib.hid (join_far _ (w4.heap.size + 1) A (some ⟨w4.heap.size, 0, none⟩) ca z n z K (List.replicate z 0) HN.out.symm (by simp) r1 (hx4.below e1) (zr _ _ z1) (by omega))
      have E1 := Lib.hid e1; clear e1 r1 z1
      have e2 : Below w4.heap.size w4 (((w4.alloc (.cells (Array.replicate z (.int .u8 0)) 5)).alloc (.cells #[.slice A n ca, .slice (some ⟨w4.heap.size, 0, none⟩) z z] 28)).alloc (.cells #[.slice B m cb] 28)).drew := below_drewN ((((Below.refl _ w4).alloc (Nat.le_refl _) _).alloc (by rw [World.size_alloc]; omega) _).alloc (by rw [World.size_alloc, World.size_alloc]; omega) _) 1
      have r2 : (((w4.alloc (.cells (Array.replicate z (.int .u8 0)) 5)).alloc (.cells #[.slice A n ca, .slice (some ⟨w4.heap.size, 0, none⟩) z z] 28)).alloc (.cells #[.slice B m cb] 28)).drew.heap[w4.heap.size + 1]? = some (.cells #[.slice A n ca, .slice (some ⟨w4.heap.size, 0, none⟩) z z] 28) := by
        have h := heap_alloc_new (w4.alloc (.cells (Array.replicate z (.int .u8 0)) 5)) (.cells #[.slice A n ca, .slice (some ⟨w4.heap.size, 0, none⟩) z z] 28)
        rw [World.size_alloc] at h
        exact (heap_alloc_old _ _ (by rw [World.size_alloc, World.size_alloc]; omega)).trans (h)
      have z2 : (((w4.alloc (.cells (Array.replicate z (.int .u8 0)) 5)).alloc (.cells #[.slice A n ca, .slice (some ⟨w4.heap.size, 0, none⟩) z z] 28)).alloc (.cells #[.slice B m cb] 28)).drew.heap[w4.heap.size]? = some (.cells (Array.replicate z (.int .u8 0)) 5) := by
        have h := heap_alloc_new w4 (.cells (Array.replicate z (.int .u8 0)) 5)
        exact (heap_alloc_old _ _ (by rw [World.size_alloc, World.size_alloc]; omega)).trans ((heap_alloc_old _ _ (by rw [World.size_alloc]; omega)).trans (h))
      have HJ2 := Lib.hid (join_far _ (w4.heap.size + 1) A (some ⟨w4.heap.size, 0, none⟩) ca z n z K (List.replicate z 0) HN.out.symm (by simp) r2 (hx4.below e2) (zr _ _ z2) (by omega))
      have t2 : (((w4.alloc (.cells (Array.replicate z (.int .u8 0)) 5)).alloc (.cells #[.slice A n ca, .slice (some ⟨w4.heap.size, 0, none⟩) z z] 28)).alloc (.cells #[.slice B m cb] 28)).drew.heap[w4.heap.size + 1 + 1]? = some (.cells #[.slice B m cb] 28) := by
        have h := heap_alloc_new ((w4.alloc (.cells (Array.replicate z (.int .u8 0)) 5)).alloc (.cells #[.slice A n ca, .slice (some ⟨w4.heap.size, 0, none⟩) z z] 28)) (.cells #[.slice B m cb] 28)
        rw [World.size_alloc, World.size_alloc] at h
        exact h
      have T2 := Lib.hid t2; clear t2
      have E2 := Lib.hid e2; clear e2 r2 z2
      have e3 : Below w4.heap.size w4 (((w4.alloc (.cells (Array.replicate z (.int .u8 0)) 5)).alloc (.cells #[.slice B m cb] 28)).alloc (.cells #[.slice A n ca, .slice (some ⟨w4.heap.size, 0, none⟩) z z] 28)).drew := below_drewN ((((Below.refl _ w4).alloc (Nat.le_refl _) _).alloc (by rw [World.size_alloc]; omega) _).alloc (by rw [World.size_alloc, World.size_alloc]; omega) _) 1
      have r3 : (((w4.alloc (.cells (Array.replicate z (.int .u8 0)) 5)).alloc (.cells #[.slice B m cb] 28)).alloc (.cells #[.slice A n ca, .slice (some ⟨w4.heap.size, 0, none⟩) z z] 28)).drew.heap[w4.heap.size + 1 + 1]? = some (.cells #[.slice A n ca, .slice (some ⟨w4.heap.size, 0, none⟩) z z] 28) := by
        have h := heap_alloc_new ((w4.alloc (.cells (Array.replicate z (.int .u8 0)) 5)).alloc (.cells #[.slice B m cb] 28)) (.cells #[.slice A n ca, .slice (some ⟨w4.heap.size, 0, none⟩) z z] 28)
        rw [World.size_alloc, World.size_alloc] at h
        exact h
      have z3 : (((w4.alloc (.cells (Array.replicate z (.int .u8 0)) 5)).alloc (.cells #[.slice B m cb] 28)).alloc (.cells #[.slice A n ca, .slice (some ⟨w4.heap.size, 0, none⟩) z z] 28)).drew.heap[w4.heap.size]? = some (.cells (Array.replicate z (.int .u8 0)) 5) := by
        have h := heap_alloc_new w4 (.cells (Array.replicate z (.int .u8 0)) 5)
        exact (heap_alloc_old _ _ (by rw [World.size_alloc, World.size_alloc]; omega)).trans ((heap_alloc_old _ _ (by rw [World.size_alloc]; omega)).trans (h))
      have HJ3 := Lib.hid (join_far _ (w4.heap.size + 1 + 1) A (some ⟨w4.heap.size, 0, none⟩) ca z n z K (List.replicate z 0) HN.out.symm (by simp) r3 (hx4.below e3) (zr _ _ z3) (by omega))
      have t3 : (((w4.alloc (.cells (Array.replicate z (.int .u8 0)) 5)).alloc (.cells #[.slice B m cb] 28)).alloc (.cells #[.slice A n ca, .slice (some ⟨w4.heap.size, 0, none⟩) z z] 28)).drew.heap[w4.heap.size + 1]? = some (.cells #[.slice B m cb] 28) := by
        have h := heap_alloc_new (w4.alloc (.cells (Array.replicate z (.int .u8 0)) 5)) (.cells #[.slice B m cb] 28)
        rw [World.size_alloc] at h
        exact (heap_alloc_old _ _ (by rw [World.size_alloc, World.size_alloc]; omega)).trans (h)
      have T3 := Lib.hid t3; clear t3
      have E3 := Lib.hid e3; clear e3 r3 z3
      have e4 : Below w4.heap.size w4 (((w4.alloc (.cells #[.slice B m cb] 28)).alloc (.cells (Array.replicate z (.int .u8 0)) 5)).alloc (.cells #[.slice A n ca, .slice (some ⟨w4.heap.size + 1, 0, none⟩) z z] 28)).drew := below_drewN ((((Below.refl _ w4).alloc (Nat.le_refl _) _).alloc (by rw [World.size_alloc]; omega) _).alloc (by rw [World.size_alloc, World.size_alloc]; omega) _) 1
      have r4 : (((w4.alloc (.cells #[.slice B m cb] 28)).alloc (.cells (Array.replicate z (.int .u8 0)) 5)).alloc (.cells #[.slice A n ca, .slice (some ⟨w4.heap.size + 1, 0, none⟩) z z] 28)).drew.heap[w4.heap.size + 1 + 1]? = some (.cells #[.slice A n ca, .slice (some ⟨w4.heap.size + 1, 0, none⟩) z z] 28) := by
        have h := heap_alloc_new ((w4.alloc (.cells #[.slice B m cb] 28)).alloc (.cells (Array.replicate z (.int .u8 0)) 5)) (.cells #[.slice A n ca, .slice (some ⟨w4.heap.size + 1, 0, none⟩) z z] 28)
        rw [World.size_alloc, World.size_alloc] at h
        exact h
      have z4 : (((w4.alloc (.cells #[.slice B m cb] 28)).alloc (.cells (Array.replicate z (.int .u8 0)) 5)).alloc (.cells #[.slice A n ca, .slice (some ⟨w4.heap.size + 1, 0, none⟩) z z] 28)).drew.heap[w4.heap.size + 1]? = some (.cells (Array.replicate z (.int .u8 0)) 5) := by
        have h := heap_alloc_new (w4.alloc (.cells #[.slice B m cb] 28)) (.cells (Array.replicate z (.int .u8 0)) 5)
        rw [World.size_alloc] at h
        exact (heap_alloc_old _ _ (by rw [World.size_alloc, World.size_alloc]; omega)).trans (h)
      have HJ4 := Lib.hid (join_far _ (w4.heap.size + 1 + 1) A (some ⟨w4.heap.size + 1, 0, none⟩) ca z n z K (List.replicate z 0) HN.out.symm (by simp) r4 (hx4.below e4) (zr _ _ z4) (by omega))
      have t4 : (((w4.alloc (.cells #[.slice B m cb] 28)).alloc (.cells (Array.replicate z (.int .u8 0)) 5)).alloc (.cells #[.slice A n ca, .slice (some ⟨w4.heap.size + 1, 0, none⟩) z z] 28)).drew.heap[w4.heap.size]? = some (.cells #[.slice B m cb] 28) := by
        have h := heap_alloc_new w4 (.cells #[.slice B m cb] 28)
        exact (heap_alloc_old _ _ (by rw [World.size_alloc, World.size_alloc]; omega)).trans ((heap_alloc_old _ _ (by rw [World.size_alloc]; omega)).trans (h))
      have T4 := Lib.hid t4; clear t4
      have E4 := Lib.hid e4; clear e4 r4 z4
      clear zr
      have HG4 := Lib.hid hg4'; clear hg4' hg4 hm4 hs4
      have heq : ∀ u : World, (Op.equalIn 10000 25 (.agg cm.toArray) (.agg cm.toArray)).run Tryd.prog u = .ok true u := fun u => by
        rw [HCM.out, eq_bytes u 25 32 sl sl Tryd.underlying25 HSL.out HSL.out]; simp
      have hgd : Tryd.prog.eqGuardType Tryd.prog.depth 25 = false := by kernel_rfl
      have hr4 : w4.rangeAt w3.heap.size 0 cm := fun j v hv => by rw [cell_blk HG4.out, Nat.zero_add]; simpa using hv
      have hu := Tryd.underlying25
      have hi : (Tryd.prog.info? 25).map (·.size) = some cm.length := by rw [HCN.out]; kernel_rfl
      have hw64 : IntKind.i64.wrap (64 - (n : Int)) = 64 - n := by simp [IntKind.wrap, IntKind.bits, IntKind.signed]; omega
      have hmin : min (max zs 0) (64 - (n : Int)) = (z : Int) := hz.symm
      have hmk := fun (W : World) => run_zeros W z (by omega)
      have HX4 := Lib.hid hx4; clear hx4
      have HY4 := Lib.hid hy4; clear hy4
      have HT4 := Lib.hid ht4; clear ht4
      have HB4 := Lib.hid hb4'; clear hb4'
      have HBD := Lib.hid (And.intro hlb (And.intro hcb (And.intro hk2000 ht2000)))
      clear hz hb4 hb3' HX3 HY3 HT3 hz4 hz1 hz2 hla hca hlb hcb hk2000 ht2000 hbig
      go_region_held3 (fun w' => w'.rangeAt w3.heap.size 0 cm) (first | exact World.rangeAt_alloc hr5 _ | exact hr5 | exact hr7 | go_keep_ranges) (first
        | (go_at_call 17; (with_reducible refine HJ1.out.mono ?_); rintro e w5 ⟨C5, c5, rfl, rd5, hn5, hm5, hb5⟩; have hb5' : Below w4.heap.size w4 w5 := E1.out.trans (hb5.mono E1.out.size); have hr5 : w5.rangeAt w3.heap.size 0 cm := (fun j v hv => by rw [cell_blk ((hb5'.block _ hl4).trans HG4.out), Nat.zero_add]; simpa using hv); have HM5 := Lib.hid (mac_one w5 C5 B c5 cb (n + z) m (K ++ List.replicate z 0) T sl (by rw [macS_zeros T (by have := HN.out; omega)]; exact HS2.out.symm) (by rw [List.length_append, List.length_replicate, ← HN.out]) HM.out.symm rd5 (HY4.out.below hb5') hn5 (by unfold maxLen at hm5; omega) HBD.out.1 HBD.out.2.1 (by omega) (by have := HBD.out.2.2.2; omega) (HT4.out.below hb5')); have HB5 := Lib.hid hb5'; have hl5 : w3.heap.size < w5.heap.size := Nat.lt_of_lt_of_le hl4 hb5'.size; clear hb5 hb5' rd5 hn5 hm5)
        | (go_at_call 17; (with_reducible refine HJ2.out.mono ?_); rintro e w5 ⟨C5, c5, rfl, rd5, hn5, hm5, hb5⟩; have ht5 := (hb5.block (w4.heap.size + 1 + 1) (blk_lt T2.out)).trans T2.out; have hb5' : Below w4.heap.size w4 w5 := E2.out.trans (hb5.mono E2.out.size); have hr5 : w5.rangeAt w3.heap.size 0 cm := (fun j v hv => by rw [cell_blk ((hb5'.block _ hl4).trans HG4.out), Nat.zero_add]; simpa using hv); have HM5 := Lib.hid (mac_far w5 (w4.heap.size + 1 + 1) C5 B c5 cb (n + z) m (K ++ List.replicate z 0) T sl (by rw [macS_zeros T (by have := HN.out; omega)]; exact HS2.out.symm) (by rw [List.length_append, List.length_replicate, ← HN.out]) HM.out.symm ht5 rd5 (HY4.out.below hb5') hn5 (by unfold maxLen at hm5; omega) HBD.out.1 HBD.out.2.1 (by omega) (by have := HBD.out.2.2.2; omega) (HT4.out.below hb5')); have HB5 := Lib.hid hb5'; have hl5 : w3.heap.size < w5.heap.size := Nat.lt_of_lt_of_le hl4 hb5'.size; clear hb5 hb5' rd5 hn5 hm5)
        | (go_at_call 17; (with_reducible refine HJ3.out.mono ?_); rintro e w5 ⟨C5, c5, rfl, rd5, hn5, hm5, hb5⟩; have ht5 := (hb5.block (w4.heap.size + 1) (blk_lt T3.out)).trans T3.out; have hb5' : Below w4.heap.size w4 w5 := E3.out.trans (hb5.mono E3.out.size); have hr5 : w5.rangeAt w3.heap.size 0 cm := (fun j v hv => by rw [cell_blk ((hb5'.block _ hl4).trans HG4.out), Nat.zero_add]; simpa using hv); have HM5 := Lib.hid (mac_far w5 (w4.heap.size + 1) C5 B c5 cb (n + z) m (K ++ List.replicate z 0) T sl (by rw [macS_zeros T (by have := HN.out; omega)]; exact HS2.out.symm) (by rw [List.length_append, List.length_replicate, ← HN.out]) HM.out.symm ht5 rd5 (HY4.out.below hb5') hn5 (by unfold maxLen at hm5; omega) HBD.out.1 HBD.out.2.1 (by omega) (by have := HBD.out.2.2.2; omega) (HT4.out.below hb5')); have HB5 := Lib.hid hb5'; have hl5 : w3.heap.size < w5.heap.size := Nat.lt_of_lt_of_le hl4 hb5'.size; clear hb5 hb5' rd5 hn5 hm5)
        | (go_at_call 17; (with_reducible refine HJ4.out.mono ?_); rintro e w5 ⟨C5, c5, rfl, rd5, hn5, hm5, hb5⟩; have ht5 := (hb5.block (w4.heap.size) (blk_lt T4.out)).trans T4.out; have hb5' : Below w4.heap.size w4 w5 := E4.out.trans (hb5.mono E4.out.size); have hr5 : w5.rangeAt w3.heap.size 0 cm := (fun j v hv => by rw [cell_blk ((hb5'.block _ hl4).trans HG4.out), Nat.zero_add]; simpa using hv); have HM5 := Lib.hid (mac_far w5 (w4.heap.size) C5 B c5 cb (n + z) m (K ++ List.replicate z 0) T sl (by rw [macS_zeros T (by have := HN.out; omega)]; exact HS2.out.symm) (by rw [List.length_append, List.length_replicate, ← HN.out]) HM.out.symm ht5 rd5 (HY4.out.below hb5') hn5 (by unfold maxLen at hm5; omega) HBD.out.1 HBD.out.2.1 (by omega) (by have := HBD.out.2.2.2; omega) (HT4.out.below hb5')); have HB5 := Lib.hid hb5'; have hl5 : w3.heap.size < w5.heap.size := Nat.lt_of_lt_of_le hl4 hb5'.size; clear hb5 hb5' rd5 hn5 hm5)
        | (go_at_call 23; (with_reducible refine HM5.out.mono ?_); rintro e w7 ⟨rfl, hb7⟩; rw [show sumV sl = .agg cm.toArray by unfold sumV; rw [HCM.out]]; have hr7 : w7.rangeAt w3.heap.size 0 cm := (fun j v hv => by rw [cell_blk ((hb7.block _ hl5).trans ((HB5.out.block _ hl4).trans HG4.out)), Nat.zero_add]; simpa using hv); have HB7 := Lib.hid hb7; clear hb7))
      all_goals
        go_wp2
        go_ret
        have b5 := HB4.out.trans (HB5.out.mono HB4.out.size)
        exact ⟨rfl, b5.trans (HB7.out.mono b5.size)⟩
    · have hd : decide (64 < (n : Int)) = true := by simp; omega
      go_wp2_with (first
        | (refine wpList_store_agg (o := ⟨none, _, _, _, _, _⟩) ?_ 25 (.tmp 7) (.tmp 22) ?_ w3.heap.size 0 cm ?_ ?_ 25 _ (heap_alloc_new w3 _) ?_ ?_ HON.out ?_; rfl; rfl; rfl; rfl; (rw [HCN.out]; kernel_rfl); (rw [HCN.out]; decide); intro w4 hg4 hm4 hs4)
        | fail)
      obtain ⟨hg4', hb4, hz4⟩ := fresh_store hg4 hm4 hs4 HCN.out
      have hb4' := hb3'.trans (hb4.mono hb3'.size)
      have hx4 := HX3.out.below hb4
      have hy4 := HY3.out.below hb4
      have ht4 := HT3.out.below hb4
      have h1 := hashSum_one w4 A ca n K HN.out.symm hx4 hla hca (by omega) ht4 _ rfl
      rw [hz4] at h1
      have HG4 := Lib.hid hg4'; clear hg4' hg4 hm4 hs4
      have HZ4 := Lib.hid hz4; clear hz4
      have HY4 := Lib.hid hy4; clear hy4
      have HT4 := Lib.hid ht4; clear ht4
      clear HX3 HY3 HT3 hb4 hx4 hb3'
      refine h1.mono ?_
      clear h1
      rintro e w5 ⟨rfl, hb5⟩
      rw [← HZ4.out] at hb5
      have hb5' := hb4'.trans (hb5.mono hb4'.size)
      have hg5 := (hb5.block w3.heap.size (blk_lt HG4.out)).trans HG4.out
      have hy5 := HY4.out.below hb5
      have ht5 := HT4.out.below hb5
      have hlt5 : w3.heap.size < w5.heap.size := Nat.lt_of_lt_of_le (blk_lt HG4.out) hb5.size
      obtain ⟨kl, hkl⟩ : ∃ kl, kl = sha K := ⟨_, rfl⟩
      rw [← hkl]
      have hkn : kl.length = 32 := by rw [hkl]; exact sha_length _
      have hmk : macS kl T = sl := by rw [hkl, macS_long T (by have := HN.out; omega)]; exact HS2.out.symm
      obtain ⟨ck, hck⟩ : ∃ ck, ck = kl.map Bv := ⟨_, rfl⟩
      have hckn : ck.length = 32 := by rw [hck, List.length_map, hkn]
      have hcko : ∀ v ∈ ck, v.oneCell' = true := by rw [hck]; exact bytes_one _
      unfold sumV
      rw [← hck]
      have HCK := Lib.hid hck; clear hck
      have HCKN := Lib.hid hckn; clear hckn
      have HCKO := Lib.hid hcko; clear hcko
      have HKL := Lib.hid hkn; clear hkn hkl
      have HMK := Lib.hid hmk; clear hmk
      have HG5 := Lib.hid hg5; clear hg5
      have HY5 := Lib.hid hy5; clear hy5
      have HT5 := Lib.hid ht5; clear ht5
      clear hb5 HG4 HY4 HT4 hb4'
      go_wp2_with (first
        | (refine wpList_store_agg (o := ⟨none, _, _, _, _, _⟩) ?_ 25 (.tmp 8) (.tmp 28) ?_ w5.heap.size 0 ck ?_ ?_ 25 _ (heap_alloc_new w5 _) ?_ ?_ HCKO.out ?_; rfl; rfl; rfl; rfl; (rw [HCKN.out]; kernel_rfl); (rw [HCKN.out]; decide); intro w6 hg6 hm6 hs6)
        | fail)
      obtain ⟨hg6', hb6, hz6⟩ := fresh_store hg6 hm6 hs6 HCKN.out
      have hb6' := hb5'.trans (hb6.mono hb5'.size)
      have hc6 := (hb6.block w3.heap.size hlt5).trans HG5.out
      have hy6 := HY5.out.below hb6
      have ht6 := HT5.out.below hb6
      have hk6 : Rd w6 (some ⟨w5.heap.size, 0, none⟩) (kl.map Bv) := by
        rw [← HCK.out]; intro k v hv; exact ⟨_, 0, rfl, by rw [cell_blk hg6', Nat.zero_add]; simpa using hv⟩
      have hl6 : w3.heap.size < w6.heap.size := blk_lt hc6
      have hmc6 := mac_one w6.drew (some ⟨w5.heap.size, 0, none⟩) B 32 cb 32 m kl T sl HMK.out HKL.out HM.out.symm hk6 hy6 (by decide) (by decide) hlb hcb (by decide) (by omega) ht6
      have heq : ∀ u : World, (Op.equalIn 10000 25 (.agg cm.toArray) (.agg cm.toArray)).run Tryd.prog u = .ok true u := fun u => by
        rw [HCM.out, eq_bytes u 25 32 sl sl Tryd.underlying25 HSL.out HSL.out]; simp
      have hgd : Tryd.prog.eqGuardType Tryd.prog.depth 25 = false := by kernel_rfl
      have hzn : cm.toArray.size = 32 := by rw [List.size_toArray, HCN.out]
      have hr6 : w6.rangeAt w3.heap.size 0 cm := fun j v hv => by rw [cell_blk hc6, Nat.zero_add]; simpa using hv
      have hu := Tryd.underlying25
      have hi : (Tryd.prog.info? 25).map (·.size) = some cm.length := by rw [HCN.out]; kernel_rfl
      have HC6 := Lib.hid hc6; clear hc6
      have HZN := Lib.hid hzn; clear hzn
      have HMC := Lib.hid hmc6; clear hmc6
      clear hg6 hm6 hs6 hg6' hy6 ht6 hk6 hz6 HG5 HY5 HT5 hb5'
      go_region_held3 (fun w' => w'.rangeAt w3.heap.size 0 cm) (go_keep_ranges) (first
        | (go_at_call 23; go_must (refine HMC.out.mono ?_; rintro e w7 ⟨rfl, hb7⟩; rw [show sumV sl = .agg cm.toArray by unfold sumV; rw [HCM.out]]; have hr7 : w7.rangeAt w3.heap.size 0 cm := (fun j v hv => by rw [cell_blk ((hb7.block _ hl6).trans HC6.out), Nat.zero_add]; simpa using hv); have HB7 := Lib.hid hb7; clear hb7)))
      all_goals
        go_wp2
        go_ret
        exact ⟨rfl, hb6'.trans ((show Below w6.heap.size w6 w7 from ⟨HB7.out.os, HB7.out.tape, HB7.out.output, HB7.out.size, HB7.out.block⟩).mono hb6'.size)⟩

theorem hashKeys_contract (H : Type) (enc : TypeId × Value → H) (W : World) (base : Nat) (args : Array Value) (ds gs : List (DataW H)) (before : List MemPlace)
    (hval : ∀ (j : Nat) t v, Tryd.f7.params[j]? = some t → args[j]? = some v → Value.okWide Tryd.prog W .any base t v)
    (hW : DataW.Whole enc Tryd.prog Tryd.f7.params.toList Rows.hashKeysSpec.vars false W args.toList ds gs before) (hL : laidMetH Tryd.prog Rows.hashKeysRow.laid W) :
    Calls Tryd.prog 7 args W fun e W' => ∃ v, e = .returned v ∧ Rows.hashKeysSpec.post enc Tryd.prog Tryd.f7 false true false false W args v W' := by
  have hW' := hW
  obtain ⟨p, q, hA0, hV, rfl, hfz, hnd⟩ := hW
  have hA : DataW.TrodAll enc Tryd.prog W 0 (fun _ => true) true Tryd.f7.params.toList args.toList ds p := hA0
  rw [Tryd.params7] at hA hval
  obtain ⟨v0, vs0, d0, ds0, p0, q0, hargs, rfl, rfl, h0, r0⟩ := trodAll_cons hA
  obtain ⟨v1, vs1, d1, ds1, p1, q1, rfl, rfl, rfl, h1, r1⟩ := trodAll_cons r0
  obtain ⟨v2, vs2, d2, ds2, p2, q2, rfl, rfl, rfl, h2, r2⟩ := trodAll_cons r1
  obtain ⟨rfl, rfl, rfl⟩ := trodAll_nil r2
  obtain rfl : args = #[v0, v1, v2] := by cases args; simp_all
  obtain ⟨rfl, rfl⟩ := trodVars_none hV
  obtain ⟨A0, c0, xs0, rfl, hm0, hx0⟩ := open_bytes Tryd.underlying28 Tryd.underlying5 (by kernel_rfl) (hval 0 28 v0 rfl rfl) h0
  obtain ⟨A1, c1, xs1, rfl, hm1, hx1⟩ := open_bytes Tryd.underlying28 Tryd.underlying5 (by kernel_rfl) (hval 1 28 v1 rfl rfl) h1
  obtain ⟨a2, rfl, rfl, rfl, w2⟩ := open_int Tryd.underlying3 (hval 2 3 v2 rfl rfl) h2
  clear hA0 hA
  unfold maxLen at hm0
  unfold maxLen at hm1
  have b2 := bounds_i64 w2
  refine (keys_walk A0 c0 xs0 A1 c1 xs1 a2 W (table hL) hx0 hm0.1 (by omega) hx1 hm1.1 (by omega) (by omega) (by omega)).mono fun e W' ⟨he, hg⟩ => ?_
  subst he
  exact ⟨_, rfl, law_end laidOut (by kernel_rfl) (by kernel_rfl) Tryd.underlying4 rfl hW' ⟨rfl, rfl, rfl⟩ hg⟩

theorem hashKeys_met (os : Os) : laidMet Tryd.prog Rows.hashKeysRow.laid ((laidWorld os).forCall (fun _ _ => 0) ⟨#[], #[.slice none 0 0, .slice none 0 0, .int .i64 0], []⟩).memory :=
  laidMet_of_run' 8 (by kernel_rfl) (by kernel_rfl)
theorem hashKeys_reads (os : Os) {H : Type} (enc : TypeId × Value → H) : ∃ places, DataW.whole enc Tryd.prog ((laidWorld os).forCall (fun _ _ => 0) ⟨#[], #[.slice none 0 0, .slice none 0 0, .int .i64 0], []⟩).memory Tryd.f7.params.toList Rows.hashKeysSpec.vars false (#[.slice none 0 0, .slice none 0 0, .int .i64 0] : Array Value).toList 8 = some ([.nil, .nil, .lit (.int .i64 0)], [], places) :=
  ⟨[], by kernel_rfl⟩

set_option maxRecDepth 100000 in
theorem hashKeys_lifted (os : Os) (started : os.Started) (H : Type) (enc : TypeId × Value → H) (F : Stop.Interp) :
    ReturnsInHanded {} Tryd.checked os 7 .any ((OpenSpec.ofChange Rows.hashKeysSpec).preRow enc Tryd.prog Tryd.f7 Rows.hashKeysRow.domain false Rows.hashKeysRow.laid) (((OpenSpec.ofChange Rows.hashKeysSpec).at F).post enc Tryd.prog Tryd.f7 false true false false) := by
  obtain ⟨places, hx⟩ := hashKeys_reads os enc
  refine returnsInHanded_of_row (C := Tryd.checked) (s := OpenSpec.ofChange Rows.hashKeysSpec) ownKn started (by kernel_rfl) Tryd.func7
    (witness_row_at (enc := enc) (C := Tryd.checked) false (laidWorld os) #[.slice none 0 0, .slice none 0 0, .int .i64 0] rfl (by kernel_rfl) (by kernel_rfl) (by kernel_rfl)
      (OpenSpec.preRow_of_cond 8 hx (by kernel_rfl) (fun k hk => by cases hk) (by kernel_rfl) (hashKeys_met os))) ?_
  intro W base args ds gs before hval hW _ _ _ hL _ _
  exact hashKeys_contract H enc W base args ds gs before hval hW hL

theorem hashKeys_said : Rows.HashKeysSaid :=
  OpenClaim.holds_of_cond 7 Tryd.f7 rfl rfl rfl rfl rfl rfl rfl ⟨rfl, rfl, rfl, rfl, rfl⟩ rfl rfl rfl rfl rfl (by kernel_rfl) Tryd.func7 (by kernel_rfl)
    (of_decide_eq_true (by kernel_rfl)) (by unfold Func.isWrapper; first | (rw [if_pos (by decide +kernel)]; kernel_rfl) | (rw [if_neg (by decide +kernel)]; exact ⟨rfl, rfl⟩))
    (fun os started H enc _ F => by rw [OpenClaim.pre_eq_preRow]; exact hashKeys_lifted os started H enc F)

theorem hashKeys_plain (f : FuncId) (fn : Func) (hf : Tryd.pinned.checked.prog.funcNamed "manometer/manometerlaw03.HashKeys" = some f) (hfn : Tryd.pinned.checked.prog.funcs[f]? = some fn) :
    false = Tryd.pinned.checked.prog.looks [] ∧ ∀ (j : Nat) t, fn.params[j]? = some t → Tryd.pinned.checked.prog.wantsStandIn t = false := by
  obtain rfl : f = 7 := Option.some.inj ((show Tryd.prog.funcNamed "manometer/manometerlaw03.HashKeys" = some 7 by kernel_rfl).symm.trans hf) |>.symm
  obtain rfl : fn = Tryd.f7 := (Option.some.inj (Tryd.func7.symm.trans hfn)).symm
  refine ⟨by kernel_rfl, fun j t ht => ?_⟩
  rw [Tryd.params7] at ht
  have hm : t = 28 ∨ t = 28 ∨ t = 3 := by simpa using Array.mem_of_getElem? ht
  rcases hm with rfl | rfl | rfl
  · exact (show Tryd.prog.wantsStandIn 28 = false by kernel_rfl)
  · exact (show Tryd.prog.wantsStandIn 28 = false by kernel_rfl)
  · exact (show Tryd.prog.wantsStandIn 3 = false by kernel_rfl)

theorem hashKeys_card : Rows.HashKeysCardSaid :=
  Claim7.holds_tied_plain_at .later [] _ _ _ _ hashKeys_said (fun _ h => by cases h) (by kernel_rfl) (fun _ h => by cases h) hashKeys_row_tie rfl ⟨rfl, rfl⟩ (by kernel_rfl) rfl hashKeys_plain (by kernel_rfl)
#print axioms hashKeys_card
end
end Go.Proofs.YtleppphcjncfhaaDoor
