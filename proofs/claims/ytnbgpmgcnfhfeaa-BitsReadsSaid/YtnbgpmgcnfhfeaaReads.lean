/-
  BitsReads (P1.2): what is read of any bytes, by any widths, behind a clone or not, is the plain answers'. No condition.
-/
import Derived.Test.YtnbgpmgcnfhfeaaRs
import Derived.Test.YtnbgpmgcnfhfeaaLive
import Derived.Test.YtnbgpmgcnfhfeaaLaw
import Derived.Test.YtnbgpmgcnfhfeaaJoin
namespace Go.Proofs.Ytnbgpmgcnfhfeaa
set_option linter.unusedVariables false
set_option linter.unusedSimpArgs false
open Go.ChangeShapes Go.WideShapes Go.ChangeAt Go.RowKit

/-- In the loop: the Reader p of m bits of zs, a of them taken; the row of those that are left. -/
def RkIs (B : Nat) (w wr : World) (G : Option Nat) (zs : List UInt8) (R : List Bool) (m a p : Nat) (v : Value) (A : Option Addr) (c : Nat) : Prop :=
  Ris wr p v zs m a ∧ B ≤ p ∧ (∀ i, v.ownBlock = some i → B ≤ i) ∧ Below B w wr ∧ Rd wr A ((R.drop a).map Value.bool) ∧ m - a ≤ c ∧ c ≤ maxLen ∧
    (∀ g, A.map (·.block) = some g → G = some g) ∧ (∀ g, G = some g → p ≠ g ∧ g < wr.heap.size ∧ v.ownBlock ≠ some g)

theorem rk_clone {B : Nat} {w wr w1 w2 : World} {G : Option Nat} {zs : List UInt8} {R : List Bool} {m a p p' c : Nat} {v v' : Value} {A : Option Addr} (h : RkIs B w wr G zs R m a p v A c) (hB : B ≤ wr.heap.size)
    (h1 : Ris w1 p' v' zs m a) (h2 : wr.heap.size ≤ p') (h3 : ∀ i, v'.ownBlock = some i → wr.heap.size ≤ i) (h4 : Below wr.heap.size wr w1) (h5 : Mv (fun i => i = p) w1 w2) : RkIs B w w2 G zs R m a p' v' A c := by
  obtain ⟨r1, r2, r3, r4, r5, r6, r7, r8, r9⟩ := h
  have hp := blk_lt r1.1
  refine ⟨h1.moved h5 (by omega) (fun i hi hs => by have := h3 i hi; omega), by omega, fun i hi => by have := h3 i hi; omega, ?_, ?_, r6, r7, r8, fun g hg => ?_⟩
  · exact (r4.trans (h4.mono hB)).trans (h5.belowB (by have := h4.size; omega) (fun k hk hs => by omega))
  · exact h5.rd (r5.below h4) (fun k hk hA hs => by have := r8 k hA; exact (r9 k this).1 hs.symm)
  · obtain ⟨q1, q2, q3⟩ := r9 g hg
    have hs4 := h4.size
    have hs5 := h5.size
    exact ⟨by omega, by omega, fun h => by have := h3 g h; omega⟩
theorem rk_same {B : Nat} {w wr w' : World} {G : Option Nat} {zs : List UInt8} {R : List Bool} {m a p c : Nat} {v : Value} {A : Option Addr} (h : RkIs B w wr G zs R m a p v A c) (hB : B ≤ wr.heap.size)
    (h1 : Ris w' p v zs m a) (h5 : Mv (fun i => i = p) wr w') : RkIs B w w' G zs R m a p v A c := by
  obtain ⟨r1, r2, r3, r4, r5, r6, r7, r8, r9⟩ := h
  refine ⟨h1, r2, r3, r4.trans (h5.belowB hB (fun k hk hs => by omega)), h5.rd r5 (fun k hk hA hs => by have := r8 k hA; exact (r9 k this).1 hs.symm), r6, r7, r8, fun g hg => ?_⟩
  obtain ⟨q1, q2, q3⟩ := r9 g hg
  have := h5.size
  exact ⟨q1, by omega, q3⟩
theorem number_len (W : World) (A : Option Addr) (c n : Nat) (l : List Bool) (hn : l.length = n) (hx : Rd W A (l.map Value.bool)) (hl : n ≤ 64) :
    Calls Try.prog 10 #[.slice A n c] W fun e w' => e = .returned (.int .u64 (natOf l : Nat)) ∧ Below W.heap.size W w' := by
  subst hn; exact number_any W A c l hx hl
theorem RkIs.below {B : Nat} {w wr w' : World} {G : Option Nat} {zs : List UInt8} {R : List Bool} {m a p c : Nat} {v : Value} {A : Option Addr} (h : RkIs B w wr G zs R m a p v A c) (hb : Below wr.heap.size wr w') : RkIs B w w' G zs R m a p v A c := by
  have hB : B ≤ wr.heap.size := by have := h.2.1; have := blk_lt h.1.1; omega
  exact rk_same h hB (h.1.moved (Mv.of_below hb (fun _ => False)) (fun f => f) (fun _ _ f => f)) (Mv.of_below hb _)
theorem rk_same' {B : Nat} {w wr w' : World} {G : Option Nat} {zs : List UInt8} {R : List Bool} {m a a2 p c : Nat} {v : Value} {A : Option Addr} (h : RkIs B w wr G zs R m a p v A c) (hB : B ≤ wr.heap.size)
    (h1 : Ris w' p v zs m a2) (h5 : Mv (fun i => i = p) wr w') : Rd w' A ((R.drop a).map Value.bool) := by
  obtain ⟨r1, r2, r3, r4, r5, r6, r7, r8, r9⟩ := h
  exact h5.rd r5 (fun k hk hA hs => by have := r8 k hA; exact (r9 k this).1 hs.symm)
theorem RkIs.drewN {B : Nat} {w wr : World} {G : Option Nat} {zs : List UInt8} {R : List Bool} {m a p c : Nat} {v : Value} {A : Option Addr} (h : RkIs B w wr G zs R m a p v A c) (n : Nat) : RkIs B w (wr.drewN n) G zs R m a p v A c := by
  obtain ⟨r1, r2, r3, r4, r5, r6, r7, r8, r9⟩ := h
  exact ⟨r1, r2, r3, below_drewN r4 n, r5, r6, r7, r8, r9⟩
theorem rd_tail {w : World} {A : Option Addr} {l : List Value} (h : Rd w A l) (k : Nat) : Rd w (A.map (·.add k)) (l.drop k) := by
  intro j u hj
  rw [List.getElem?_drop] at hj
  obtain ⟨b, off, rfl, hc⟩ := h (k + j) u hj
  refine ⟨b, off + k, ?_, by rw [Nat.add_assoc]; exact hc⟩
  rw [Option.map_some, add_plain]
theorem add_block (a : Addr) (k : Nat) : (a.add k).block = a.block := by unfold Addr.add; split <;> rfl
theorem rk_next {B : Nat} {w wr w' : World} {G : Option Nat} {zs : List UInt8} {R : List Bool} {m a n p c : Nat} {v : Value} {A : Option Addr} (h : RkIs B w wr G zs R m a p v A c) (hB : B ≤ wr.heap.size)
    (h1 : Ris w' p v zs m (a + n)) (h5 : Mv (fun i => i = p) wr w') (hR : R.length = m) (hn : a + n ≤ m) : RkIs B w w' G zs R m (a + n) p v (if c = n then A else A.map (·.add n)) (c - n) := by
  obtain ⟨r1, r2, r3, r4, r5, r6, r7, r8, r9⟩ := h
  have r5' := h5.rd r5 (fun k hk hA hs => by have := r8 k hA; exact (r9 k this).1 hs.symm)
  refine ⟨h1, r2, r3, r4.trans (h5.belowB hB (fun k hk hs => by omega)), ?_, by omega, by omega, ?_, fun g hg => ?_⟩
  · split
    · have : R.drop (a + n) = [] := List.drop_eq_nil_of_le (by omega)
      rw [this]; exact Rd.nil _ _
    · have h := rd_tail r5' n
      rw [← List.map_drop, List.drop_drop] at h
      exact h
  · intro g hg
    refine r8 g ?_
    split at hg
    · exact hg
    · cases A with
      | none => cases hg
      | some ad => simpa [add_block] using hg
  · obtain ⟨q1, q2, q3⟩ := r9 g hg
    have := h5.size
    exact ⟨q1, by omega, q3⟩
theorem Ris.below {w w' : World} {p : Nat} {v : Value} {xs : List UInt8} {n a : Nat} (h : Ris w p v xs n a) (hb : Below w.heap.size w w') : Ris w' p v xs n a :=
  h.moved (Mv.of_below hb (fun _ => False)) (fun f => f) (fun _ _ f => f)
theorem numAt_row {xs : List UInt8} {m a wd : Nat} (hm : m ≤ 8 * xs.length) (h : a + wd ≤ m) : numAt (xs.take ((m + 7) / 8)) a wd = natOf ((((rb xs).take m).drop a).take wd) := by
  unfold numAt
  have e : rb (xs.take ((m + 7) / 8)) = (rb xs).take (8 * ((m + 7) / 8)) := by
    have h1 := rb_drop8 xs ((m + 7) / 8)
    have h2 : rb xs = rb (xs.take ((m + 7) / 8)) ++ rb (xs.drop ((m + 7) / 8)) := by
      unfold rb
      rw [← List.flatMap_append, List.take_append_drop]
    rw [h2, List.take_left' (by rw [rb_length, List.length_take]; omega)]
  rw [e, List.drop_take, List.drop_take, List.take_take, List.take_take]
  congr 2
  omega

section
set_option maxHeartbeats 1600000
set_option maxRecDepth 100000
theorem reads_walk (A C : Option Addr) (ca cc : Nat) (xs : List UInt8) (n cl : Int) (ws : List Int) (w : World) (hl : xs.length ≤ 9223372036854775807) (hc : xs.length ≤ ca) (hcl : ws.length ≤ 9223372036854775807) (hn : -9223372036854775808 ≤ n ∧ n ≤ 9223372036854775807) (hcb : -9223372036854775808 ≤ cl ∧ cl ≤ 9223372036854775807)
    (hx : Rd w A (xs.map Bv)) (hcx : Rd w C (ws.map (Value.int .i64))) (hws : ∀ a ∈ ws, -9223372036854775808 ≤ a ∧ a ≤ 9223372036854775807) :
    Calls Try.prog 3 #[.slice A xs.length ca, .int .i64 n, .slice C ws.length cc, .int .i64 cl] w fun e w' => e = .returned (.bool true) ∧ Below w.heap.size w w' := by
  go_enter Try.func3, Try.ntmps3
  go_wp2_with fail
  refine (live_any _).mono ?_
  rintro e w1 ⟨rfl, hb1⟩
  have hx1 := hx.below hb1
  have hcx1 := hcx.below hb1
  by_cases hbig : (xs.length : Int) ≤ 2000
  · by_cases hbig2 : (ws.length : Int) ≤ 200
    · go_wp2_with fail
      refine (join_one w1 A ca xs hx1 (by omega)).mono ?_
      rintro e w2 ⟨v, rfl, hown2, hb2⟩
      obtain ⟨Ao, co, rfl, rdo, hAo, hco, _⟩ := own_rd hown2
      have hx2 := hx1.below hb2
      have hcx2 := hcx1.below hb2
      have hs1 := hb1.size
      have hb2 := hb1.trans (hb2.mono hb1.size)
      by_cases hin : 0 ≤ n ∧ n ≤ 8 * (xs.length : Int)
      · obtain ⟨hn0, hn1⟩ := hin
        obtain ⟨m, rfl⟩ := Int.eq_ofNat_of_zero_le hn0
        have hm : m ≤ 8 * xs.length := by omega
        go_wp2_with fail
        refine (newr_ok w2 Ao co m xs rdo hco (by omega) hm).mono ?_
        rintro e w3 ⟨pr, vr, rfl, hr3, hpr, hvr, hb3⟩
        have hown3 := own_moved hown2 fun g hg => hb3.block g (hown2.lt g hg).2
        have hlt3 := fun g hg => (hown2.lt g hg).2
        have hx3 := hx2.below hb3
        have hcx3 := hcx2.below hb3
        have hb3 := hb2.trans (hb3.mono hb2.size)
        clear hown2 hx1 hx2 hx3 hcx1 hcx2 hcx3 rdo
        go_wp2_with fail
        go_loopw [66] (fun i wr => ∃ (k : Nat) (ys : List UInt8), k ≤ xs.length ∧ ys.length = xs.length ∧ i = .int .i64 k ∧ wr.ownsRow (w1.heap.size + 1) 5 1 (.slice Ao xs.length co) xs.length (ys.map Bv) ∧ Mv (fun g => (Value.slice Ao xs.length co).ownBlock = some g) w3 wr) (fun i _ => xs.length - (intOf i).toNat)
        case atStart => exact ⟨0, xs, by omega, rfl, rfl, hown3, Mv.refl _ _⟩
        case round =>
          obtain ⟨k, ys, hk, hyl, rfl, hown, hm4⟩ := hrel
          by_cases hlt : k < xs.length
          · obtain ⟨g, hg⟩ : ∃ g, Ao = some ⟨g, 0, none⟩ := by
              rcases hown.2 with ⟨h, _⟩ | ⟨g, cap, cur, h, _⟩
              · injection h with h1 h2 h3; omega
              · injection h with h1 h2 h3; exact ⟨g, h1⟩
            subst hg
            have hky : k < ys.length := by omega
            have hcy := hown.cells (g := g) rfl k (Bv ys[k]) (by simp [hky])
            have hfr : wr.frozen? ⟨g, k, none⟩ = false := hown.frozenAt k
            rw [show (⟨g, 0, none⟩ : Addr).add k = ⟨g, k, none⟩ from by unfold Addr.add; split <;> simp_all] at hcy
            have hxo : bits .xor .u8 (ys[k].toNat : Int) 255 = ((ys[k].toNat ^^^ 255 : Nat) : Int) := u8_xor_nat ys[k].toNat 255 ys[k].toNat_lt (by omega)
            simp only [Bv_def] at hcy
            have hz := Nat.xor_lt_two_pow (n := 8) ys[k].toNat_lt (show 255 < 2 ^ 8 by omega)
            have hsto := hown.stored k (Bv (UInt8.ofNat (ys[k].toNat ^^^ 255)))
            rw [← List.map_set] at hsto
            have HSO := Lib.hid hsto; clear hsto
            have HYL := Lib.hid hyl; clear hyl
            have HZ := Lib.hid hz; clear hz
            generalize hzz : ys[k].toNat ^^^ 255 = z at *
            have HZZ := Lib.hid hzz; clear hzz
            go_wp2
            go_roundw
            case rel =>
              refine ⟨k + 1, ys.set k (UInt8.ofNat (ys[k].toNat ^^^ 255)), by omega, by rw [List.length_set]; exact HYL.out, by go_num, ?_, ?_⟩
              · rw [HZZ.out, byte_of (n := z) rfl HZ.out]; exact HSO.out.1
              · rw [byte_of (n := z) rfl HZ.out]; exact hm4.grown HSO.out.2 (fun _ _ h => h)
            case measure => simp [intOf]; omega
          · have hb4 := hb3.trans (hm4.belowB hb3.size fun j hj hs => by have := (hown.lt j hs).1; omega)
            have hr4 := hr3.moved hm4 (fun h => by have := hlt3 _ h; omega) (fun i hi h => by have := hlt3 _ h; have := hvr i hi; omega)
            have hrB : Below w.heap.size w wr ∧ w.heap.size ≤ pr ∧ (∀ i, vr.ownBlock = some i → w.heap.size ≤ i) := ⟨hb4, Nat.le_trans hb2.size hpr, fun i hi => Nat.le_trans hb2.size (hvr i hi)⟩
            clear hm4 hown hr3 hown3 hlt3 hyl
            go_wp2_with fail
            refine (rbits_any wr A ca m xs (hx.below hb4) hm (by omega)).mono ?_
            rintro e w5 ⟨v5, rfl, hown5, hb5⟩
            obtain ⟨A5, c5, rfl, rd5, hA5, hc5, hcm5⟩ := own_rd hown5
            have hr5 := hr4.moved (Mv.of_below hb5 (fun _ => False)) (fun f => f) (fun _ _ f => f)
            have hb5' := hb4.trans (hb5.mono hb4.size)
            have hRl : ((rb xs).take m).length = m := by rw [List.length_take, rb_length]; omega
            have hcx5 := hcx.below hb5'
            obtain ⟨R, hR⟩ : ∃ R, R = (rb xs).take m := ⟨_, rfl⟩
            have hnum := fun (a wd : Nat) (h : a + wd ≤ m) => numAt_row hm h
            rw [← hR] at rd5 hc5 hRl hown5 hA5 hnum ⊢
            rw [hRl] at hc5 ⊢
            obtain ⟨zs, hzs⟩ : ∃ zs, zs = xs.take ((m + 7) / 8) := ⟨_, rfl⟩
            rw [← hzs] at hr5 hnum
            have hrk : RkIs w.heap.size w w5 (A5.map (·.block)) zs R m 0 pr vr A5 c5 := by
              refine ⟨hr5, hrB.2.1, hrB.2.2, hb5', by simpa using rd5, by omega, hcm5, fun g hg => hg, fun g hg => ?_⟩
              rw [hA5] at hg
              have hl := hown5.lt g hg
              have hpl := blk_lt hr4.1
              have hvl := fun i hi => (hr4.2.1.lt i hi).2
              exact ⟨by omega, hl.2, fun h => by have := hvl g h; omega⟩
            obtain ⟨G, hG⟩ : ∃ G, G = A5.map (·.block) := ⟨_, rfl⟩
            rw [← hG] at hrk
            have HNUM := Lib.hid hnum; clear hnum
            have HRL := Lib.hid hRl; clear hRl
            clear hown5 hr4 hr5 hb5 hA5 hG hR hzs rd5 hc5 hcm5
            have hb5s := hb5'.size
            go_wp2_with fail
            go_loopw [10, 13, 81] (fun pv row i wr => ∃ (k a p : Nat) (v : Value) (A : Option Addr) (c : Nat), k ≤ ws.length ∧ i = .int .i64 k ∧ pv = .pointer (some ⟨p, 0, none⟩) ∧ row = .slice A (m - a) c ∧ RkIs w.heap.size w wr G zs R m a p v A c) (fun _ _ i _ => ws.length - (intOf i).toNat)
            case atStart => exact ⟨0, 0, pr, vr, A5, c5, by omega, rfl, rfl, rfl, hrk⟩
            case round =>
              obtain ⟨k, a, p, v, A, c, hk, rfl, rfl, rfl, hrk⟩ := hrel
              have ham := hrk.1.2.2.2.1
              have hwB := hrk.2.2.2.1
              by_cases hlt : k < ws.length
              · obtain ⟨b, off, rfl, q0⟩ := (hcx.below hwB) k (.int .i64 ws[k]) (by simp [hlt])
                have hwk := hws ws[k] (List.getElem_mem hlt)
                generalize ws[k] = wd at *
                by_cases hkc : (k : Int) = cl
                case' pos =>
                  have hkc' : ((k : Int) == cl) = true := by rw [beq_iff_eq]; exact hkc
                  have HKC := Lib.hid hkc; clear hkc
                  go_wp2_with fail
                  refine (rclone_any wr p v zs m a hrk.1).mono ?_
                  rintro e w6 ⟨p', v', rfl, hr6, hp6, hv6, hb6⟩
                  have hr6o := Ris.below hrk.1 hb6
                  go_wp2_with fail
                  refine (get_any w6 p 1 v zs m a hr6o).mono ?_
                  rintro e w7 ⟨rfl, hr7, hm7⟩
                  have hrk7 := rk_clone hrk hwB.size hr6 hp6 hv6 hb6 hm7
                  generalize (if getE (m - a) 1 = 0 then numAt zs a (Int.toNat 1) else 0) = q1
                  generalize getE (m - a) 1 = q2
                  clear hrk hr6 hp6 hv6 hb6 hr6o hr7 hm7 hwB
                  go_wp2_with fail
                case' neg =>
                  have hkc' : ((k : Int) == cl) = false := by rw [beq_eq_false_iff_ne]; exact hkc
                  have HKC := Lib.hid hkc; clear hkc
                  have hrk7 := hrk
                  clear hrk hwB
                  go_wp2_with fail
                all_goals
                  have hBw := hrk7.2.2.2.1.size
                  have ham7 := hrk7.1.2.2.2.1
                  have hml := hrk7.1.2.2.1
                  have hzl := hrk7.1.2.2.2.2
                  refine (get_any _ _ wd _ zs m a hrk7.1).mono ?_
                  rintro e w8 ⟨rfl, hr8, hm8⟩
                  by_cases h1 : wd < 0 ∨ 64 < wd
                  · have he : getE (m - a) wd = 1 := by unfold getE; rw [if_pos h1]
                    rw [he] at hr8 ⊢
                    rw [if_neg (by decide)] at hr8 ⊢
                    have hrk8 := rk_same hrk7 hBw hr8 hm8
                    clear hrk7 hr8 hm8 he
                    rcases h1 with h1 | h1
                    all_goals
                      go_wp2_with fail
                      refine (left_any _ _ _ zs m a hrk8.1).mono ?_
                      rintro e w9 ⟨rfl, n9, rfl⟩
                      go_wp2
                      go_roundw
                      case rel => exact ⟨k + 1, a, _, _, A, c, by omega, by go_num, rfl, rfl, hrk8.drewN n9⟩
                      case measure => simp [intOf]; omega
                  · obtain ⟨n, rfl⟩ := Int.eq_ofNat_of_zero_le (show 0 ≤ wd by omega)
                    have hn64 : n ≤ 64 := by omega
                    clear h1
                    by_cases h2 : m - a < n
                    · have he : getE (m - a) (n : Int) = 6 := by unfold getE; rw [if_neg (by omega), if_pos (by omega)]
                      rw [he] at hr8 ⊢
                      rw [if_neg (by decide)] at hr8 ⊢
                      have hrk8 := rk_same hrk7 hBw hr8 hm8
                      clear hrk7 hr8 hm8 he
                      have h2' : ((m - a : Nat) : Int) < (n : Int) := by omega
                      have h2'' : decide (m - a < n) = true := by simp; omega
                      go_wp2_with fail
                      refine (left_any _ _ _ zs m a hrk8.1).mono ?_
                      rintro e w9 ⟨rfl, n9, rfl⟩
                      go_wp2
                      go_roundw
                      case rel => exact ⟨k + 1, a, _, _, A, c, by omega, by go_num, rfl, rfl, hrk8.drewN n9⟩
                      case measure => simp [intOf]; omega
                    · have he : getE (m - a) (n : Int) = 0 := by unfold getE; rw [if_neg (by omega), if_neg (by omega)]
                      rw [he] at hr8 ⊢
                      rw [if_pos rfl] at hr8 ⊢
                      rw [Int.toNat_natCast] at hr8 ⊢
                      have han : a + n ≤ m := by omega
                      have hrow := (rk_same' hrk7 hBw hr8 hm8).take n
                      rw [← List.map_take] at hrow
                      have hrk8 := rk_next hrk7 hBw hr8 hm8 HRL.out han
                      have hcn : n ≤ c := by have := hrk7.2.2.2.2.2.1; omega
                      have hll : ((R.drop a).take n).length = n := by rw [List.length_take, List.length_drop, HRL.out]; omega
                      have hnm := HNUM.out a n han
                      obtain ⟨l, hl⟩ : ∃ l, l = (R.drop a).take n := ⟨_, rfl⟩
                      rw [← hl] at hrow hll hnm
                      rw [hnm]
                      have HLL := Lib.hid hll; clear hll
                      clear hrk7 hr8 hm8 he hl hnm
                      have h2' : (n : Int) ≤ ((m - a : Nat) : Int) := by omega
                      have h2'' : decide (m - a < n) = false := by rw [decide_eq_false_iff_not]; omega
                      have hcn' : (n : Int) ≤ (c : Int) := by omega
                      go_wp2_with fail
                      refine (number_len w8 A c n l HLL.out hrow (by omega)).mono ?_
                      rintro e w9 ⟨rfl, hb9⟩
                      have hrk9 := hrk8.below hb9
                      clear hrow hrk8 hb9
                      have hsub : m - a - n = m - (a + n) := by omega
                      generalize natOf l = nl
                      by_cases hcc : c = n
                      · rw [if_pos hcc] at hrk9
                        have hcc' : c - n = 0 := by omega
                        rw [hcc'] at hrk9
                        go_wp2_with fail
                        refine (left_any _ _ _ zs m (a + n) hrk9.1).mono ?_
                        rintro e w10 ⟨rfl, n10, rfl⟩
                        go_wp2
                        go_roundw
                        case rel => exact ⟨k + 1, a + n, _, _, _, _, by omega, by go_num, rfl, rfl, hrk9.drewN n10⟩
                        case measure => simp [intOf]; omega
                      · rw [if_neg hcc] at hrk9
                        go_wp2_with fail
                        refine (left_any _ _ _ zs m (a + n) hrk9.1).mono ?_
                        rintro e w10 ⟨rfl, n10, rfl⟩
                        go_wp2
                        go_roundw
                        case rel => exact ⟨k + 1, a + n, _, _, _, _, by omega, by go_num, rfl, rfl, hrk9.drewN n10⟩
                        case measure => simp [intOf]; omega
              · go_wp2
                go_ret
                exact ⟨rfl, hwB⟩
      · go_wp2_with fail
        refine (newr_no w2 Ao co n xs (by omega) (by omega) hn.2).mono ?_
        rintro e w3 ⟨rfl, rfl⟩
        by_cases hneg : n < 0
        · go_wp2
          go_ret
          exact ⟨rfl, hb2⟩
        · have hgt : decide (8 * (xs.length : Int) < n) = true := by simp; omega
          go_wp2
          go_ret
          exact ⟨rfl, hb2⟩
    · have h2 : decide (200 < (ws.length : Int)) = true := by simp; omega
      go_wp2_with fail
      refine (live_any _).mono ?_
      rintro e w3 ⟨rfl, hb3⟩
      go_wp2
      go_ret
      exact ⟨rfl, hb1.trans (hb3.mono hb1.size)⟩
  · go_wp2_with fail
    refine (live_any _).mono ?_
    rintro e w3 ⟨rfl, hb3⟩
    go_wp2
    go_ret
    exact ⟨rfl, hb1.trans (hb3.mono hb1.size)⟩

set_option maxRecDepth 100000 in
theorem bitsReads_lifted (os : Os) (started : os.Started) (H : Type) (enc : TypeId × Value → H) :
    ReturnsInHanded {} Try.checked os 3 .any (Rows.bitsReadsSpec.pre6 enc Try.prog Try.f3 Rows.bitsReadsRow.domain false) (Rows.bitsReadsSpec.post enc Try.prog Try.f3 false true false false) := by
  refine returnsInHanded_of_change (C := Try.checked) ownKn started (by kernel_rfl) Try.func3
    (ChangeSpec.witness6 (enc := enc) (C := Try.checked) false ⟨#[], #[.slice none 0 0, .int .i64 0, .slice none 0 0, .int .i64 0], []⟩ 8 (by kernel_rfl) (by kernel_rfl) (by kernel_rfl) (by kernel_rfl)) ?_
  intro W base args ds gs before hval0 hW hcnd _
  have hval : ∀ (j : Nat) t v, Try.f3.params[j]? = some t → args[j]? = some v → Value.okWide Try.prog W .any base t v := hval0
  have hW' := hW
  obtain ⟨p, q, hA0, hV, rfl, hfz, hnd⟩ := hW
  have hA : DataW.TrodAll enc Try.prog W 0 (fun _ => true) true Try.f3.params.toList args.toList ds p := hA0
  rw [Try.params3] at hA hval
  obtain ⟨v0, vs0, d0, ds0, p0, q0, hargs, rfl, rfl, h0, r0⟩ := trodAll_cons hA
  obtain ⟨v1, vs1, d1, ds1, p1, q1, rfl, rfl, rfl, h1, r1⟩ := trodAll_cons r0
  obtain ⟨v2, vs2, d2, ds2, p2, q2, rfl, rfl, rfl, h2, r2⟩ := trodAll_cons r1
  obtain ⟨v3, vs3, d3, ds3, p3, q3, rfl, rfl, rfl, h3, r3⟩ := trodAll_cons r2
  obtain ⟨rfl, rfl, rfl⟩ := trodAll_nil r3
  obtain rfl : args = #[v0, v1, v2, v3] := by cases args; simp_all
  obtain ⟨rfl, rfl⟩ := trodVars_none hV
  obtain ⟨A0, c0, xs0, rfl, hm0, hx0⟩ := open_bytes Try.underlying22 Try.underlying5 (by kernel_rfl) (hval 0 22 v0 rfl rfl) h0
  obtain ⟨a1, rfl, rfl, rfl, w1⟩ := open_int Try.underlying3 (hval 1 3 v1 rfl rfl) h1
  obtain ⟨A2, c2, xs2, rfl, hm2, hx2, hw2⟩ := open_rd Try.underlying23 Try.underlying3 (by kernel_rfl) (hval 2 23 v2 rfl rfl) h2
  obtain ⟨a3, rfl, rfl, rfl, w3⟩ := open_int Try.underlying3 (hval 3 3 v3 rfl rfl) h3
  clear hA0 hval0 hA
  unfold maxLen at hm0
  have b1 := bounds_i64 w1
  unfold maxLen at hm2
  have b3 := bounds_i64 w3
  refine (reads_walk A0 A2 c0 c2 xs0 a1 a3 xs2 W (by omega) (by omega) (by omega) (by omega) (by omega) hx0 hx2 (fun a ha => bounds_i64 (hw2 a ha))).mono fun e W' ⟨he, hg⟩ => ?_
  subst he
  exact ⟨_, rfl, law_end laidOut (by kernel_rfl) (by kernel_rfl) Try.underlying4 rfl hW' ⟨rfl, rfl, rfl⟩ hg⟩

theorem bitsReads_holds : Rows.BitsReadsSaid :=
  OpenClaim.holds_of_wide 3 Try.f3 rfl rfl rfl rfl rfl rfl rfl ⟨rfl, rfl, rfl, rfl, rfl⟩ rfl rfl rfl rfl rfl (by kernel_rfl) Try.func3 (by kernel_rfl)
    (of_decide_eq_true (by kernel_rfl)) (by unfold Func.isWrapper; first | (rw [if_pos (by decide +kernel)]; kernel_rfl) | (rw [if_neg (by decide +kernel)]; exact ⟨rfl, rfl⟩))
    (fun os started H enc _ => bitsReads_lifted os started H enc)
#print axioms bitsReads_holds
end
end Go.Proofs.Ytnbgpmgcnfhfeaa
