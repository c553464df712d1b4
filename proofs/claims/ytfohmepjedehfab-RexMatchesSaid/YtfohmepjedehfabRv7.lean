/-
  The values of a pattern.
-/
import Derived.Test.YtfohmepjedehfabRv6
import Derived.Test.YtfohmepjedehfabQg
import Derived.Test.YtfohmepjedehfabQi
import Derived.Test.YtfohmepjedehfabQz
namespace Go.Proofs.Ytfohmepjedehfab
set_option linter.unusedVariables false
set_option linter.unusedSimpArgs false
open Go.RowKit
/-- Values under way. -/
structure VaIs (w wr : World) (s : ByteArray) (pos : Nat) (l : List Bs) (v : Value) (val : Bs) : Prop where
  bld : Bld w.heap.size w.heap.size val wr
  row : wr.ownsRow w.heap.size 9 1 v l.length (stC l)
  it : wr.heap[w.heap.size + 1]? = some (.stringIter s pos)
  below : RowKit.Below w.heap.size w wr
  le : pos ≤ s.size
  fewV : val.length ≤ 4 * pos
  fewL : l.length ≤ pos
theorem Bld.box {B b : Nat} {xs : List UInt8} {w : World} (h : Bld B b xs w) : ∃ x y, w.heap[b]? = some (.cells #[x, y] 97 (0, 0)) := by
  rcases h with ⟨h1, v, h2, _⟩ | ⟨h1, v, h2, _⟩ <;> exact ⟨_, _, h2⟩
theorem own_kept {w w' : World} {B size n : Nat} {v : Value} {xs : List Value} {b : Option Nat} (h : w.ownsRow B 9 size v n xs) (k : Lib.OthersKept 5 b w w') (hb : ∀ g, v.ownBlock = some g → some g ≠ b) : w'.ownsRow B 9 size v n xs :=
  own_moved h fun g hg => by
    rcases h.2 with ⟨rfl, _⟩ | ⟨g', cap, cur, rfl, _, hh, _⟩
    · simp [Value.ownBlock] at hg
    · have : g' = g := by simpa [Value.ownBlock] using hg
      subst this
      rw [k g' _ hh (hb g' hg) (fun c fz e => by injection e with _ e _; exact absurd e (by decide)), hh]
/-- Blocks from above turned: all stays. -/
theorem VaIs.kept {w wr w2 : World} {s : ByteArray} {pos : Nat} {l : List Bs} {v : Value} {val : Bs} (k : VaIs w wr s pos l v val) (h : RowKit.Below wr.heap.size wr w2) : VaIs w w2 s pos l v val :=
  ⟨k.bld.moved h, own_mv (S := fun _ => False) k.row (Mv.of_below h _) (fun _ _ f => f), (h.block _ (blk_lt k.it)).trans k.it, k.below.trans (h.mono k.below.size), k.le, k.fewV, k.fewL⟩
theorem VaIs.next {w wr : World} {s : ByteArray} {pos wd : Nat} {l : List Bs} {v : Value} {val : Bs} (k : VaIs w wr s pos l v val) (hl : pos + wd ≤ s.size) : VaIs w (wr.iterAt (w.heap.size + 1) s (pos + wd)) s (pos + wd) l v val :=
  ⟨k.bld.iterAt k.it, own_moved k.row fun g hg => Lib.iterAt_other _ _ _ _ _ (fun e => by subst e; exact own_iter k.row k.it hg), Lib.iterAt_heap wr _ s pos _ k.it, Lib.below_iterAt k.below (Nat.le_succ _) s _, hl, by have := k.fewV; omega, by have := k.fewL; omega⟩
/-- A rune written. -/
theorem VaIs.rune {w w2 w3 : World} {s : ByteArray} {pos c : Nat} {l : List Bs} {v : Value} {val : Bs} (k : VaIs w w2 s pos l v val) (hb : Bld w.heap.size w.heap.size (val ++ enc (c : Int)) w3) (hw : RowKit.Below w.heap.size w2 w3) (hi : ∀ (g : Nat) (s' : ByteArray) (pos : Nat), g ≠ w.heap.size → w2.heap[g]? = some (.stringIter s' pos) → w3.heap[g]? = some (.stringIter s' pos))
    (hk : Lib.OthersKept 5 (some w.heap.size) w2 w3) (hf : val.length + 4 ≤ 4 * pos) : VaIs w w3 s pos l v (val ++ enc (c : Int)) := by
  refine ⟨hb, own_kept k.row hk fun g hg e => ?_, hi _ _ _ (by omega) k.it, k.below.trans hw, k.le, ?_, k.fewL⟩
  · obtain ⟨x, y, hbx⟩ := k.bld.box
    injection e with e; subst e
    exact own_blk k.row hbx (by decide) hg
  · have := enc_len4 (c : Int)
    rw [List.length_append]; omega
def VaOut (w : World) (r : Option (List Bs)) (e : Ending) (w' : World) : Prop :=
  match r with
  | some vs => ∃ v', e = .returned (.tuple #[v', .bool true]) ∧ w'.ownsRow w.heap.size 9 1 v' vs.length (stC vs) ∧ RowKit.Below w.heap.size w w'
  | none => e = .returned (.tuple #[.slice none 0 0, .bool false]) ∧ RowKit.Below w.heap.size w w'
theorem str_kept (B b : Nat) (xs : List UInt8) (w : World) (h : Bld B b xs w) (hB : B ≤ w.heap.size) :
    Calls Try.prog 52 #[.pointer (some ⟨b, 0, none⟩)] w fun e w' => e = .returned (.string (mkB xs)) ∧ (∃ x y, w'.heap[b]? = some (.cells #[x, y] 97 (0, 0))) ∧ RowKit.Below B w w' ∧ Lib.OthersKept 5 (some b) w w' :=
  (Try.Builder_String_any_k B b xs w (Lib.IsBuilderF.of h) hB).mono fun e w' ⟨h1, h2, h3, h4⟩ => ⟨h1, by rcases h2 with ⟨_, v, hb, _⟩ | ⟨_, v, hb, _⟩ <;> exact ⟨_, _, hb⟩, h3, h4⟩
theorem VaIs.strung {w w2 w3 : World} {s : ByteArray} {pos : Nat} {l : List Bs} {v : Value} {val : Bs} (k : VaIs w w2 s pos l v val) (h3 : RowKit.Below w.heap.size w2 w3) (hk : Lib.OthersKept 5 (some w.heap.size) w2 w3) :
    w3.ownsRow w.heap.size 9 1 v l.length (stC l) ∧ w3.heap[w.heap.size + 1]? = some (.stringIter s pos) ∧ RowKit.Below w.heap.size w w3 := by
  refine ⟨own_kept k.row hk fun g hg e => ?_, hk.iter k.it (by omega), k.below.trans h3⟩
  obtain ⟨x, y, hbx⟩ := k.bld.box
  injection e with e; subst e
  exact own_blk k.row hbx (by decide) hg
/-- A value listed, the builder emptied. -/
theorem VaIs.listed {w w3 w4 w5 : World} {s : ByteArray} {pos : Nat} {l : List Bs} {v v4 x y : Value} {val : Bs} (k3 : w3.ownsRow w.heap.size 9 1 v l.length (stC l) ∧ w3.heap[w.heap.size + 1]? = some (.stringIter s pos) ∧ RowKit.Below w.heap.size w w3) (hbx : w3.heap[w.heap.size]? = some (.cells #[x, y] 97 (0, 0))) (ho : w4.ownsRow w.heap.size 9 1 v4 (onceP l val).length (stC (onceP l val))) (m4 : Mv (fun k => v.ownBlock = some k) w3 w4)
    (hb : w5.heap[w.heap.size]? = some (.cells #[.pointer none, .slice none 0 0] 97 (0, 0))) (m5 : Mv (fun k => k = w.heap.size) w4 w5) (hle : pos ≤ s.size) (hf : l.length + 1 ≤ pos) : VaIs w w5 s pos (onceP l val) v4 [] := by
  have hi4 := (m4.block _ (blk_lt k3.2.1) (own_iter k3.1 k3.2.1)).trans k3.2.1
  have hb4 := (m4.block _ (blk_lt hbx) (own_blk k3.1 hbx (by decide))).trans hbx
  have h4 : RowKit.Below w.heap.size w w4 := k3.2.2.trans (m4.belowB k3.2.2.size fun i hi e => by have := (k3.1.lt i e).1; omega)
  refine ⟨.inl ⟨Nat.le_refl _, .slice none 0 0, hb, World.ownsRow_nil _ _ _ _, by simp [Value.ownBlock]⟩, own_mv ho m5 fun g hg e => ?_, (m5.block _ (blk_lt hi4) (by omega)).trans hi4, h4.trans (m5.belowB h4.size fun i hi e => by omega), hle, by simp, ?_⟩
  · subst e; exact own_blk ho hb4 (by decide) hg
  · unfold onceP; split
    · omega
    · rw [List.length_append]; simp; omega
theorem listed_box {w w3 w4 : World} {l : List Bs} {v x y : Value} (h : w3.ownsRow w.heap.size 9 1 v l.length (stC l)) (hbx : w3.heap[w.heap.size]? = some (.cells #[x, y] 97 (0, 0))) (m4 : Mv (fun k => v.ownBlock = some k) w3 w4) : w4.heap[w.heap.size]? = some (.cells #[x, y] 97 (0, 0)) :=
  (m4.block _ (blk_lt hbx) (own_blk h hbx (by decide))).trans hbx
section
set_option maxHeartbeats 3200000
set_option maxRecDepth 100000
theorem values_nil (w : World) : Calls Try.prog 39 #[.pointer none] w fun e w' => e = .returned (.tuple #[.slice none 0 0, .bool false]) ∧ w' = w := by
  go_enter Try.func39, Try.ntmps39
  go_wp2
  go_ret2
  exact ⟨rfl, rfl⟩
theorem values_zero (b : Nat) (w : World) (h : w.cell? ⟨b, 0, none⟩ = some (.bool false)) : Calls Try.prog 39 #[.pointer (some ⟨b, 0, none⟩)] w fun e w' => e = .returned (.tuple #[.slice none 0 0, .bool false]) ∧ w' = w := by
  go_enter Try.func39, Try.ntmps39
  go_wp2
  go_ret2
  exact ⟨rfl, rfl⟩
theorem values_any (b : Nat) (s : ByteArray) (w : World) (h0 : w.cell? ⟨b, 0, none⟩ = some (.bool true)) (h1 : w.cell? ⟨b, 1, none⟩ = some (.string s)) (hs : s.size ≤ 1000) :
    Calls Try.prog 39 #[.pointer (some ⟨b, 0, none⟩)] w (VaOut w (valP (runesB (bl s)))) := by
  obtain ⟨R, hR⟩ : ∃ R, valP (runesB (bl s)) = R := ⟨_, rfl⟩
  rw [hR]
  unfold valP at hR
  have HR := Lib.hid hR; clear hR
  have hlt : b < w.heap.size := by
    unfold World.cell? at h0
    cases hq : w.heap[b]? with
    | none => simp [hq] at h0
    | some o => exact blk_lt hq
  have hbn : b ≠ w.heap.size := by omega
  have HV0 := Lib.hid (show VaIs w ((w.alloc (.cells #[.pointer none, .slice none 0 0] 97)).iter s 0) s 0 [] (.slice none 0 0) [] from
    ⟨(bld_new w).moved ((RowKit.Below.refl _ _).alloc (Nat.le_refl _) _), ⟨rfl, .inl ⟨rfl, rfl⟩⟩, by have := World.iter_heap (w.alloc (.cells #[.pointer none, .slice none 0 0] 97)) s 0; simpa using this, ((RowKit.Below.refl _ w).alloc (Nat.le_refl _) _).alloc (by simp) _, Nat.zero_le _, Nat.zero_le _, Nat.zero_le _⟩)
  have hne0 := fun W => ne_nil none 0 0 W
  simp only [Option.isNone_none, Bool.not_true] at hne0
  go_enter Try.func39, Try.ntmps39
  go_wp2_with fail
  go_loopw [4, 6] (fun s4 s6 wr => ∃ (v : Value) (pos : Nat) (l : List Bs) (val : Bs) (esc : Bool), v = s4 ∧ s6 = .bool esc ∧ Aside (VaIs w wr s pos l v val) ∧ Aside (valF (runesB ((bl s).drop pos)) l val esc = R)) (fun _ _ wr => s.size - wr.iterPos (w.heap.size + 1))
  case atStart => exact ⟨_, 0, [], [], false, rfl, rfl, HV0.out, HR.out⟩
  case round =>
    obtain ⟨v, pos, l, val, esc, rfl, rfl, HK, HE⟩ := hrel
    have hit := HK.out.it
    have hle := HK.out.le
    by_cases hp : pos < s.size
    · have hne : (bl s).drop pos ≠ [] := by
        intro e
        have := congrArg List.length e
        rw [List.length_drop, bl_len] at this
        simp at this; omega
      have hdd : dL ((bl s).drop pos) = Utf8.decode s pos := Lib.decodeL_drop s pos
      have hE := HE.out
      rw [runesB_step hne, List.drop_drop] at hE
      have hok := dL_ok _ hne
      obtain ⟨c, wd', hcw⟩ : ∃ c wd, dL ((bl s).drop pos) = (c, wd) := ⟨_, _, rfl⟩
      have hwd : 1 ≤ wd' := by have := dL_pos ((bl s).drop pos); rw [hcw] at this; exact this
      have hwl : pos + wd' ≤ s.size := by have := dL_le hne; rw [hcw, List.length_drop, bl_len] at this; simp only at this; omega
      rw [hcw] at hE hok
      simp only [valF] at hE hok
      obtain ⟨w2, hw2⟩ : ∃ w2, w2 = wr.iterAt (w.heap.size + 1) s (pos + wd') := ⟨_, rfl⟩
      have hnx : ∀ ty, (Instr.next (.pointer (some ⟨w.heap.size + 1, 0, none⟩)) true ty).run Try.prog wr = .ok (.tuple #[.bool true, .int .i64 (pos : Nat), .int .i32 (c : Nat)]) w2 := fun ty => by
        rw [Lib.run_next_any_at wr (w.heap.size + 1) s pos ty hit hp, ← hdd, hcw, hw2]
      have HK2 := Lib.hid (show VaIs w w2 s (pos + wd') l v val by rw [hw2]; exact HK.out.next hwl)
      have HFV := Lib.hid (show val.length + 4 ≤ 4 * (pos + wd') by have := HK.out.fewV; omega)
      have HFL := Lib.hid (show l.length + 1 ≤ pos + wd' by have := HK.out.fewL; omega)
      have HOK := Lib.hid hok; have HP := Lib.hid hp; have HIT := Lib.hid hit; have HWD := Lib.hid hwd
      have HWL := Lib.hid hwl
      have HWRU := Lib.hid (fun (W : World) (k : VaIs w W s (pos + wd') l v val) => wru_k w.heap.size w.heap.size c val W k.bld k.below.size HOK.out (by have := HFV.out; have := HWL.out; omega))
      clear hne hdd hcw hwd hwl hw2 hit hok
      cases esc with
      | true =>
        simp only [if_true] at hE
        cases hm : manyP (c : Int) with
        | some g =>
          rw [hm] at hE
          simp only [Option.isSome_some, if_true] at hE
          have HS := Lib.hid (several_some (c : Int) g w2 hm)
          have HRN := Lib.hid hE
          have hnes := fun b l c W => ne_nil (some ⟨b, 0, none⟩) l c W
          simp only [Option.isNone_some, Bool.not_false] at hnes
          clear hE HE hm
          go_wp2_with fail
          refine HS.out.mono ?_
          rintro e w3 ⟨rfl, ho, hb3⟩
          have HB3 := Lib.hid hb3; clear ho hb3
          go_wp2
          go_ret2
          rw [← HRN.out]
          exact ⟨rfl, HK2.out.below.trans (HB3.out.mono HK2.out.below.size)⟩
        | none =>
          rw [hm] at hE
          simp only [Option.isSome_none, Bool.false_eq_true, if_false] at hE
          have HS := Lib.hid (several_none (c : Int) w2 hm)
          have HE2 := Lib.hid hE
          clear hE HE hm
          go_wp2_with fail
          refine HS.out.mono ?_
          rintro e w3 ⟨rfl, rfl⟩
          have HWR := Lib.hid (HWRU.out _ HK2.out)
          go_wp2_with fail
          refine HWR.out.mono ?_
          rintro e w5 ⟨kk, rfl, hb5, hw5, hi5, hk5⟩
          have HK5 := Lib.hid (HK2.out.rune hb5 hw5 hi5 hk5 HFV.out)
          clear hb5 hw5 hi5 hk5
          go_wp2
          go_roundw
          case rel => exact ⟨_, _, l, _, false, rfl, rfl, HK5.out, HE2.out⟩
          case measure =>
            have i1 := HK5.out.it
            have i2 := HIT.out
            have i3 := HWD.out
            have i4 := HP.out
            simp only [World.iterPos, i1, i2]
            omega
      | false =>
        simp only [Bool.false_eq_true, if_false] at hE
        by_cases h92 : (c : Int) = 92
        · rw [if_pos h92] at hE
          have HE2 := Lib.hid hE
          have hc92 : c = 92 := by omega
          subst hc92
          clear hE HE h92
          go_wp2
          go_roundw
          case rel => exact ⟨_, _, l, val, true, rfl, rfl, HK2.out, HE2.out⟩
          case measure =>
            have i1 := HK2.out.it
            have i2 := HIT.out
            have i3 := HWD.out
            have i4 := HP.out
            simp only [World.iterPos, i1, i2]
            omega
        · rw [if_neg h92] at hE
          have g92 : ((c : Int) == 92) = false := by rw [beq_eq_false_iff_ne]; exact h92
          by_cases h124 : (c : Int) = 124
          · rw [if_pos h124] at hE
            have HE2 := Lib.hid hE
            have hc124 : c = 124 := by omega
            subst hc124
            have HST := Lib.hid (str_kept w.heap.size w.heap.size val w2 HK2.out.bld HK2.out.below.size)
            have HON := Lib.hid (fun (W : World) k (hb : w.heap.size ≤ W.heap.size) => once_any w.heap.size v l val W k hb (by have := HFL.out; have := HWL.out; omega))
            clear hE HE h92 h124
            go_wp2_with fail
            refine HST.out.mono ?_
            rintro e w3 ⟨rfl, ⟨bx, by', hbx⟩, hb3, hk3⟩
            have HS3 := Lib.hid (HK2.out.strung hb3 hk3)
            have HBX := Lib.hid hbx
            clear hbx hb3 hk3
            have HON3 := Lib.hid (HON.out w3 HS3.out.1 HS3.out.2.2.size)
            go_wp2_with fail
            refine HON3.out.mono ?_
            rintro e w4 ⟨v4, rfl, ho4, hm4⟩
            have hb4 := listed_box HS3.out.1 HBX.out hm4
            have HRS := Lib.hid (reset_any w.heap.size _ _ w4 hb4)
            have HO4 := Lib.hid ho4; have HM4 := Lib.hid hm4
            clear ho4 hm4 hb4
            go_wp2_with fail
            refine HRS.out.mono ?_
            rintro e w5 ⟨rfl, hb5, hm5⟩
            have HK5 := Lib.hid (VaIs.listed HS3.out HBX.out HO4.out HM4.out hb5 hm5 HWL.out HFL.out)
            clear hb5 hm5
            go_wp2
            go_roundw
            case rel => exact ⟨_, _, onceP l val, [], false, rfl, rfl, HK5.out, HE2.out⟩
            case measure =>
              have i1 := HK5.out.it
              have i2 := HIT.out
              have i3 := HWD.out
              have i4 := HP.out
              simp only [World.iterPos, i1, i2]
              omega
          · rw [if_neg h124] at hE
            have g124 : ((c : Int) == 124) = false := by rw [beq_eq_false_iff_ne]; exact h124
            have hcs := signs_any (c : Int) w2 (HOK.out.nonneg) (by have := HOK.out; unfold okRune at this; omega)
            cases hsp : specialP (c : Int) with
            | true =>
              rw [hsp] at hcs
              rw [hsp] at hE
              simp only [if_true] at hE
              have HC := Lib.hid hcs
              have HRN := Lib.hid hE
              clear hE HE h92 h124 hcs hsp
              go_wp2_with fail
              refine HC.out.mono ?_
              rintro e w3 ⟨rfl, hb3⟩
              have HB3 := Lib.hid hb3; clear hb3
              go_wp2
              go_ret2
              rw [← HRN.out]
              exact ⟨rfl, HK2.out.below.trans (HB3.out.mono HK2.out.below.size)⟩
            | false =>
              rw [hsp] at hcs
              rw [hsp] at hE
              simp only [Bool.false_eq_true, if_false] at hE
              have HC := Lib.hid hcs
              have HE2 := Lib.hid hE
              clear hE HE h92 h124 hcs hsp
              go_wp2_with fail
              refine HC.out.mono ?_
              rintro e w3 ⟨rfl, hb3⟩
              have HK2 := Lib.hid (HK2.out.kept hb3)
              clear hb3
              have HWR := Lib.hid (HWRU.out _ HK2.out)
              go_wp2_with fail
              refine HWR.out.mono ?_
              rintro e w5 ⟨kk, rfl, hb5, hw5, hi5, hk5⟩
              have HK5 := Lib.hid (HK2.out.rune hb5 hw5 hi5 hk5 HFV.out)
              clear hb5 hw5 hi5 hk5
              go_wp2
              go_roundw
              case rel => exact ⟨_, _, l, _, false, rfl, rfl, HK5.out, HE2.out⟩
              case measure =>
                have i1 := HK5.out.it
                have i2 := HIT.out
                have i3 := HWD.out
                have i4 := HP.out
                simp only [World.iterPos, i1, i2]
                omega
    · obtain rfl : pos = s.size := by omega
      have hnx : ∀ ty, (Instr.next (.pointer (some ⟨w.heap.size + 1, 0, none⟩)) true ty).run Try.prog wr = .ok (.tuple #[.bool false]) wr := fun ty => Lib.run_next_end_at wr (w.heap.size + 1) s _ ty hit hp
      have hE := HE.out
      rw [List.drop_eq_nil_of_le (by rw [bl_len]; exact Nat.le_refl _), runesB_nil] at hE
      have HRN := Lib.hid (show R = some (onceP l val) from hE.symm)
      have HST := Lib.hid (str_kept w.heap.size w.heap.size val wr HK.out.bld HK.out.below.size)
      have HON := Lib.hid (fun (W : World) k (hb : w.heap.size ≤ W.heap.size) => once_any w.heap.size v l val W k hb (by have := HK.out.fewL; omega))
      clear hE HE hit
      go_wp2_with fail
      refine HST.out.mono ?_
      rintro e w3 ⟨rfl, -, hb3, hk3⟩
      have HS3 := Lib.hid (HK.out.strung hb3 hk3)
      clear hb3 hk3
      have HON3 := Lib.hid (HON.out w3 HS3.out.1 HS3.out.2.2.size)
      go_wp2_with fail
      refine HON3.out.mono ?_
      rintro e w4 ⟨v4, rfl, ho4, hm4⟩
      have HB4 := Lib.hid (show RowKit.Below w.heap.size w w4 from HS3.out.2.2.trans (hm4.belowB HS3.out.2.2.size fun i hi e => by have := (HS3.out.1.lt i e).1; omega))
      have HO4 := Lib.hid ho4
      clear ho4 hm4
      go_wp2
      go_ret2
      rw [HRN.out]
      exact ⟨v4, rfl, HO4.out, HB4.out⟩
end
end Go.Proofs.Ytfohmepjedehfab
