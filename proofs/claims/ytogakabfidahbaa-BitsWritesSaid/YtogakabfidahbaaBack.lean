/-
  BitsBack (P1.5): for every row of numbers and widths: what was put is got by the same widths, and nothing is left. No condition.
-/
import Derived.Test.YtogakabfidahbaaOps
import Derived.Test.YtogakabfidahbaaBackL
import Derived.Test.YtogakabfidahbaaLive
namespace Go.Proofs.Ytogakabfidahbaa
set_option linter.unusedVariables false
set_option linter.unusedSimpArgs false
open Go.ChangeShapes Go.WideShapes Go.ChangeAt Go.RowKit

def opCells (l : List (Nat × Int)) : List Value := l.flatMap fun o => [.int .u64 (o.1 : Nat), .int .i64 o.2]
theorem opCells_len (l : List (Nat × Int)) : (opCells l).length = l.length * 2 := by
  induction l with
  | nil => rfl
  | cons o l ih => simp only [opCells, List.flatMap_cons, List.length_append, List.length_cons, List.length_nil] at ih ⊢; omega
theorem opCells_snoc (l : List (Nat × Int)) (o : Nat × Int) : opCells (l ++ [o]) = opCells l ++ [.int .u64 (o.1 : Nat), .int .i64 o.2] := by
  unfold opCells; rw [List.flatMap_append, List.flatMap_singleton]

/-- In the first loop: the numbers L are put, and kept in the row u. -/
def Bk (B : Nat) (W0 wr : World) (p : Nat) (L : List (Nat × Int)) (u : Value) : Prop :=
  ∃ v, WisB B wr p v (bitsAll L) ∧ wr.ownsRow B 30 2 u L.length (opCells L) ∧ Below B W0 wr ∧ (∀ o ∈ L, Fits o)

theorem infoOp : (Try.prog.info? 30).map (fun i => (i.zero, i.size, i.bytes)) = some (some (.agg #[.int .u64 0, .int .i64 0]), 2, 16) := by kernel_rfl
/-- A row that is owned stays so where its block does. -/
theorem own_moved {w w' : World} {base : Nat} {e : TypeId} {size : Nat} {u : Value} {n : Nat} {xs : List Value} (h : w.ownsRow base e size u n xs) (hk : ∀ g, u.ownBlock = some g → w'.heap[g]? = w.heap[g]?) : w'.ownsRow base e size u n xs := by
  refine ⟨h.1, ?_⟩
  rcases h.2 with hn | ⟨g, cap, cur, rfl, hb, hg, rest⟩
  · exact .inl hn
  · exact .inr ⟨g, cap, cur, rfl, hb, (hk g rfl).trans hg, rest⟩
/-- Rows of cells of two types share no block. -/
theorem own_own {w : World} {base base' : Nat} {e e' : TypeId} {size size' n n' : Nat} {u v : Value} {xs ys : List Value} (h : w.ownsRow base e size u n xs) (h' : w.ownsRow base' e' size' v n' ys) (he : e ≠ e') {g : Nat} (hg : u.ownBlock = some g) : v.ownBlock ≠ some g := by
  rcases h.2 with ⟨rfl, _⟩ | ⟨g', cap, cur, rfl, _, hh, _⟩
  · cases hg
  · have : g' = g := by simpa [Value.ownBlock] using hg
    subst this
    exact own_blk h' hh (fun e => he e.symm)
theorem bk_put {B : Nat} {W0 wr w' : World} {p : Nat} {L : List (Nat × Int)} {u v : Value} {bits bits' : List Bool} {cs : Array Value} (hB : B = W0.heap.size) (hw : WisB B wr p v bits) (hown : wr.ownsRow B 30 2 u L.length (opCells L)) (hb : Below B W0 wr)
    (hput : Put1 (wr.alloc (.cells cs 30)) w' p v bits') :
    ∃ v', WisB B w' p v' bits' ∧ w'.ownsRow B 30 2 u L.length (opCells L) ∧ Below B W0 w' ∧ w'.heap[wr.heap.size]? = some (.cells cs 30 (0, 0)) := by
  have hsz := hb.size
  have hpl := blk_lt hw.1.1
  have hput' := hput
  obtain ⟨v1, h1, h2, h3⟩ := hput'
  have hwq : WisB B (wr.alloc (.cells cs 30)) p v bits := ⟨hw.1.below ((Below.refl _ _).alloc (Nat.le_refl _) _), hw.2⟩
  obtain ⟨v', hv', hbw⟩ := hput.above hwq (by rw [World.size_alloc]; omega)
  refine ⟨v', hv', ?_, (hb.alloc (by omega) _).trans hbw, ?_⟩
  · refine own_moved hown fun g hg => ?_
    have hlt := (hown.lt g hg).2
    have hne : ¬ (g = p ∨ v.ownBlock = some g) := by
      rintro (h | h)
      · subst h; exact own_blk hown hw.1.1 (by decide) hg
      · exact own_own hown hw.1.2 (by decide) hg h
    rw [h2.block g (by rw [World.size_alloc]; omega) hne, Below.heap_alloc wr _ g hlt]
  · have hne : ¬ (wr.heap.size = p ∨ v.ownBlock = some wr.heap.size) := by
      rintro (h | h)
      · omega
      · have := (hw.1.2.lt _ h).2; omega
    rw [h2.block wr.heap.size (by rw [World.size_alloc]; omega) hne]
    exact heap_alloc_new _ _

theorem bk_snoc {B : Nat} {W0 w4 w5 : World} {p : Nat} {L : List (Nat × Int)} {u u' v' : Value} {o : Nat × Int} {ob : Obj} (hB : B = W0.heap.size) (hw : WisB B w4 p v' (bitsAll L ++ bitsOf o.1 o.2.toNat)) (hown : w4.ownsRow B 30 2 u L.length (opCells L)) (hb : Below B W0 w4)
    (hown5 : w5.ownsRow B 30 2 u' (L.length + 1) (opCells L ++ [.int .u64 (o.1 : Nat), .int .i64 o.2])) (hgrow : (w4.alloc ob).grownBy w5 u.ownBlock) (hfit : ∀ o ∈ L, Fits o) (hfo : Fits o) : Bk B W0 w5 p (L ++ [o]) u' := by
  have hsz := hb.size
  have hkeep : ∀ g, g < w4.heap.size → u.ownBlock ≠ some g → w5.heap[g]? = w4.heap[g]? := fun g hg hne => by
    rw [hgrow.block g (by rw [World.size_alloc]; omega) (fun e => hne e.symm), Below.heap_alloc w4 _ g hg]
  refine ⟨v', ⟨⟨?_, ?_⟩, hw.2⟩, ?_, (hb.alloc (by omega) _).grown hgrow (by rw [World.size_alloc]; omega) (fun k h => (hown.lt k h).1), ?_⟩
  · rw [bitsAll_snoc, hkeep p (blk_lt hw.1.1) (own_blk hown hw.1.1 (by decide))]; exact hw.1.1
  · rw [bitsAll_snoc]
    exact own_moved hw.1.2 fun g hg => hkeep g (hw.1.2.lt g hg).2 (own_own hw.1.2 hown (by decide) hg)
  · rw [List.length_append, opCells_snoc]; exact hown5
  · intro x hx
    rcases List.mem_append.1 hx with hx | hx
    · exact hfit x hx
    · rw [List.mem_singleton.1 hx]; exact hfo

theorem opCells_get (l : List (Nat × Int)) : ∀ k (h : k < l.length), (opCells l)[k * 2]? = some (.int .u64 (l[k].1 : Nat)) ∧ (opCells l)[k * 2 + 1]? = some (.int .i64 l[k].2) := by
  induction l with
  | nil => intro k h; simp at h
  | cons o l ih =>
    intro k h
    have e : opCells (o :: l) = .int .u64 (o.1 : Nat) :: .int .i64 o.2 :: opCells l := by simp [opCells]
    cases k with
    | zero => rw [e]; exact ⟨rfl, rfl⟩
    | succ k =>
      have := ih k (by simpa using h)
      rw [e, show (k + 1) * 2 = k * 2 + 1 + 1 from by omega]
      exact ⟨this.1, this.2⟩
theorem own_ops {w : World} {B : Nat} {u : Value} {l : List (Nat × Int)} (h : w.ownsRow B 30 2 u l.length (opCells l)) : ∃ A cap, u = .slice A l.length cap ∧ OpsRd w A l ∧ A.map (·.block) = u.ownBlock := by
  rcases h.2 with ⟨rfl, h0⟩ | ⟨g, cap, cur, rfl, _, _, _⟩
  · have : l = [] := List.eq_nil_of_length_eq_zero h0
    subst this
    exact ⟨none, 0, rfl, fun k hk => absurd hk (by simp), rfl⟩
  · refine ⟨some ⟨g, 0, none⟩, cap, rfl, fun k hk => ?_, rfl⟩
    obtain ⟨g0, g1⟩ := opCells_get l k hk
    have c0 := h.cells (g := g) rfl _ _ g0
    have c1 := h.cells (g := g) rfl _ _ g1
    rw [add_plain] at c0 c1
    exact ⟨g, 0, rfl, c0, c1⟩
theorem OpsRd.moved {S : Nat → Prop} {w w' : World} {A : Option Addr} {l : List (Nat × Int)} (h : OpsRd w A l) (hm : Mv S w w') (hA : ∀ i, A.map (·.block) = some i → ¬ S i) : OpsRd w' A l := by
  intro k hk
  obtain ⟨b, off, rfl, h1, h2⟩ := h k hk
  have hlt : b < w.heap.size := World.block_lt_of_cell? w _ h1
  have hb := hm.block b hlt (hA b rfl)
  exact ⟨b, off, rfl, (World.cell?_of_block (a := ⟨b, off + k * 2, none⟩) (w := w) hb).trans h1, (World.cell?_of_block (a := ⟨b, off + k * 2 + 1, none⟩) (w := w) hb).trans h2⟩

section
set_option maxHeartbeats 1600000
set_option maxRecDepth 100000
theorem back_walk (A : Option Addr) (ca : Nat) (l : List (Nat × Int)) (w : World) (hl : l.length ≤ 9223372036854775807) (hx : OpsRd w A l) (hok : OpsOk l) :
    Calls Try.prog 5 #[.slice A l.length ca] w fun e w' => e = .returned (.bool true) ∧ Below w.heap.size w w' := by
  go_enter Try.func5, Try.ntmps5
  go_wp2_with fail
  refine (new_any _).mono ?_
  rintro e w1 ⟨rfl, hw1, hb1⟩
  go_wp2_with fail
  refine (live_any _).mono ?_
  rintro e w2 ⟨rfl, hb2⟩
  have hw2 : WisB w.heap.size w2 w.heap.size (.slice none 0 0) (bitsAll []) := ⟨hw1.below hb2, Nat.le_refl _, fun i h => by cases h⟩
  have hb2 := hb1.trans (hb2.mono hb1.size)
  have hx2 := hx.below hb2
  clear hw1 hb1
  by_cases hbig : (l.length : Int) ≤ 200
  · go_wp2_with fail
    refine (few_any _ _ _ _).mono ?_
    rintro e w3 ⟨rfl, rfl⟩
    rw [decide_eq_true hbig]
    go_wp2_with fail
    generalize hW : w2.alloc (.cells #[] 30) = w3
    have hbk : Bk w.heap.size w w3 w.heap.size [] (.slice (some ⟨w2.heap.size, 0, none⟩) 0 0) := by
      refine ⟨_, ⟨hw2.1.below (by rw [← hW]; exact (Below.refl _ _).alloc (Nat.le_refl _) _), hw2.2⟩, ?_, by rw [← hW]; exact hb2.alloc hb2.size _, fun o ho => by cases ho⟩
      rw [← hW]
      exact World.ownsRow_made w2 #[] 0 hb2.size (by decide) rfl
    have hx3 : OpsRd w3 A l := by rw [← hW]; exact hx2.below ((Below.refl _ _).alloc (Nat.le_refl _) _)
    clear hW hw2 hb2 hx2
    go_loopw [4, 29] (fun u i wr => ∃ (k : Nat) (L : List (Nat × Int)), k ≤ l.length ∧ L.length ≤ k ∧ i = .int .i64 k ∧ Bk w.heap.size w wr w.heap.size L u) (fun _ i _ => l.length - (intOf i).toNat)
    case atStart => exact ⟨0, [], by omega, Nat.le_refl _, rfl, hbk⟩
    case round =>
      obtain ⟨k, L, hk, hLk, rfl, v, hw, hown, hb, hfit⟩ := hrel
      by_cases hlt : k < l.length
      · obtain ⟨b, off, rfl, c0, c1⟩ := (hx.below hb) k hlt
        have hokk := hok l[k] (List.getElem_mem hlt)
        go_wp2_with fail
        have h64 := bitsAll_len L hfit
        have hPE : putE (bitsAll L).length l[k].1 l[k].2 = 0 ∨ putE (bitsAll L).length l[k].1 l[k].2 ≠ 0 := by omega
        refine (put_any _ w.heap.size l[k].1 l[k].2 v (bitsAll L) (hw.1.below ((Below.refl _ _).alloc (Nat.le_refl _) _)) hokk.1 (by omega)).mono ?_
        rintro e w4 ⟨rfl, hput⟩
        obtain ⟨v', hw4, hown4, hb4, kb⟩ := bk_put rfl hw hown hb hput
        rcases hPE with hpe | hpe
        · rw [hpe] at hw4 ⊢
          simp only [if_true] at hw4
          have hfo : Fits l[k] := putE_fits hpe
          obtain ⟨i0, hi, hz0, hz1, hz2⟩ := info_parts infoOp
          have q0 := cell_blk kb 0
          have q1 := cell_blk kb 1
          simp at q0 q1
          have hlo := fun (k : Nat) h => (hown4.lt k h).1
          have HS := Lib.hid hb4.size
          have KB := Lib.hid kb; clear kb
          have HPE := Lib.hid hpe; clear hpe
          generalize l[k] = o at *
          obtain ⟨on, ow⟩ := o
          simp only at *
          go_wp2_with (first | (at_builtin; go_must (refine wpList_append_own _ rfl _ _ 22 rfl w.heap.size 30 i0 (.agg #[.int .u64 0, .int .i64 0]) 2 16 Try.underlying22 hi hz0 hz1 hz2 rfl (by decide) _ L.length (opCells L) rfl (hown4.alloc _) ⟨w4.heap.size, 0, none⟩ 1 1 [.int .u64 (on : Nat), .int .i64 ow] rfl rfl (World.news_of_block (heap_alloc_new _ _)) (by simp [Value.oneCell']) (by unfold maxLen; omega) (by omega) (by have := HS.out; simp; omega) ?_; intro u' w5 hown5 hgrow5 _)) | fail)
          go_wp2
          go_roundw
          case rel => exact ⟨k + 1, L ++ [(on, ow)], by omega, by rw [List.length_append]; simp; omega, by go_num, bk_snoc rfl hw4 hown4 hb4 hown5 hgrow5 hfit hfo⟩
          case measure => simp [intOf]; omega
        · have hpz : (((putE (bitsAll L).length l[k].1 l[k].2 : Nat) : Int) == 0) = false := by rw [beq_eq_false_iff_ne]; omega
          rw [if_neg hpe] at hw4
          clear hpe
          go_wp2
          go_roundw
          case rel => exact ⟨k + 1, L, by omega, by omega, by go_num, _, hw4, hown4, hb4, hfit⟩
          case measure => simp [intOf]; omega
      · have hL64 := bitsAll_len L hfit
        have HBL := Lib.hid (bytesOf_length (bitsAll L))
        go_wp2_with fail
        refine (bytes_any wr w.heap.size v (bitsAll L) hw.1 (by have := HBL.out; omega)).mono ?_
        rintro e w5 ⟨vb, rfl, ownb, hb5⟩
        obtain ⟨Ab, cb, rfl, rdb, _, hcb, _⟩ := own_rd ownb
        have hw5 := hw.1.below hb5
        have hown5 := own_moved hown fun g hg => hb5.block g (hown.lt g hg).2
        have hb5 := hb.trans (hb5.mono hb.size)
        go_wp2_with fail
        refine (len_any _ _ _ _ hw5).mono ?_
        rintro e w6 ⟨rfl, rfl⟩
        go_wp2_with fail
        refine (newr_ok w5 Ab cb (bitsAll L).length (bytesOf (bitsAll L)) rdb hcb (by have := HBL.out; omega) (by have := HBL.out; omega)).mono ?_
        rintro e w6 ⟨pr, vr, rfl, hr6, hpr, hvr, hb6⟩
        rw [List.take_of_length_le (by have := HBL.out; omega)] at hr6
        have hown6 := own_moved hown5 fun g hg => hb6.block g (hown5.lt g hg).2
        have hlt6 := fun g hg => (hown5.lt g hg).2
        have hb6 := hb5.trans (hb6.mono hb5.size)
        obtain ⟨A4, c4, rfl, hops, hA4⟩ := own_ops hown6
        have hnpr : ∀ i, A4.map (·.block) = some i → ¬ i = pr := by
          intro i hi e
          have h1 := hlt6 i (by rw [← hA4]; exact hi)
          omega
        have hLm : L.length ≤ 200 := by omega
        clear rdb hw5 hown5 hown6 hown hA4 ownb
        go_wp2_with fail
        go_loopw [61] (fun i wq => ∃ q : Nat, q ≤ L.length ∧ i = .int .i64 q ∧ Ris wq pr vr (bytesOf (bitsAll L)) (bitsAll L).length (bitsAll (L.take q)).length ∧ Mv (fun i => i = pr) w6 wq) (fun i _ => L.length - (intOf i).toNat)
        case atStart => exact ⟨0, by omega, rfl, hr6, Mv.refl _ _⟩
        case round =>
          obtain ⟨q, hq, rfl, hr, hm⟩ := hrel
          by_cases hqlt : q < L.length
          · obtain ⟨b, off, rfl, c0, c1⟩ := (hops.moved hm hnpr) q hqlt
            obtain ⟨g1, g2, g3⟩ := got L q hqlt hfit
            obtain ⟨f1, f2, f3⟩ := hfit L[q] (List.getElem_mem hqlt)
            have hrq := hr.moved ((Mv.refl _ wr).alloc (.cells #[.int .u64 (L[q].1 : Nat), .int .i64 L[q].2] 30)) (S := fun _ => False) (fun f => f) (fun _ _ f => f)
            have G1 := Lib.hid g1; clear g1
            have G2 := Lib.hid g2; clear g2
            have G3 := Lib.hid g3; clear g3
            have F3 := Lib.hid f3; clear f3
            have hge : getE ((bitsAll L).length - (bitsAll (L.take q)).length) L[q].2 = 0 := by
              unfold getE
              rw [if_neg (by omega), if_neg (by have := G1.out; omega)]
            go_wp2_with fail
            refine (get_any _ pr L[q].2 vr _ _ _ hrq).mono ?_
            rintro e w8 ⟨rfl, hr8, hm8⟩
            rw [hge, if_pos rfl, G2.out]
            rw [hge, if_pos rfl, ← G3.out] at hr8
            have kb : w8.heap[wr.heap.size]? = some (.cells #[.int .u64 (L[q].1 : Nat), .int .i64 L[q].2] 30 (0, 0)) := by
              have hpl := blk_lt hr.1
              rw [hm8.block wr.heap.size (by rw [World.size_alloc]; omega) (by omega)]
              exact heap_alloc_new _ _
            have q0 := cell_blk kb 0
            simp at q0
            have KB := Lib.hid kb; clear kb hge
            have hm9 := (hm.alloc (.cells #[.int .u64 (L[q].1 : Nat), .int .i64 L[q].2] 30)).trans hm8 (fun _ _ h => h)
            go_wp2
            go_roundw
            case rel => exact ⟨q + 1, by omega, by go_num, hr8, hm9⟩
            case measure => simp [intOf]; omega
          · have hqe : q = L.length := by omega
            rw [hqe, List.take_length] at hr
            have HQ := Lib.hid hqe; clear hqe
            have hbl := hb6.trans (hm.belowB hb6.size (fun k hk e => by subst e; have := hb5.size; omega))
            go_wp2_with fail
            refine (left_any _ pr vr _ _ _ hr).mono ?_
            rintro e w9 ⟨rfl, m, rfl⟩
            rw [Nat.sub_self]
            go_wp2
            go_ret
            exact ⟨rfl, ⟨hbl.os, hbl.tape, hbl.output, hbl.size, hbl.block⟩⟩
  · go_wp2_with fail
    refine (few_any _ _ _ _).mono ?_
    rintro e w3 ⟨rfl, rfl⟩
    rw [decide_eq_false (show ¬ (l.length : Int) ≤ 200 by omega)]
    go_wp2_with fail
    refine (live_any _).mono ?_
    rintro e w3 ⟨rfl, hb3⟩
    go_wp2
    go_ret
    exact ⟨rfl, hb2.trans (hb3.mono hb2.size)⟩

set_option maxRecDepth 100000 in
theorem bitsBack_lifted (os : Os) (started : os.Started) (H : Type) (enc : TypeId × Value → H) :
    ReturnsInHanded {} Try.checked os 5 .any (Rows.bitsBackSpec.pre6 enc Try.prog Try.f5 Rows.bitsBackRow.domain false) (Rows.bitsBackSpec.post enc Try.prog Try.f5 false true false false) := by
  refine returnsInHanded_of_change (C := Try.checked) ownKn started (by kernel_rfl) Try.func5
    (ChangeSpec.witness6 (enc := enc) (C := Try.checked) false ⟨#[], #[.slice none 0 0], []⟩ 8 (by kernel_rfl) (by kernel_rfl) (by kernel_rfl) (by kernel_rfl)) ?_
  intro W base args ds gs before hval0 hW hcnd _
  have hval : ∀ (j : Nat) t v, Try.f5.params[j]? = some t → args[j]? = some v → Value.okWide Try.prog W .any base t v := hval0
  have hW' := hW
  obtain ⟨p, q, hA0, hV, rfl, hfz, hnd⟩ := hW
  have hA : DataW.TrodAll enc Try.prog W 0 (fun _ => true) true Try.f5.params.toList args.toList ds p := hA0
  rw [Try.params5] at hA hval
  obtain ⟨v0, vs0, d0, ds0, p0, q0, hargs, rfl, rfl, h0, r0⟩ := trodAll_cons hA
  obtain ⟨rfl, rfl, rfl⟩ := trodAll_nil r0
  obtain rfl : args = #[v0] := by cases args; simp_all
  obtain ⟨rfl, rfl⟩ := trodVars_none hV
  obtain ⟨A0, c0, xs0, rfl, hm0, hx0⟩ := open_pairs (hval 0 22 v0 rfl rfl) h0
  clear hA0 hval0 hA
  unfold maxLen at hm0
  refine (back_walk A0 c0 xs0 W (by omega) hx0.1 hx0.2).mono fun e W' ⟨he, hg⟩ => ?_
  subst he
  exact ⟨_, rfl, law_end laidOut (by kernel_rfl) (by kernel_rfl) Try.underlying4 rfl hW' ⟨rfl, rfl, rfl⟩ hg⟩

theorem bitsBack_holds : Rows.BitsBackSaid :=
  OpenClaim.holds_of_wide 5 Try.f5 rfl rfl rfl rfl rfl rfl rfl ⟨rfl, rfl, rfl, rfl, rfl⟩ rfl rfl rfl rfl rfl (by kernel_rfl) Try.func5 (by kernel_rfl)
    (of_decide_eq_true (by kernel_rfl)) (by unfold Func.isWrapper; first | (rw [if_pos (by decide +kernel)]; kernel_rfl) | (rw [if_neg (by decide +kernel)]; exact ⟨rfl, rfl⟩))
    (fun os started H enc _ => bitsBack_lifted os started H enc)
#print axioms bitsBack_holds
end
end Go.Proofs.Ytogakabfidahbaa
