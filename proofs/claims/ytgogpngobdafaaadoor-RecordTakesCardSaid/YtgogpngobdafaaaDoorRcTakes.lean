/-
  RecordTakes (P13.3): for all bytes, what Take says is what the plain answers say. The condition is the library's two tables': they hold what their initialisers lay, which the card ties to the program's text.
-/
import Derived.OwnWalk
import Derived.Test.YtgogpngobdafaaaDoorJl
import Derived.Test.YtgogpngobdafaaaDoorJc
import Derived.Test.YtgogpngobdafaaaDoorJg
import Derived.Test.YtgogpngobdafaaaDoorRst
import Derived.Test.YtgogpngobdafaaaDoorJs
namespace Go.Proofs.YtgogpngobdafaaaDoor
set_option linter.unusedVariables false
set_option linter.unusedSimpArgs false
section
open Go.RowKit
theorem wpList_append_oneT {w : World} {ops : Array Oper} {rest : List Oper} {o : Oper} {a : Act} {Q : Exit → Act → World → Prop} (hgd : o.guard = none) (s x : Operand)
    (ho : o.op = .call { callee := .builtin .append, args := #[s, x], argTypes := #[25, 25] })
    (base : Nat) (v : Value) (xs : List En) (m : Nat) (hm : xs.length = m) (hs : a.eval s = v) (hown : w.ownsRow base 47 4 v m (ecells xs))
    (ad : Addr) (y : En) (hx : a.eval x = .slice (some ad) 1 1) (hy : Rd w (some ad) (ecells [y]))
    (hl : xs.length ≤ 1000000) (hbase : base ≤ w.heap.size)
    (h : ∀ A' c' w', w'.ownsRow base 47 4 (.slice A' (m + 1) c') (m + 1) (ecells (xs ++ [y])) → w.grownBy w' v.ownBlock → ((Value.slice A' (m + 1) c').ownBlock = v.ownBlock ∨ (Value.slice A' (m + 1) c').ownBlock = some w.heap.size) → wpList Tryd.prog ops Q rest (a.put o.dst (.slice A' (m + 1) c')) w') : wpList Tryd.prog ops Q (o :: rest) a w := by
  subst hm
  obtain ⟨i0, hi, hz0, hz1, hz2⟩ := info_parts infoEn
  refine wpList_append_own_at w hgd s x 25 ho base 47 i0 (.agg #[.int .u32 0, .int .i64 0, .int .u64 0, .int .u64 0]) 4 32 Tryd.underlying25 hi hz0 hz1 hz2 rfl (by decide) v xs.length (ecells xs) hs hown ad 1 1 (ecells [y]) hx (ecells_len [y]) (rd_cells hy) (ecells_one' [y]) (by unfold maxLen; omega) (by omega) hbase ?_
  intro v' w' own grow _ hat
  have e1 : xs.length + 1 = (xs ++ [y]).length := by simp
  rw [← ecells_append] at own
  have own2 := own
  rw [e1] at own2
  obtain ⟨A', c', e', -⟩ := own_rd_en own2
  rw [← e1] at e'
  subst e'
  exact h A' c' w' own grow hat
theorem keptT {w w' : World} {base n : Nat} {v : Value} {xs : List Value} {e : TypeId} (h : w.ownsRow base e 4 v n xs) (g : w.grownBy w' v.ownBlock) {b : Nat} {cs : Array Value} {t : TypeId}
    (hb : w.heap[b]? = some (.cells cs t (0, 0))) (ht : e ≠ t) : w'.heap[b]? = some (.cells cs t (0, 0)) :=
  (g.block b (blk_lt hb) (Ne.symm (own_blk h hb ht))).trans hb
theorem own_rdT {w : World} {B n c : Nat} {A : Option Addr} {l : List En} (h : w.ownsRow B 47 4 (.slice A n c) n (ecells l)) (hn : l.length = n) : Rd w A (ecells l) := by
  subst hn
  obtain ⟨A', c', e, hr, -⟩ := own_rd_en h
  injection e with e _ _
  subst e
  exact hr
section
set_option maxHeartbeats 3200000
set_option maxRecDepth 100000
theorem rtake13_any (A : Option Addr) (c len : Nat) (xs : Bs) (w : World) (hle : xs.length = len) (hx : Rd w A (xs.map Bv)) (hc : len ≤ c) (hl : len ≤ 1000000) (hcm : c ≤ 9223372036854775807) :
    Calls Tryd.prog 22 #[.slice A len c] w (TakeRes w (takeR xs)) := by
  subst hle
  obtain ⟨R, hR⟩ : ∃ R, R = takeR xs := ⟨_, rfl⟩
  rw [← hR]
  obtain ⟨w1, hw1⟩ : ∃ w1, w1 = w.alloc (.cells #[.int .i64 0, .int .u32 0, .slice none 0 0, .slice none 0 0] 27) := ⟨_, rfl⟩
  obtain ⟨b2, hb2⟩ : ∃ b, b = w.heap.size := ⟨_, rfl⟩
  have h2 : w1.heap[b2]? = some (.cells #[.int .i64 0, .int .u32 0, .slice none 0 0, .slice none 0 0] 27 (0, 0)) := by rw [hw1, hb2]; exact heap_alloc_new w _
  have hbe : RowKit.Below w.heap.size w w1 := by rw [hw1]; exact (RowKit.Below.refl _ w).alloc (Nat.le_refl _) _
  have H2 := Lib.hid h2; have HBE := Lib.hid hbe; have HW1 := Lib.hid hw1; have HB2 := Lib.hid hb2
  have H2B := Lib.hid (show w.heap.size ≤ b2 from by omega)
  have HX := Lib.hid hx
  clear hw1 hb2 h2 hbe
  cases xs with
  | nil =>
    have hr : R = (rp0, 6) := by rw [hR]; rfl
    subst hr
    clear hR hx
    simp only [List.length_nil]
    go_enter Tryd.func22, Tryd.ntmps22
    have HBR := Lib.hid (show RowKit.Below w.heap.size w (w.alloc (.cells #[.int .i64 0, .int .u32 0, .slice none 0 0, .slice none 0 0] 27)) from by rw [← HW1.out]; exact HBE.out)
    go_wp2_with (first
      | (refine wpList_store_agg (o := ⟨none, _, _, _, _, _⟩) ?_ 27 (.tmp 2) (.tmp 13) ?_ w.heap.size 0 [.int .i64 0, .int .u32 0, .slice none 0 0, .slice none 0 0] ?_ ?_ 27 _ (by have h := H2.out; rw [HB2.out, HW1.out] at h; exact h) (by kernel_rfl) (by show 0 + 4 ≤ 4; decide) (by intro v hv; simp at hv; rcases hv with rfl | rfl | rfl | rfl <;> rfl) ?_; rfl; rfl; rfl; rfl; intro w9 hg9 hmv9 hs9)
      | fail)
    refine post_rv2 (by rfl) w.heap.size (rvC ⟨0, 0, none, 0, [], none, 0, []⟩) (by rfl) hg9 (by rfl) (by rfl) ?_
    exact ⟨⟨0, 0, none, 0, [], none, 0, []⟩, by rfl, by rfl, ⟨Rd.nil _ _, Rd.nil _ _⟩, HBR.out.trans (hmv9.belowB HBR.out.size (fun i hi e => by omega))⟩
  | cons k b =>
    obtain ⟨b0, off, rfl, c0⟩ := hx.byte (k := 0) (by simp)
    simp only [List.getElem_cons_zero, Nat.add_zero] at c0
    have hb0 : b0 < w.heap.size := World.block_lt_of_cell? w _ c0
    have c01 : (w.alloc (.cells #[.int .i64 0, .int .u32 0, .slice none 0 0, .slice none 0 0] 27)).cell? ⟨b0, off, none⟩ = some (.int .u8 (k.toNat : Int)) := by rw [← HW1.out, World.cell?_of_block (a := ⟨b0, off, none⟩) (HBE.out.block b0 hb0)]; exact c0
    unfold takeR at hR
    simp only at hR
    generalize k.toNat = kn at c01 hR
    have n1 : (0 : Int) < (b.length : Int) + 1 := by omega
    have n2 : ((b.length : Int) + 1 == 0) = false := by rw [beq_eq_false_iff_ne]; omega
    have h1c : 1 ≤ b.length + 1 := by omega
    simp only [List.length_cons] at hl hc ⊢
    clear hx c0
    by_cases k1 : kn = 1
    · subst k1
      rw [if_pos rfl] at hR
      have hse := fun A2 (h : Rd w1 A2 (b.map Bv)) => rser_any A2 (c + 0 - 1) b.length b w1 rfl h (by omega) (by omega) (by omega)
      simp only [Nat.add_zero] at hse
      rw [← hR] at hse
      have HSE := Lib.hid hse
      clear hse hR
      go_enter Tryd.func22, Tryd.ntmps22
      go_wp2_with (first
        | (refine wpList_slice_every (o := ⟨some 20, _, _, _, _, _⟩) ?_ 30 (.tmp 19) (some (.const (.int .i64 1))) none ?_ 5 Tryd.underlying30 (by kernel_rfl) (some ⟨b0, off, none⟩) (b.length + 1) c 1 (b.length + 1) ?_ ?_ ?_ (by assumption) (by assumption) ?_; rfl; rfl; rfl; exact .inl rfl; exact .inr ⟨rfl, rfl⟩; intro A2 hrd2)
        | fail)
      have hr2 := hrd2 w1 _ (by simpa using hc) (HX.out.below HBE.out)
      simp only [List.map_cons, List.drop_succ_cons, List.drop_zero] at hr2
      rw [← HB2.out, ← HW1.out]
      refine (HSE.out _ hr2).mono ?_
      rintro e w5 ⟨⟨kd', r', A', ca', ls', B', cb', ps'⟩, rfl, hxp, hxi, hb5⟩
      have h25 := (hb5.block _ (blk_lt H2.out)).trans H2.out
      have HB5 := Lib.hid (HBE.out.trans (hb5.mono HBE.out.size))
      have H25 := Lib.hid h25; have HXI := Lib.hid hxi; have HXP := Lib.hid hxp
      clear h25 hxi hb5 hr2 hrd2 hxp
      unfold rvC
      simp only
      go_wp2_with (first
        | (refine wpList_store_agg (o := ⟨none, _, _, _, _, _⟩) ?_ 27 (.tmp 2) (.tmp 22) ?_ b2 0 [.int .i64 kd', .int .u32 (r' : Nat), .slice A' ls'.length ca', .slice B' ps'.length cb'] ?_ ?_ 27 _ H25.out (by kernel_rfl) (by show 0 + 4 ≤ 4; decide) (by intro v hv; simp at hv; rcases hv with rfl | rfl | rfl | rfl <;> rfl) ?_; rfl; rfl; rfl; rfl; intro w9 hg9 hmv9 hs9)
        | fail)
      refine post_rv2 (by rfl) b2 (rvC ⟨kd', r', A', ca', ls', B', cb', ps'⟩) (by rfl) hg9 (by rfl) (by rfl) ?_
      exact ⟨⟨kd', r', A', ca', ls', B', cb', ps'⟩, rfl, HXP.out, HXI.out.mv (y := ⟨0, 0, none, 0, [], none, 0, []⟩) hmv9 H25.out, HB5.out.trans (hmv9.belowB HB5.out.size (fun i hi e => by have := H2B.out; omega))⟩
    · rw [if_neg k1] at hR
      have g1 : ((kn : Int) == 1) = false := by rw [beq_eq_false_iff_ne]; omega
      by_cases k2 : kn = 2
      · subst k2
        rw [if_pos rfl] at hR
        unfold ptsR at hR
        have hu := fun A2 (h : Rd w1 A2 (b.map Bv)) => ruvarint_any A2 (c - 1) b w1 h (by omega)
        have hk := uvS_le' b
        have hn := uvS_lt' b
        generalize uvS 0 0 b = U at hu hk hn hR
        obtain ⟨n, m, er⟩ := U
        have hut : uvT (n, m, er) = .tuple #[.int .u64 (n : Int), .int .i64 (m : Int), .int .i64 (er : Int)] := rfl
        rw [hut] at hu
        simp only at hk hn hR
        have HU := Lib.hid hu; have HR := Lib.hid hR
        clear hu hut hR
        go_enter Tryd.func22, Tryd.ntmps22
        go_wp2_with (first
          | (refine wpList_slice_every (o := ⟨some 32, _, _, _, _, _⟩) ?_ 30 (.tmp 31) (some (.const (.int .i64 1))) none ?_ 5 Tryd.underlying30 (by kernel_rfl) (some ⟨b0, off, none⟩) (b.length + 1) c 1 (b.length + 1) ?_ ?_ ?_ (by assumption) (by assumption) ?_; rfl; rfl; rfl; exact .inl rfl; exact .inr ⟨rfl, rfl⟩; intro A2 hrd2)
          | fail)
        have hr2 := hrd2 w1 _ (by simpa using hc) (HX.out.below HBE.out)
        simp only [List.map_cons, List.drop_succ_cons, List.drop_zero] at hr2
        rw [← HB2.out, ← HW1.out]
        refine (HU.out _ hr2).mono ?_
        rintro e w3 ⟨rfl, rfl⟩
        clear hr2 hrd2
        have hR := HR.out
        clear HR
        by_cases he : er = 0
        · subst he
          rw [if_neg (by simp)] at hR
          by_cases h3 : 256 < n
          · rw [if_pos h3] at hR
            have g3 : (256 : Int) < (n : Int) := by omega
            have HR := Lib.hid hR
            clear hR
            go_wp2_with (first
              | (refine wpList_store_agg (o := ⟨none, _, _, _, _, _⟩) ?_ 27 (.tmp 2) (.tmp 45) ?_ b2 0 [.int .i64 0, .int .u32 0, .slice none 0 0, .slice none 0 0] ?_ ?_ 27 _ H2.out (by kernel_rfl) (by show 0 + 4 ≤ 4; decide) (by intro v hv; simp at hv; rcases hv with rfl | rfl | rfl | rfl <;> rfl) ?_; rfl; rfl; rfl; rfl; intro w9 hg9 hmv9 hs9)
              | fail)
            refine post_rv2 (by rfl) b2 (rvC ⟨0, 0, none, 0, [], none, 0, []⟩) (by rfl) hg9 (by rfl) (by rfl) ?_
            exact ⟨⟨0, 0, none, 0, [], none, 0, []⟩, by rw [HR.out]; rfl, by rw [HR.out]; rfl, ⟨Rd.nil _ _, Rd.nil _ _⟩, HBE.out.trans (hmv9.belowB HBE.out.size (fun i hi e => by have := H2B.out; omega))⟩
          · rw [if_neg h3] at hR
            have g3 : ¬ (256 : Int) < (n : Int) := by omega
            by_cases h4 : n = 0
            · rw [if_pos h4] at hR
              have g4 : ((n : Int) == 0) = true := by rw [h4]; rfl
              have HR := Lib.hid hR
              clear hR
              go_wp2_with (first
                | (refine wpList_store_agg (o := ⟨none, _, _, _, _, _⟩) ?_ 27 (.tmp 2) (.tmp 49) ?_ b2 0 [.int .i64 0, .int .u32 0, .slice none 0 0, .slice none 0 0] ?_ ?_ 27 _ H2.out (by kernel_rfl) (by show 0 + 4 ≤ 4; decide) (by intro v hv; simp at hv; rcases hv with rfl | rfl | rfl | rfl <;> rfl) ?_; rfl; rfl; rfl; rfl; intro w9 hg9 hmv9 hs9)
                | fail)
              refine post_rv2 (by rfl) b2 (rvC ⟨0, 0, none, 0, [], none, 0, []⟩) (by rfl) hg9 (by rfl) (by rfl) ?_
              exact ⟨⟨0, 0, none, 0, [], none, 0, []⟩, by rw [HR.out]; rfl, by rw [HR.out]; rfl, ⟨Rd.nil _ _, Rd.nil _ _⟩, HBE.out.trans (hmv9.belowB HBE.out.size (fun i hi e => by have := H2B.out; omega))⟩
            · rw [if_neg h4] at hR
              have g4 : ((n : Int) == 0) = false := by rw [beq_eq_false_iff_ne]; omega
              have HR := Lib.hid hR
              clear hR h4
              have hm1 : 1 + m ≤ b.length + 1 := by omega
              have hwn : IntKind.i64.wrap (n : Int) = (n : Int) := by rw [IntKind.wrap_i64]; omega
              have h72 : b2 ≠ w1.heap.size := by have := blk_lt H2.out; omega
              have H72 := Lib.hid h72
              clear h72
              go_wp2_with (first
                | (refine wpList_store_agg (o := ⟨none, _, _, _, _, _⟩) ?_ 27 (.tmp 7) (.tmp 50) ?_ w1.heap.size 0 [.int .i64 2, .int .u32 0, .slice none 0 0, .slice none 0 0] ?_ ?_ 27 _ (heap_alloc_new w1 _) (by kernel_rfl) (by show 0 + 4 ≤ 4; decide) (by intro v hv; simp at hv; rcases hv with rfl | rfl | rfl | rfl <;> rfl) ?_; rfl; rfl; rfl; rfl; intro w4 hg4 hmv4 hs4)
                | (refine wpList_slice_every (o := ⟨some 54, _, _, _, _, _⟩) ?_ 30 (.tmp 51) (some (.tmp 53)) none ?_ 5 Tryd.underlying30 (by kernel_rfl) (some ⟨b0, off, none⟩) (b.length + 1) c (1 + m) (b.length + 1) ?_ ?_ ?_ (by assumption) (by assumption) ?_; rfl; rfl; rfl; (first | exact .inl rfl | exact .inl (congrArg (fun z => some (Value.int .i64 z)) (by show (1 : Int) + (m : Int) = ((1 + m : Nat) : Int); omega))); exact .inr ⟨rfl, rfl⟩; intro A3 hrd3)
                | fail)
              obtain ⟨y, hy⟩ : ∃ y, y = b.drop m := ⟨_, rfl⟩
              have hyl : y.length = b.length - m := by rw [hy, List.length_drop]
              have hro : ∀ W, Rd W (some ⟨b0, off, none⟩) ((k :: b).map Bv) → Rd W A3 (y.map Bv) := fun W h => by
                have h3 := hrd3 W _ (by simpa using hc) h
                rw [← List.map_drop, Nat.add_comm 1 m, List.drop_succ_cons, ← hy] at h3
                exact h3
              obtain ⟨g7, hg7⟩ : ∃ g, g = w1.heap.size := ⟨_, rfl⟩
              obtain ⟨g8, hg8⟩ : ∃ g, g = w4.heap.size := ⟨_, rfl⟩
              obtain ⟨w5, hw5⟩ : ∃ w', w' = w4.alloc (.cells #[.int .u32 0, .int .i64 0, .int .u64 0, .int .u64 0] 47) := ⟨_, rfl⟩
              obtain ⟨L0, hL0⟩ : ∃ l, l = b.length + 1 - (1 + m) := ⟨_, rfl⟩
              obtain ⟨c0, hc0⟩ : ∃ l, l = c - (1 + m) := ⟨_, rfl⟩
              have h24 : w4.heap[b2]? = some (.cells #[.int .i64 0, .int .u32 0, .slice none 0 0, .slice none 0 0] 27 (0, 0)) := keep_mv hmv4 ((Below.heap_alloc _ _ _ (blk_lt H2.out)).trans H2.out) H72.out
              have hb1 : RowKit.Below w.heap.size w (w1.alloc (.cells #[.int .i64 0, .int .u32 0, .slice none 0 0, .slice none 0 0] 27)) := HBE.out.alloc HBE.out.size _
              have hw17 : w.heap.size ≤ g7 := by rw [hg7]; exact HBE.out.size
              have hb4 : RowKit.Below w.heap.size w w4 := hb1.trans (hmv4.belowB hb1.size (fun i hi e => by have h := HBE.out.size; omega))
              have h45 : g7 < g8 := by rw [hg7, hg8]; exact blk_lt hg4
              have h25 : w5.heap[b2]? = some (.cells #[.int .i64 0, .int .u32 0, .slice none 0 0, .slice none 0 0] 27 (0, 0)) := by rw [hw5]; exact (Below.heap_alloc _ _ _ (blk_lt h24)).trans h24
              have h75 : w5.heap[g7]? = some (.cells #[.int .i64 2, .int .u32 0, .slice none 0 0, .slice none 0 0] 27 (0, 0)) := by rw [hw5, hg7]; exact (Below.heap_alloc _ _ _ (blk_lt hg4)).trans hg4
              have h85 : EBox w5 g8 en0 := by rw [hw5, hg8]; exact heap_alloc_new w4 _
              have hb5 : RowKit.Below w.heap.size w w5 := by rw [hw5]; exact hb4.alloc hb4.size _
              have hn28 : b2 ≠ g8 := by have h := blk_lt h24; omega
              have hn27 : b2 ≠ g7 := by rw [hg7]; exact H72.out
              have hn78 : g7 ≠ g8 := by omega
              have hw8 : w.heap.size ≤ g8 := by omega
              have H00 := Lib.hid (show (Value.slice none 0 0).ownBlock ≠ some g8 from by simp [Value.ownBlock])
              have HG81 := Lib.hid (show g7 + 1 = g8 from by rw [hg8, hs4, hg7]; simp)
              have hR := HR.out
              rw [← hy] at hR
              obtain ⟨T, hT⟩ : ∃ T, T = ensAt n en0 y := ⟨_, rfl⟩
              rw [← hT] at hR
              rw [← goE_start] at hT
              have HRT := Lib.hid hR; have HT0 := Lib.hid hT; have HY := Lib.hid hy; have HYL := Lib.hid hyl; have HRO := Lib.hid hro
              have H25 := Lib.hid h25; have H75 := Lib.hid h75; have H85 := Lib.hid h85; have HB5 := Lib.hid hb5
              have HG7 := Lib.hid hg7; have HG8 := Lib.hid hg8; have HW5 := Lib.hid hw5; have HL0 := Lib.hid hL0; have HC0 := Lib.hid hc0
              have hn256 : n ≤ 256 := by omega
              have hlc0 : L0 ≤ c0 := by omega
              have hcc0 : c0 ≤ c := by omega
              have HLY := Lib.hid (show 0 ≤ y.length ∧ L0 = y.length - 0 from ⟨by omega, by omega⟩)
              clear hR hT hy hyl hro h25 h75 h85 hb5 hg7 hg8 hw5 hL0 hc0 h24 hb1 hb4 h45 hg4 hmv4 hs4 hrd3 HR
              try rw [← HW5.out]
              try rw [← HG8.out]
              try rw [← HG7.out]
              try rw [HG81.out]
              try rw [← HL0.out, ← HC0.out]
              have hn0 : (0 : Int) ≤ (n : Int) := by omega
              go_loopw [0, 57] (fun s0 s57 wr => ∃ (kk at_ : Nat) (p : En) (acc : List En) (A' : Option Addr) (L' c' : Nat) (Av : Option Addr) (cv : Nat), s0 = .slice A' L' c' ∧ s57 = .int .i64 kk ∧ kk ≤ n ∧ acc.length = kk ∧ L' ≤ c' ∧ c' ≤ c ∧ Aside (at_ ≤ y.length ∧ L' = y.length - at_) ∧ Aside (∀ W, Rd W (some ⟨b0, off, none⟩) ((k :: b).map Bv) → Rd W A' ((y.drop at_).map Bv)) ∧ Aside (EnOk p) ∧ Aside (EBox wr g8 p) ∧ Aside (wr.heap[g7]? = some (.cells #[.int .i64 2, .int .u32 0, .slice none 0 0, .slice Av kk cv] 27 (0, 0))) ∧ Aside (wr.heap[b2]? = some (.cells #[.int .i64 0, .int .u32 0, .slice none 0 0, .slice none 0 0] 27 (0, 0))) ∧ Aside (wr.ownsRow w.heap.size 47 4 (.slice Av kk cv) kk (ecells acc)) ∧ Aside ((Value.slice Av kk cv).ownBlock ≠ some g8) ∧ Aside (RowKit.Below w.heap.size w wr) ∧ Aside (T = goE acc (n - kk) p at_ (y.drop at_))) (fun s0 s57 _ => n - (intOf s57).toNat)
              case atStart => exact ⟨0, 0, en0, [], A3, L0, c0, none, 0, rfl, rfl, by omega, rfl, hlc0, hcc0, (show Aside _ from HLY.out), (show Aside _ from HRO.out), (show Aside _ from en0_ok), (show Aside _ from H85.out), (show Aside _ from H75.out), (show Aside _ from H25.out), (show Aside _ from World.ownsRow_nil _ _ _ _), (show Aside _ from H00.out), (show Aside _ from HB5.out), (show Aside _ from HT0.out)⟩
              case round =>
                obtain ⟨kk, at_, p, acc, A', L', c', Av, cv, rfl, rfl, hkn, hac, hlc', hcc', LY, RO, PO, H8, H7, HZ, OW, NB, BW, E⟩ := hrel
                have k0 : (0 : Int) ≤ (kk : Int) := by omega
                by_cases hlt : kk < n
                · have kl : (kk : Int) < (n : Int) := by omega
                  obtain ⟨mm, hm⟩ : ∃ mm, n - kk = mm + 1 := ⟨n - kk - 1, by omega⟩
                  have hm2 : mm = n - (kk + 1) := by omega
                  have hE := E.out
                  rw [hm, goE_step, List.drop_drop] at hE
                  have hdl : (y.drop at_).length = L' := by rw [List.length_drop]; exact LY.out.2.symm
                  have hyb := HYL.out
                  have ht := one_any A' c' L' (y.drop at_) p wr hdl (RO.out wr (HX.out.below BW.out)) hlc' (by have := LY.out.2; omega) (by omega) PO.out
                  have hfo := @enAt_form p (y.drop at_)
                  generalize enAt p (y.drop at_) = XX at ht hE hfo
                  obtain ⟨x, q, er⟩ := XX
                  obtain ⟨P0, P1, P2, P3⟩ := H8.out.cells
                  obtain ⟨p1, p2, p3, p4⟩ := p
                  unfold aggEn boxEn OneRes at ht
                  simp only at P0 P1 P2 P3 ht hE hfo
                  have HT := Lib.hid ht; have HFO := Lib.hid hfo; have HE := Lib.hid hE; have HM2 := Lib.hid hm2; have HDL := Lib.hid hdl
                  clear ht hfo hE hm2 hm hdl
                  go_wp2_with fail
                  refine HT.out.mono ?_
                  rintro e w4 ⟨⟨x1, x2, x3, x4⟩, A2, L2, c2, rfl, hok, hbc⟩
                  unfold aggEn boxEn
                  simp only
                  have HP4 := Lib.hid ((hbc.block _ (blk_lt H8.out)).trans H8.out)
                  have H74 := Lib.hid ((hbc.block _ (blk_lt H7.out)).trans H7.out)
                  have H24 := Lib.hid ((hbc.block _ (blk_lt HZ.out)).trans HZ.out)
                  have HO4 := Lib.hid (own_moved OW.out (w' := w4) (fun g hg => hbc.block g (OW.out.lt g hg).2))
                  have HB4 := Lib.hid (BW.out.trans (hbc.mono BW.out.size))
                  clear P0 P1 P2 P3 hbc
                  by_cases he : er = 0
                  · subst he
                    obtain ⟨hX, hL2, hro2, hl2, hc2⟩ := hok rfl
                    subst hX
                    have hE := HE.out
                    rw [if_neg (by simp)] at hE
                    obtain ⟨-, hql, hgood⟩ := HFO.out rfl
                    have hq2 := LY.out
                    have hdl := HDL.out
                    have HLY2 := Lib.hid (show at_ + q ≤ y.length ∧ L2 = y.length - (at_ + q) from ⟨by omega, by omega⟩)
                    have HRO2 := Lib.hid (show ∀ W, Rd W (some ⟨b0, off, none⟩) ((k :: b).map Bv) → Rd W A2 ((y.drop (at_ + q)).map Bv) from fun W h => by
                      have h := hro2 W (RO.out W h)
                      rw [List.drop_drop] at h
                      exact h)
                    have HGO := Lib.hid hgood; have HLN := Lib.hid hac
                    have HE2 := Lib.hid hE
                    have hc2' : c2 ≤ c := by omega
                    clear hro2 hL2 hql hq2 hdl hgood hE HE HFO hok
                    go_wp2_with (first
                      | (refine wpList_store_agg (o := ⟨none, _, _, _, _, _⟩) ?_ 47 (.tmp 8) (.tmp 63) ?_ g8 0 [.int .u32 (x1 : Nat), .int .i64 x2, .int .u64 (x3 : Nat), .int .u64 (x4 : Nat)] ?_ ?_ 47 _ HP4.out (by kernel_rfl) (by show 0 + 4 ≤ 4; decide) (by intro v hv; simp at hv; rcases hv with rfl | rfl | rfl | rfl <;> rfl) ?_; rfl; rfl; rfl; rfl; intro w9 hg9 hmv9 hs9; have h89 : EBox w9 g8 (x1, x2, x3, x4) := hg9; have h79 := keep_mv hmv9 H74.out hn78; have h29 := keep_mv hmv9 H24.out hn28; have ho9 := own_moved HO4.out (w' := w9) (fun g hg => hmv9.block g (HO4.out.lt g hg).2 (fun e => NB.out (by rw [← e]; exact hg))); have hb9 := HB4.out.trans (hmv9.belowB HB4.out.size (fun i hi e => by omega)); obtain ⟨Z0, Z1, Z2, Z3⟩ := h89.cells; simp only at Z0 Z1 Z2 Z3; have c73 := cell_blk h79 3; simp only [List.getElem?_toArray, List.getElem?_cons_zero, List.getElem?_cons_succ] at c73; have HOW := Lib.hid (ho9.alloc (.cells #[.int .u32 (x1 : Nat), .int .i64 x2, .int .u64 (x3 : Nat), .int .u64 (x4 : Nat)] 47)); have H8W := Lib.hid (h89.alloc (.cells #[.int .u32 (x1 : Nat), .int .i64 x2, .int .u64 (x3 : Nat), .int .u64 (x4 : Nat)] 47)); have H7W := Lib.hid ((Below.heap_alloc w9 (.cells #[.int .u32 (x1 : Nat), .int .i64 x2, .int .u64 (x3 : Nat), .int .u64 (x4 : Nat)] 47) _ (blk_lt h79)).trans h79); have H2W := Lib.hid ((Below.heap_alloc w9 (.cells #[.int .u32 (x1 : Nat), .int .i64 x2, .int .u64 (x3 : Nat), .int .u64 (x4 : Nat)] 47) _ (blk_lt h29)).trans h29); have HBW2 := Lib.hid (hb9.alloc hb9.size (.cells #[.int .u32 (x1 : Nat), .int .i64 x2, .int .u64 (x3 : Nat), .int .u64 (x4 : Nat)] 47)); have HRX := Lib.hid (EBox.rd (EBox.new w9 (x1, x2, x3, x4))); clear h89 h79 h29 ho9 hb9 hg9 hmv9 hs9)
                      | (at_builtin; go_must (refine wpList_append_oneT rfl _ _ rfl w.heap.size _ acc kk HLN.out rfl HOW.out ⟨w9.heap.size, 0, none⟩ (x1, x2, x3, x4) rfl HRX.out (by have := HLN.out; omega) HBW2.out.size ?_; intro A5 c5 w5 own5 grow5 hat5; have h75 := keptT HOW.out grow5 H7W.out (by decide); have h25 := keptT HOW.out grow5 H2W.out (by decide); have h85 : EBox w5 g8 (x1, x2, x3, x4) := (grow5.block g8 (blk_lt H8W.out) (fun e => NB.out e.symm)).trans H8W.out; have z3 := cell_blk h75 3; have zf3 := free_blk h75 3; simp only [List.getElem?_toArray, List.getElem?_cons_zero, List.getElem?_cons_succ] at z3; have hb5 := HBW2.out.grown grow5 HBW2.out.size (fun k h => (HOW.out.lt k h).1); have hne5 : (Value.slice A5 (kk + 1) c5).ownBlock ≠ some g8 := fun e => hat5.elim (fun h => NB.out (h.symm.trans e)) (fun h => absurd (Option.some.inj (h.symm.trans e)) (by have := blk_lt H8W.out; omega)); have H75 := Lib.hid h75; have H25 := Lib.hid h25; have H85 := Lib.hid h85; have HB5 := Lib.hid hb5; have HO5 := Lib.hid own5; have HN5 := Lib.hid hne5; clear own5 grow5 hat5 h75 h25 h85 hb5 hne5))
                      | fail)
                    have hm7 : Mv (fun i => i = g7) w5 (w5.setCell ⟨g7, 3, none⟩ (.slice A5 (kk + 1) c5)) := Mv.setCell (S := fun i => i = g7) (Mv.refl _ w5) (p := ⟨g7, 3, none⟩) (fun _ => rfl) _
                    have h76 := set_blk H75.out 3 (.slice A5 (kk + 1) c5)
                    simp only [List.setIfInBounds_toArray, List.set_cons_succ, List.set_cons_zero] at h76
                    have h86 : EBox (w5.setCell ⟨g7, 3, none⟩ (.slice A5 (kk + 1) c5)) g8 (x1, x2, x3, x4) := keep_mv hm7 H85.out (Ne.symm hn78)
                    have h26 := keep_mv hm7 H25.out hn27
                    have ho6 := own_moved HO5.out (w' := w5.setCell ⟨g7, 3, none⟩ (.slice A5 (kk + 1) c5)) (fun g hg => hm7.block g (HO5.out.lt g hg).2 (fun e => own_blk HO5.out H75.out (by decide) (by rw [← e]; exact hg)))
                    have hb6 := HB5.out.trans (hm7.belowB HB5.out.size (fun i hi e => by omega))
                    have H76 := Lib.hid h76; have H86 := Lib.hid h86; have H26 := Lib.hid h26; have HO6 := Lib.hid ho6; have HB6 := Lib.hid hb6
                    have HE3 := Lib.hid (show T = goE (acc ++ [(x1, x2, x3, x4)]) (n - (kk + 1)) (x1, x2, x3, x4) (at_ + q) (y.drop (at_ + q)) by rw [← HM2.out]; exact HE2.out)
                    clear hm7 h76 h86 h26 ho6 hb6
                    go_wp2
                    go_roundw
                    case rel => exact ⟨kk + 1, at_ + q, (x1, x2, x3, x4), acc ++ [(x1, x2, x3, x4)], A2, L2, c2, A5, c5, rfl, by go_num, by omega, by rw [List.length_append, hac]; rfl, hl2, hc2', (show Aside _ from HLY2.out), (show Aside _ from HRO2.out), (show Aside _ from HGO.out.1), (show Aside _ from H86.out), (show Aside _ from H76.out), (show Aside _ from H26.out), (show Aside _ from HO6.out), (show Aside _ from HN5.out), (show Aside _ from HB6.out), (show Aside _ from HE3.out)⟩
                    case measure => simp [intOf]; omega
                  · have hE := HE.out
                    rw [if_pos he] at hE
                    subst hE
                    have hR := HRT.out
                    simp only at hR
                    rw [if_pos he] at hR
                    have g0 : ((er : Int) != 0) = true := by rw [bne_iff_ne]; omega
                    have HR := Lib.hid hR
                    clear hR HE HFO hok
                    go_wp2_with (first
                      | (refine wpList_store_agg (o := ⟨none, _, _, _, _, _⟩) ?_ 47 (.tmp 8) (.tmp 63) ?_ g8 0 [.int .u32 (x1 : Nat), .int .i64 x2, .int .u64 (x3 : Nat), .int .u64 (x4 : Nat)] ?_ ?_ 47 _ HP4.out (by kernel_rfl) (by show 0 + 4 ≤ 4; decide) (by intro v hv; simp at hv; rcases hv with rfl | rfl | rfl | rfl <;> rfl) ?_; rfl; rfl; rfl; rfl; intro w8 hg8 hmv8 hs8; have h28 := keep_mv hmv8 H24.out hn28; have hb8 := HB4.out.trans (hmv8.belowB HB4.out.size (fun i hi e => by omega)); have H28 := Lib.hid h28; have HB8 := Lib.hid hb8; clear h28 hb8 hg8 hmv8 hs8)
                      | (refine wpList_store_agg (o := ⟨none, _, _, _, _, _⟩) ?_ 27 (.tmp 2) (.tmp 68) ?_ b2 0 [.int .i64 0, .int .u32 0, .slice none 0 0, .slice none 0 0] ?_ ?_ 27 _ H28.out (by kernel_rfl) (by show 0 + 4 ≤ 4; decide) (by intro v hv; simp at hv; rcases hv with rfl | rfl | rfl | rfl <;> rfl) ?_; rfl; rfl; rfl; rfl; intro w9 hg9 hmv9 hs9)
                      | fail)
                    refine post_rv2 (by rfl) b2 (rvC ⟨0, 0, none, 0, [], none, 0, []⟩) (by rfl) hg9 (by rfl) (by rfl) ?_
                    exact ⟨⟨0, 0, none, 0, [], none, 0, []⟩, by rw [HR.out]; rfl, by rw [HR.out]; rfl, ⟨Rd.nil _ _, Rd.nil _ _⟩, HB8.out.trans (hmv9.belowB HB8.out.size (fun i hi e => by have := H2B.out; omega))⟩
                · obtain rfl : kk = n := by omega
                  have hE := E.out
                  rw [Nat.sub_self, goE_zero] at hE
                  subst hE
                  have hR := HRT.out
                  simp only at hR
                  rw [if_neg (by simp)] at hR
                  have hly := LY.out
                  have hyb := HYL.out
                  by_cases hs : m + at_ < b.length
                  · rw [if_pos hs] at hR
                    have g5 : (0 : Int) < (L' : Int) := by omega
                    have HR := Lib.hid hR
                    clear hR hly hyb
                    go_wp2_with (first
                      | (refine wpList_store_agg (o := ⟨none, _, _, _, _, _⟩) ?_ 27 (.tmp 2) (.tmp 80) ?_ b2 0 [.int .i64 0, .int .u32 0, .slice none 0 0, .slice none 0 0] ?_ ?_ 27 _ HZ.out (by kernel_rfl) (by show 0 + 4 ≤ 4; decide) (by intro v hv; simp at hv; rcases hv with rfl | rfl | rfl | rfl <;> rfl) ?_; rfl; rfl; rfl; rfl; intro w9 hg9 hmv9 hs9)
                      | fail)
                    refine post_rv2 (by rfl) b2 (rvC ⟨0, 0, none, 0, [], none, 0, []⟩) (by rfl) hg9 (by rfl) (by rfl) ?_
                    exact ⟨⟨0, 0, none, 0, [], none, 0, []⟩, by rw [HR.out]; rfl, by rw [HR.out]; rfl, ⟨Rd.nil _ _, Rd.nil _ _⟩, BW.out.trans (hmv9.belowB BW.out.size (fun i hi e => by have := H2B.out; omega))⟩
                  · rw [if_neg hs] at hR
                    have g5 : ¬ (0 : Int) < (L' : Int) := by omega
                    have HR := Lib.hid hR
                    clear hR hly hyb
                    have c70 := cell_blk H7.out 0; have c71 := cell_blk H7.out 1; have c72 := cell_blk H7.out 2; have c73 := cell_blk H7.out 3
                    simp only [List.getElem?_toArray, List.getElem?_cons_zero, List.getElem?_cons_succ] at c70 c71 c72 c73
                    have hrd9 := own_rdT OW.out hac
                    have HR9 := Lib.hid (show RvIs wr ⟨2, 0, none, 0, [], Av, cv, acc⟩ from ⟨Rd.nil _ _, hrd9⟩)
                    clear hrd9
                    go_wp2_with (first
                      | (refine wpList_store_agg (o := ⟨none, _, _, _, _, _⟩) ?_ 27 (.tmp 2) (.tmp 81) ?_ b2 0 [.int .i64 2, .int .u32 0, .slice none 0 0, .slice Av kk cv] ?_ ?_ 27 _ HZ.out (by kernel_rfl) (by show 0 + 4 ≤ 4; decide) (by intro v hv; simp at hv; rcases hv with rfl | rfl | rfl | rfl <;> rfl) ?_; rfl; rfl; rfl; rfl; intro w9 hg9 hmv9 hs9)
                      | fail)
                    subst hac
                    refine post_rv2 (by rfl) b2 (rvC ⟨2, 0, none, 0, [], Av, cv, acc⟩) (by rfl) hg9 (by rfl) (by rfl) ?_
                    exact ⟨⟨2, 0, none, 0, [], Av, cv, acc⟩, by rw [HR.out]; rfl, by rw [HR.out]; rfl, HR9.out.mv (y := ⟨0, 0, none, 0, [], none, 0, []⟩) hmv9 HZ.out, BW.out.trans (hmv9.belowB BW.out.size (fun i hi e => by have := H2B.out; omega))⟩
        · rw [if_pos he] at hR
          have g3 : ((er : Int) != 0) = true := by rw [bne_iff_ne]; omega
          have HR := Lib.hid hR
          clear hR
          go_wp2_with (first
            | (refine wpList_store_agg (o := ⟨none, _, _, _, _, _⟩) ?_ 27 (.tmp 2) (.tmp 40) ?_ b2 0 [.int .i64 0, .int .u32 0, .slice none 0 0, .slice none 0 0] ?_ ?_ 27 _ H2.out (by kernel_rfl) (by show 0 + 4 ≤ 4; decide) (by intro v hv; simp at hv; rcases hv with rfl | rfl | rfl | rfl <;> rfl) ?_; rfl; rfl; rfl; rfl; intro w9 hg9 hmv9 hs9)
            | fail)
          refine post_rv2 (by rfl) b2 (rvC ⟨0, 0, none, 0, [], none, 0, []⟩) (by rfl) hg9 (by rfl) (by rfl) ?_
          exact ⟨⟨0, 0, none, 0, [], none, 0, []⟩, by rw [HR.out]; rfl, by rw [HR.out]; rfl, ⟨Rd.nil _ _, Rd.nil _ _⟩, HBE.out.trans (hmv9.belowB HBE.out.size (fun i hi e => by have := H2B.out; omega))⟩
      · rw [if_neg k2] at hR
        have g2 : ((kn : Int) != 2) = true := by rw [bne_iff_ne]; omega
        have HR := Lib.hid hR
        clear hR
        go_enter Tryd.func22, Tryd.ntmps22
        have HBR := Lib.hid (show RowKit.Below w.heap.size w (w.alloc (.cells #[.int .i64 0, .int .u32 0, .slice none 0 0, .slice none 0 0] 27)) from by rw [← HW1.out]; exact HBE.out)
        go_wp2_with (first
          | (refine wpList_store_agg (o := ⟨none, _, _, _, _, _⟩) ?_ 27 (.tmp 2) (.tmp 29) ?_ w.heap.size 0 [.int .i64 0, .int .u32 0, .slice none 0 0, .slice none 0 0] ?_ ?_ 27 _ (by have h := H2.out; rw [HB2.out, HW1.out] at h; exact h) (by kernel_rfl) (by show 0 + 4 ≤ 4; decide) (by intro v hv; simp at hv; rcases hv with rfl | rfl | rfl | rfl <;> rfl) ?_; rfl; rfl; rfl; rfl; intro w9 hg9 hmv9 hs9)
          | fail)
        refine post_rv2 (by rfl) w.heap.size (rvC ⟨0, 0, none, 0, [], none, 0, []⟩) (by rfl) hg9 (by rfl) (by rfl) ?_
        exact ⟨⟨0, 0, none, 0, [], none, 0, []⟩, by rw [HR.out]; rfl, by rw [HR.out]; rfl, ⟨Rd.nil _ _, Rd.nil _ _⟩, HBR.out.trans (hmv9.belowB HBR.out.size (fun i hi e => by omega))⟩
end
end
section
open Go.RowKit
set_option maxHeartbeats 1600000
set_option maxRecDepth 100000
theorem rsame13_any (x y : Rv) (w : World) (hx : RvIs w x) (hy : RvIs w y) (hl1 : x.ls.length ≤ 1000000) (hl2 : x.ps.length ≤ 1000000) (hm1 : y.ls.length ≤ 1000000) (hm2 : y.ps.length ≤ 1000000) :
    Calls Tryd.prog 23 #[.agg (rvC x), .agg (rvC y)] w fun e w' => e = .returned (.bool (sameR x.p y.p)) ∧ Below w.heap.size w w' := by
  have hb := ((RowKit.Below.refl w.heap.size w).alloc (Nat.le_refl _) (.cells (rvC x) 27)).alloc (by simp) (.cells (rvC y) 27)
  have h1 := fun W (hb : Below w.heap.size w W) => rsame_any x.A y.A x.ca y.ca x.ls y.ls W (hx.la.below hb) (hy.la.below hb) hl1 hm1
  have hbx : ((w.alloc (.cells (rvC x) 27)).alloc (.cells (rvC y) 27)).heap[w.heap.size]? = some (.cells (rvC x) 27 (0, 0)) := (Below.heap_alloc _ _ _ (by simp)).trans (heap_alloc_new w _)
  have hby : ((w.alloc (.cells (rvC x) 27)).alloc (.cells (rvC y) 27)).heap[w.heap.size + 1]? = some (.cells (rvC y) 27 (0, 0)) := heap_alloc_new2 w _ _
  obtain ⟨R, hR⟩ : ∃ R, R = sameR x.p y.p := ⟨_, rfl⟩
  rw [← hR]
  have hR2 : R = (decide (x.kd = y.kd) && (decide (x.r = y.r) && (decide (x.ls = y.ls) && decide (x.ps = y.ps)))) := hR
  have hxb := hx.lb; have hyb := hy.lb
  have HB := Lib.hid hb; have H1 := Lib.hid h1; have HXB := Lib.hid hxb; have HYB := Lib.hid hyb; have HBX := Lib.hid hbx; have HBY := Lib.hid hby
  clear hb h1 hx hy hR hl1 hm1 hxb hyb hbx hby
  obtain ⟨kd, r, A, ca, ls, B, cb, ps⟩ := x
  obtain ⟨kd', r', A', ca', ls', B', cb', ps'⟩ := y
  unfold rvC at *
  simp only at *
  by_cases g1 : kd = kd'
  · subst g1
    rw [decide_eq_true rfl, Bool.true_and] at hR2
    have g1' : (kd != kd) = false := by simp
    by_cases g2 : r = r'
    · subst g2
      rw [decide_eq_true rfl, Bool.true_and] at hR2
      have g2' : ((r : Int) != (r : Int)) = false := by simp
      generalize decide (ls = ls') = q at H1 hR2
      cases q with
      | true =>
        rw [Bool.true_and] at hR2
        by_cases hlen : ps.length = ps'.length
        · have g0 : ((ps.length : Int) != (ps'.length : Int)) = false := by rw [hlen]; simp
          have HLEN := Lib.hid hlen
          have HR := Lib.hid hR2
          clear hR2 hlen
          go_enter Tryd.func23, Tryd.ntmps23
          go_wp2_with fail
          refine (H1.out _ HB.out).mono ?_
          rintro e w1 ⟨rfl, n0, hw1⟩
          have HB1 := Lib.hid (show Below w.heap.size w w1 by rw [hw1]; exact below_drewN HB.out n0)
          have hbx1 : w1.heap[w.heap.size]? = some (.cells #[.int .i64 kd, .int .u32 (r : Nat), .slice A ls.length ca, .slice B ps.length cb] 27 (0, 0)) := by rw [hw1]; exact HBX.out
          have hby1 : w1.heap[w.heap.size + 1]? = some (.cells #[.int .i64 kd, .int .u32 (r : Nat), .slice A' ls'.length ca', .slice B' ps'.length cb'] 27 (0, 0)) := by rw [hw1]; exact HBY.out
          have p2 := cell_blk hbx1 2; have p3 := cell_blk hbx1 3
          have q2 := cell_blk hby1 2; have q3 := cell_blk hby1 3
          simp only [List.getElem?_toArray, List.getElem?_cons_zero, List.getElem?_cons_succ] at p2 p3 q2 q3
          have HP1 := Lib.hid hbx1; have HQ1 := Lib.hid hby1
          clear hbx1 hby1 hw1
          go_wp2
          clear p2 p3 q2 q3
          go_loopw [38] (fun s38 wr => ∃ k n : Nat, s38 = .int .i64 k ∧ k ≤ ps.length ∧ wr = w1.drewN n ∧ Aside (ps.take k = ps'.take k)) (fun s38 _ => ps.length - (intOf s38).toNat)
          case atStart => exact ⟨0, 0, rfl, by omega, rfl, rfl⟩
          case round =>
            obtain ⟨k, n, rfl, hk, rfl, E⟩ := hrel
            have k0 : (0 : Int) ≤ (k : Int) := by omega
            have HBn := Lib.hid (below_drewN HB1.out n)
            by_cases hlt : k < ps.length
            · have hlt2 : k < ps'.length := by have := HLEN.out; omega
              have k1 : (k : Int) < (ps.length : Int) := by omega
              have k2 : (k : Int) < (ps'.length : Int) := by omega
              have hnn : ∀ q, (w1.drewN n).drewN q = w1.drewN (n + q) := fun q => World.drewN_drewN _ _ _
              obtain ⟨b, off, rfl, c0, c1, c2, c3⟩ := en_at (HXB.out.below HBn.out) (List.getElem?_eq_getElem hlt)
              obtain ⟨b', off', rfl, d0, d1, d2, d3⟩ := en_at (HYB.out.below HBn.out) (List.getElem?_eq_getElem hlt2)
              have p3 : (w1.drewN n).cell? ⟨w.heap.size, 3, none⟩ = some (.slice (some ⟨b, off, none⟩) ps.length cb) := cell_blk (w := w1.drewN n) HP1.out 3
              have q3 : (w1.drewN n).cell? ⟨w.heap.size + 1, 3, none⟩ = some (.slice (some ⟨b', off', none⟩) ps'.length cb') := cell_blk (w := w1.drewN n) HQ1.out 3
              have HNN := Lib.hid hnn; clear hnn
              generalize hW : w1.drewN n = W at c0 c1 c2 c3 d0 d1 d2 d3 p3 q3 HNN HBn
              have HW := Lib.hid hW; clear hW
              have hneq := fun u => neqEn ps[k] ps'[k] u
              have hgd := fun op a b u => guardEn op a b ps[k] ps'[k] u
              have hfin : R = true → ps[k] = ps'[k] := fun h => by
                have := HR.out; rw [h] at this; have := of_decide_eq_true this.symm; subst this; rfl
              have hstep : ps[k] = ps'[k] → ps.take (k + 1) = ps'.take (k + 1) := fun h => by
                rw [List.take_succ_eq_append_getElem hlt, List.take_succ_eq_append_getElem hlt2, E.out, h]
              have HF := Lib.hid hfin; clear hfin
              have HS := Lib.hid hstep; clear hstep
              generalize ps[k] = x at c0 c1 c2 c3 hneq hgd HF HS
              generalize ps'[k] = y at d0 d1 d2 d3 hneq hgd HF HS
              by_cases he : x = y
              · simp only [he, decide_true, Bool.not_true] at hneq
                have HST := Lib.hid (HS.out he)
                subst he
                obtain ⟨x1, x2, x3, x4⟩ := x
                unfold aggEn boxEn at hneq hgd
                simp only at c0 c1 c2 c3 d0 d1 d2 d3 hneq hgd
                clear HF HS
                go_wp2_with fail
                go_quiet (fail)
                go_wp2
                go_roundw
                case rel => exact ⟨k + 1, n + nq, by go_num, by omega, by rw [HNN.out], (show Aside _ from HST.out)⟩
                case measure => simp [intOf]; omega
              · have hr : R = false := by cases hh : R with | false => rfl | true => exact absurd (HF.out hh) he
                subst hr
                simp only [he, decide_false, Bool.not_false] at hneq
                obtain ⟨x1, x2, x3, x4⟩ := x
                obtain ⟨y1, y2, y3, y4⟩ := y
                unfold aggEn boxEn at hneq hgd
                simp only at c0 c1 c2 c3 d0 d1 d2 d3 hneq hgd
                clear HF HS he
                go_wp2_with fail
                go_quiet (fail)
                go_wp2
                go_ret
                exact ⟨rfl, below_drewN HBn.out nq⟩
            · obtain rfl : k = ps.length := by omega
              have hr : R = true := by
                rw [HR.out]
                have := E.out
                rw [List.take_of_length_le (Nat.le_refl _), HLEN.out, List.take_of_length_le (Nat.le_refl _)] at this
                exact decide_eq_true this
              subst hr
              go_wp2
              go_ret
              exact ⟨rfl, HBn.out⟩
        · have hr : R = false := by rw [hR2]; exact decide_eq_false (fun e => hlen (by rw [e]))
          subst hr
          have g0 : ((ps.length : Int) != (ps'.length : Int)) = true := by rw [bne_iff_ne]; omega
          clear hR2 hlen
          go_enter Tryd.func23, Tryd.ntmps23
          go_wp2_with fail
          refine (H1.out _ HB.out).mono ?_
          rintro e w1 ⟨rfl, n0, hw1⟩
          have HB1 := Lib.hid (show Below w.heap.size w w1 by rw [hw1]; exact below_drewN HB.out n0)
          have hbx1 : w1.heap[w.heap.size]? = some (.cells #[.int .i64 kd, .int .u32 (r : Nat), .slice A ls.length ca, .slice B ps.length cb] 27 (0, 0)) := by rw [hw1]; exact HBX.out
          have hby1 : w1.heap[w.heap.size + 1]? = some (.cells #[.int .i64 kd, .int .u32 (r : Nat), .slice A' ls'.length ca', .slice B' ps'.length cb'] 27 (0, 0)) := by rw [hw1]; exact HBY.out
          have p3 := cell_blk hbx1 3
          have q3 := cell_blk hby1 3
          simp only [List.getElem?_toArray, List.getElem?_cons_zero, List.getElem?_cons_succ] at p3 q3
          clear hbx1 hby1 hw1
          go_wp2
          go_ret
          exact ⟨rfl, HB1.out⟩
      | false =>
        rw [Bool.false_and] at hR2
        subst hR2
        go_enter Tryd.func23, Tryd.ntmps23
        go_wp2_with fail
        refine (H1.out _ HB.out).mono ?_
        rintro e w1 ⟨rfl, n, rfl⟩
        have HB1 := Lib.hid (below_drewN HB.out n)
        go_wp2
        go_ret
        exact ⟨rfl, HB1.out⟩
    · rw [decide_eq_false g2, Bool.false_and] at hR2
      subst hR2
      have g3 : ((r : Int) != (r' : Int)) = true := by rw [bne_iff_ne]; omega
      clear g2
      go_enter Tryd.func23, Tryd.ntmps23
      go_wp2
      go_ret
      exact ⟨rfl, HB.out⟩
  · rw [decide_eq_false g1, Bool.false_and] at hR2
    subst hR2
    have g3 : (kd != kd') = true := by rw [bne_iff_ne]; omega
    clear g1
    go_enter Tryd.func23, Tryd.ntmps23
    go_wp2
    go_ret
    exact ⟨rfl, HB.out⟩
end
open Go.ChangeShapes Go.WideShapes Go.ChangeAt Go.RowKit
theorem takeR_none {b : Bs} (h : (takeR b).2 ≠ 0) : (takeR b).1 = rp0 := by
  cases b with
  | nil => rfl
  | cons k b =>
    unfold takeR at h ⊢
    simp only at h ⊢
    unfold serR ptsR at h ⊢
    split at h
    · rename_i h1
      rw [if_pos h1]
      split at h
      · rename_i h2; rw [if_pos h2]
      · rename_i h2
        rw [if_neg h2]
        split at h
        · rename_i h3; rw [if_pos h3]
        · rename_i h3
          rw [if_neg h3]
          split at h
          · rename_i h4; rw [if_pos h4]
          · rename_i h4
            rw [if_neg h4]
            split at h
            · rename_i h5; rw [if_pos h5]
            · exact absurd rfl h
    · rename_i h1
      rw [if_neg h1]
      split at h
      · rename_i h1'
        rw [if_pos h1']
        split at h
        · rename_i h2; rw [if_pos h2]
        · rename_i h2
          rw [if_neg h2]
          split at h
          · rename_i h3; rw [if_pos h3]
          · rename_i h3
            rw [if_neg h3]
            split at h
            · rename_i h4; rw [if_pos h4]
            · rename_i h4
              rw [if_neg h4]
              split at h
              · rename_i h5; rw [if_pos h5]
              · rename_i h5
                rw [if_neg h5]
                split at h
                · rename_i h6; rw [if_pos h6]
                · exact absurd rfl h
      · rename_i h1'
        rw [if_neg h1']
theorem takeR_small (b : Bs) : (takeR b).1.2.2.1.length ≤ 1000000 ∧ (takeR b).1.2.2.2.length ≤ 1000000 := by
  by_cases h : (takeR b).2 = 0
  · obtain ⟨h1, -⟩ := takeR_form h
    have hc : checkR (takeR b).1 = 0 := by
      unfold putR at h1
      by_cases hh : checkR (takeR b).1 ≠ 0
      · rw [if_pos hh] at h1; exact (Prod.mk.inj h1).1
      · omega
    obtain ⟨⟨h2, -⟩, h3⟩ := check_few hc
    exact ⟨by omega, by omega⟩
  · rw [takeR_none h]
    exact ⟨by decide, by decide⟩
section
set_option maxHeartbeats 3200000
set_option maxRecDepth 100000
theorem rtakes_walk (B : Option Addr) (cb : Nat) (xs : Bs) (w : World) (hT : Tabs w) (hbx : Rd w B (xs.map Bv)) (hcb : xs.length ≤ cb) (hcm : cb ≤ maxLen) :
    Calls Tryd.prog 4 #[.slice B xs.length cb] w fun e w' => e = .returned (.bool true) ∧ Below w.heap.size w w' := by
  have hmx : maxLen ≤ 9223372036854775807 := by unfold maxLen; omega
  have hlive := fun W (hb : Below w.heap.size w W) => liveJ_any W (hT.below hb)
  have htk := fun W (hb : Below w.heap.size w W) (hl : xs.length ≤ 1000000) => take13_any B cb xs.length xs W (hT.below hb) rfl (hbx.below hb) hcb hl (Nat.le_trans hcm hmx)
  have hrt := fun W (hb : Below w.heap.size w W) (hl : xs.length ≤ 1000000) => rtake13_any B cb xs.length xs W rfl (hbx.below hb) hcb hl (Nat.le_trans hcm hmx)
  have HL := Lib.hid hlive; have HTK := Lib.hid htk; have HRT := Lib.hid hrt; have HB := Lib.hid (RowKit.Below.refl w.heap.size w)
  clear hlive htk hrt hT hbx hmx
  go_enter Tryd.func4, Tryd.ntmps4
  go_wp2_with fail
  refine (HL.out _ HB.out).mono ?_
  rintro e w1 ⟨rfl, hb⟩
  have HB := Lib.hid (HB.out.trans (hb.mono HB.out.size))
  clear hb
  by_cases h6 : xs.length ≤ 6000
  · have h6' : ¬ (6000 : Int) < (xs.length : Int) := by omega
    have htk := HTK.out w1 HB.out (by omega)
    have hrt := fun W hb => HRT.out W hb (by omega)
    have hsm := takeR_small xs
    generalize takeR xs = R at htk hrt hsm
    obtain ⟨rp, er⟩ := R
    unfold TakeRes at htk hrt
    simp only at htk hrt hsm
    have HTK2 := Lib.hid htk; have HRT2 := Lib.hid hrt
    clear htk hrt HTK HRT
    go_wp2_with fail
    refine HTK2.out.mono ?_
    rintro e w2 ⟨⟨kd, r, A, ca, ls, Bp, cp, ps⟩, rfl, hxp, hxi, hb⟩
    unfold rvC
    simp only
    have hl1 : ls.length ≤ 1000000 := by have := congrArg (fun z : Rp => z.2.2.1.length) hxp; simp only [Rv.p] at this; omega
    have hl2 : ps.length ≤ 1000000 := by have := congrArg (fun z : Rp => z.2.2.2.length) hxp; simp only [Rv.p] at this; omega
    obtain ⟨w3, hw3⟩ : ∃ w', w' = w2.alloc (.cells #[.int .i64 kd, .int .u32 (r : Nat), .slice A ls.length ca, .slice Bp ps.length cp] 27) := ⟨_, rfl⟩
    obtain ⟨g3, hg3⟩ : ∃ g, g = w2.heap.size := ⟨_, rfl⟩
    have hb3 : Below w2.heap.size w2 w3 := by rw [hw3]; exact (RowKit.Below.refl _ w2).alloc (Nat.le_refl _) _
    have h33 : w3.heap[g3]? = some (.cells (rvC ⟨kd, r, A, ca, ls, Bp, cp, ps⟩) 27 (0, 0)) := by rw [hw3, hg3]; exact heap_alloc_new w2 _
    have HB3 := Lib.hid ((HB.out.trans (hb.mono HB.out.size)).trans (hb3.mono (HB.out.trans (hb.mono HB.out.size)).size))
    have HXI := Lib.hid (hxi.below hb3); have H33 := Lib.hid h33; have HXP := Lib.hid hxp
    have HRT3 := Lib.hid (HRT2.out w3 HB3.out)
    have HW3 := Lib.hid hw3; have HG3 := Lib.hid hg3
    clear hxi hb hb3 h33 hxp hw3 hg3
    go_wp2_with fail
    rw [← HG3.out, ← HW3.out]
    refine HRT3.out.mono ?_
    rintro e w4 ⟨⟨kd', r', A', ca', ls', Bp', cp', ps'⟩, rfl, hyp, hyi, hb⟩
    have hm1 : ls'.length ≤ 1000000 := by have := congrArg (fun z : Rp => z.2.2.1.length) hyp; simp only [Rv.p] at this; omega
    have hm2 : ps'.length ≤ 1000000 := by have := congrArg (fun z : Rp => z.2.2.2.length) hyp; simp only [Rv.p] at this; omega
    have h43 := (hb.block _ (blk_lt H33.out)).trans H33.out
    have hb5 := (RowKit.Below.refl w4.heap.size w4).alloc (Nat.le_refl _) (.cells (rvC ⟨kd', r', A', ca', ls', Bp', cp', ps'⟩) 27)
    have h53 := (hb5.block _ (blk_lt h43)).trans h43
    have h55 := heap_alloc_new w4 (.cells (rvC ⟨kd', r', A', ca', ls', Bp', cp', ps'⟩) 27)
    have hsm2 := rsame13_any ⟨kd, r, A, ca, ls, Bp, cp, ps⟩ ⟨kd', r', A', ca', ls', Bp', cp', ps'⟩ (w4.alloc (.cells (rvC ⟨kd', r', A', ca', ls', Bp', cp', ps'⟩) 27)) ((HXI.out.below hb).below hb5) (hyi.below hb5) hl1 hl2 hm1 hm2
    rw [(same_iff _ _).2 (HXP.out.trans hyp.symm)] at hsm2
    have HB5 := Lib.hid ((HB3.out.trans (hb.mono HB3.out.size)).trans (hb5.mono (HB3.out.trans (hb.mono HB3.out.size)).size))
    unfold rvC at hsm2 h53 h55 HB5 ⊢
    simp only at hsm2 h53 h55 HB5 ⊢
    have a0 := cell_blk h53 0; have a1 := cell_blk h53 1; have a2 := cell_blk h53 2; have a3 := cell_blk h53 3
    have d0 := cell_blk h55 0; have d1 := cell_blk h55 1; have d2 := cell_blk h55 2; have d3 := cell_blk h55 3
    simp only [List.getElem?_toArray, List.getElem?_cons_zero, List.getElem?_cons_succ] at a0 a1 a2 a3 d0 d1 d2 d3
    have HSM := Lib.hid hsm2
    clear hyi hb h43 hb5 h53 h55 hsm2 hyp
    go_wp2_with fail
    refine HSM.out.mono ?_
    rintro e w6 ⟨rfl, hb⟩
    have HB6 := Lib.hid (HB5.out.trans (hb.mono HB5.out.size))
    clear hb a0 a1 a2 a3 d0 d1 d2 d3
    go_wp2
    go_ret
    exact ⟨by simp, HB6.out⟩
  · have h6' : (6000 : Int) < (xs.length : Int) := by omega
    go_wp2_with fail
    refine (HL.out _ HB.out).mono ?_
    rintro e w3 ⟨rfl, hb⟩
    have HB := Lib.hid (HB.out.trans (hb.mono HB.out.size))
    go_wp2
    go_ret
    exact ⟨rfl, HB.out⟩
end

set_option maxRecDepth 100000 in
theorem recordTakes_contract (H : Type) (enc : TypeId × Value → H) (W : World) (base : Nat) (args : Array Value) (ds gs : List (DataW H)) (before : List MemPlace)
    (hval : ∀ (j : Nat) t v, Tryd.f4.params[j]? = some t → args[j]? = some v → Value.okWide Tryd.prog W .any base t v)
    (hW : DataW.Whole enc Tryd.prog Tryd.f4.params.toList Rows.recordTakesSpec.vars false W args.toList ds gs before) (hL : laidMetH Tryd.prog Rows.recordTakesRow.laid W) :
    Calls Tryd.prog 4 args W fun e W' => ∃ v, e = .returned v ∧ Rows.recordTakesSpec.post enc Tryd.prog Tryd.f4 false true false false W args v W' := by
  have hW' := hW
  obtain ⟨p, q, hA0, hV, rfl, hfz, hnd⟩ := hW
  have hA : DataW.TrodAll enc Tryd.prog W 0 (fun _ => true) true Tryd.f4.params.toList args.toList ds p := hA0
  rw [Tryd.params4] at hA hval
  obtain ⟨v0, vs0, d0, ds0, p0, q0, hargs, rfl, rfl, h0, r0⟩ := trodAll_cons hA
  obtain ⟨rfl, rfl, rfl⟩ := trodAll_nil r0
  obtain rfl : args = #[v0] := by cases args; simp_all
  obtain ⟨rfl, rfl⟩ := trodVars_none hV
  obtain ⟨A0, c0, xs0, rfl, hm0, hx0⟩ := open_bytes Tryd.underlying30 Tryd.underlying5 (by kernel_rfl) (hval 0 30 v0 rfl rfl) h0
  clear hA0 hA
  unfold maxLen at hm0
  refine (rtakes_walk A0 c0 xs0 W (tabs hL) hx0 hm0.1 hm0.2).mono fun e W' ⟨he, hg⟩ => ?_
  subst he
  exact ⟨_, rfl, law_end laidOut (by kernel_rfl) (by kernel_rfl) Tryd.underlying4 rfl hW' ⟨rfl, rfl, rfl⟩ hg⟩

theorem recordTakes_met (os : Os) : laidMet Tryd.prog Rows.recordTakesRow.laid ((laidWorld os).forCall (fun _ _ => 0) ⟨#[], #[.slice none 0 0], []⟩).memory :=
  laid_met os _
theorem recordTakes_reads (os : Os) {H : Type} (enc : TypeId × Value → H) : ∃ places, DataW.whole enc Tryd.prog ((laidWorld os).forCall (fun _ _ => 0) ⟨#[], #[.slice none 0 0], []⟩).memory Tryd.f4.params.toList Rows.recordTakesSpec.vars false (#[.slice none 0 0] : Array Value).toList 8 = some ([.nil], [], places) :=
  ⟨[], by kernel_rfl⟩

set_option maxRecDepth 100000 in
theorem recordTakes_lifted (os : Os) (started : os.Started) (H : Type) (enc : TypeId × Value → H) (F : Stop.Interp) :
    ReturnsInHanded {} Tryd.checked os 4 .any ((OpenSpec.ofChange Rows.recordTakesSpec).preRow enc Tryd.prog Tryd.f4 Rows.recordTakesRow.domain false Rows.recordTakesRow.laid) (((OpenSpec.ofChange Rows.recordTakesSpec).at F).post enc Tryd.prog Tryd.f4 false true false false) := by
  obtain ⟨places, hx⟩ := recordTakes_reads os enc
  refine returnsInHanded_of_row (C := Tryd.checked) (s := OpenSpec.ofChange Rows.recordTakesSpec) ownKn started (by kernel_rfl) Tryd.func4
    (witness_row_at (enc := enc) (C := Tryd.checked) false (laidWorld os) #[.slice none 0 0] rfl (by kernel_rfl) (by kernel_rfl) (by kernel_rfl)
      (OpenSpec.preRow_of_cond 8 hx (by kernel_rfl) (fun k hk => by cases hk) (by kernel_rfl) (recordTakes_met os))) ?_
  intro W base args ds gs before hval hW _ _ _ hL _ _
  exact recordTakes_contract H enc W base args ds gs before hval hW hL

theorem recordTakes_said : Rows.RecordTakesSaid :=
  OpenClaim.holds_of_cond 4 Tryd.f4 rfl rfl rfl rfl rfl rfl rfl ⟨rfl, rfl, rfl, rfl, rfl⟩ rfl rfl rfl rfl rfl (by kernel_rfl) Tryd.func4 (by kernel_rfl)
    (of_decide_eq_true (by kernel_rfl)) (by unfold Func.isWrapper; first | (rw [if_pos (by decide +kernel)]; kernel_rfl) | (rw [if_neg (by decide +kernel)]; exact ⟨rfl, rfl⟩))
    (fun os started H enc _ F => by rw [OpenClaim.pre_eq_preRow]; exact recordTakes_lifted os started H enc F)

theorem recordTakes_plain (f : FuncId) (fn : Func) (hf : Tryd.pinned.checked.prog.funcNamed "manometer/manometerlaw13.RecordTakes" = some f) (hfn : Tryd.pinned.checked.prog.funcs[f]? = some fn) :
    false = Tryd.pinned.checked.prog.looks [] ∧ ∀ (j : Nat) t, fn.params[j]? = some t → Tryd.pinned.checked.prog.wantsStandIn t = false := by
  obtain rfl : f = 4 := Option.some.inj ((show Tryd.prog.funcNamed "manometer/manometerlaw13.RecordTakes" = some 4 by kernel_rfl).symm.trans hf) |>.symm
  obtain rfl : fn = Tryd.f4 := (Option.some.inj (Tryd.func4.symm.trans hfn)).symm
  refine ⟨by kernel_rfl, fun j t ht => ?_⟩
  rw [Tryd.params4] at ht
  have hm : t = 30 := by simpa using Array.mem_of_getElem? ht
  rcases hm with rfl
  · exact (show Tryd.prog.wantsStandIn 30 = false by kernel_rfl)

theorem recordTakes_card : Rows.RecordTakesCardSaid :=
  Claim7.holds_tied_plain_at .later [] _ _ _ _ recordTakes_said (fun _ h => by cases h) (by kernel_rfl) (fun _ h => by cases h) recordTakes_row_tie rfl ⟨rfl, rfl⟩ (by kernel_rfl) rfl recordTakes_plain (by kernel_rfl)
#print axioms recordTakes_card
end Go.Proofs.YtgogpngobdafaaaDoor
