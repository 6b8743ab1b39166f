/-
  The document's table of distances. The document's Of, Behind, Script. DistTells' walk.
-/
import Derived.Test.YtbdbcfidbapioaaG11
set_option linter.unusedVariables false
set_option linter.unusedSimpArgs false
namespace Go.Proofs.Ytbdbcfidbapioaa
open Go.RowKit Go.Shelf Said

theorem iRowI : (Try.prog.info? 27).map (fun i => (i.zero, i.size, i.bytes)) = some (some (.slice none 0 0), 1, 24) := by kernel_rfl

/-- The distances of a's beginning of i bytes and all of b's. -/
def drow (a b : List UInt8) (i : Nat) : List Nat := (List.range (b.length + 1)).map fun k => dd a b i k
theorem drow_length (a b : List UInt8) (i : Nat) : (drow a b i).length = b.length + 1 := by simp [drow]
theorem drow_at (a b : List UInt8) (i k : Nat) (h : k ≤ b.length) : (drow a b i).getD k 0 = dd a b i k := by
  unfold drow
  rw [List.getD_eq_getElem?_getD, List.getElem?_map, List.getElem?_range (by omega)]
  rfl
def drowK (a b : List UInt8) (i k : Nat) : List Nat := (List.range (b.length + 1)).map fun t => if t < k then dd a b i t else 0
theorem drowK_length (a b : List UInt8) (i k : Nat) : (drowK a b i k).length = b.length + 1 := by simp [drowK]
theorem drowK_at (a b : List UInt8) (i k t : Nat) (h : t < k) (hk : t ≤ b.length) : (drowK a b i k).getD t 0 = dd a b i t := by
  unfold drowK
  rw [List.getD_eq_getElem?_getD, List.getElem?_map, List.getElem?_range (by omega)]
  simp [h]
theorem drowK_zero (a b : List UInt8) (i : Nat) : drowK a b i 0 = List.replicate (b.length + 1) 0 := by
  unfold drowK
  apply List.ext_getElem
  · simp
  · intro t h1 h2
    simp
theorem drowK_all (a b : List UInt8) (i : Nat) : drowK a b i (b.length + 1) = drow a b i := by
  unfold drowK drow
  apply List.map_congr_left
  intro t ht
  rw [if_pos (List.mem_range.1 ht)]
theorem drowK_set (a b : List UInt8) (i k : Nat) : (drowK a b i k).set k (dd a b i k) = drowK a b i (k + 1) := by
  unfold drowK
  apply List.ext_getElem
  · simp
  · intro t h1 h2
    simp only [List.length_set, List.length_map, List.length_range] at h1
    by_cases e : k = t
    · subst e
      simp
    · rw [List.getElem_set_ne e]
      simp only [List.getElem_map, List.getElem_range]
      by_cases h : t < k
      · rw [if_pos h, if_pos (by omega)]
      · rw [if_neg h, if_neg (by omega)]

/-- A row of numbers that is read; its block holds numbers. -/
def NRow (w : World) (base : Nat) (v : Value) (l : List Nat) : Prop :=
  ∃ (g c : Nat) (cur : Array Value), v = .slice (some ⟨g, 0, none⟩) l.length c ∧ base ≤ g ∧ w.heap[g]? = some (.cells cur 3 (0, 0)) ∧ ∀ i, i < l.length → cur[i]? = some (.int .i64 ((l.getD i 0 : Nat) : Int))
theorem NRow.same {w w' : World} {base : Nat} {v : Value} {l : List Nat} (h : NRow w base v l) (hb : ∀ g o, v.ownBlock = some g → w.heap[g]? = some o → w'.heap[g]? = some o) : NRow w' base v l := by
  obtain ⟨g, c, cur, rfl, hg, hh, hc⟩ := h
  exact ⟨g, c, cur, rfl, hg, hb g _ rfl hh, hc⟩
theorem NRow.below {w w' : World} {base : Nat} {v : Value} {l : List Nat} (h : NRow w base v l) (hb : Below w.heap.size w w') : NRow w' base v l :=
  h.same fun g o _ hh => (hb.block g (Array.getElem?_eq_some_iff.1 hh).1).trans hh
theorem NRow.mono {w : World} {base base' : Nat} {v : Value} {l : List Nat} (h : NRow w base v l) (hb : base' ≤ base) : NRow w base' v l := by
  obtain ⟨g, c, cur, rfl, hg, hh, hc⟩ := h
  exact ⟨g, c, cur, rfl, Nat.le_trans hb hg, hh, hc⟩
theorem nrow_of_owns {W : World} {base : Nat} {v : Value} {l : List Nat} (h : W.ownsRow base 3 1 v l.length (nats l)) (hl : 0 < l.length) : NRow W base v l := by
  rcases h.2 with ⟨_, h0⟩ | ⟨g, cap, cur, rfl, hb, hg, _, _, _, ht⟩
  · omega
  · refine ⟨g, cap, cur, rfl, hb, hg, fun i hi => ?_⟩
    have hx := nats_at hi
    rw [← ht, List.getElem?_take] at hx
    split at hx
    · rw [Array.getElem?_toList] at hx
      exact hx
    · cases hx

/-- The table in memory: its first rows. -/
structure TabN (a b : List UInt8) (base : Nat) (tv : Value) (k : Nat) (vs : List Value) (W : World) : Prop where
  own : W.ownsRow base 27 1 tv k vs
  row : ∀ j, j < k → ∃ v, vs[j]? = some v ∧ NRow W base v (drow a b j)
theorem TabN.below {a b : List UInt8} {base k : Nat} {tv : Value} {vs : List Value} {W W' : World} (h : TabN a b base tv k vs W) (hb : Below W.heap.size W W') : TabN a b base tv k vs W' :=
  ⟨owns_below h.own hb, fun j hj => by
    obtain ⟨v, h1, h2⟩ := h.row j hj
    exact ⟨v, h1, h2.below hb⟩⟩
theorem TabN.more {a b : List UInt8} {base k : Nat} {tv tv' v : Value} {vs : List Value} {W W' : World} (h : TabN a b base tv k vs W) (ho : W'.ownsRow base 27 1 tv' (k + 1) (vs ++ [v])) (hg : W.grownBy W' tv.ownBlock) (hv : NRow W base v (drow a b k)) : TabN a b base tv' (k + 1) (vs ++ [v]) W' := by
  have off : OffT W tv.ownBlock 3 := off_cells (owns_cells h.own) (by decide)
  have kp : ∀ {u : Value} {l : List Nat}, NRow W base u l → NRow W' base u l := fun {u l} hu => by
    refine hu.same fun g o _ hh => ?_
    obtain ⟨g', c, cur, rfl, _, hh', _⟩ := hu
    cases ‹(Value.slice (some ⟨g', 0, none⟩) l.length c).ownBlock = some g›
    rw [hh'] at hh
    cases hh
    exact (hg.block g' (Array.getElem?_eq_some_iff.1 hh').1 (fun e => off g' _ _ e.symm hh')).trans hh'
  have hlen : vs.length = k := by have := h.own.1; omega
  refine ⟨ho, fun j hj => ?_⟩
  by_cases hjk : j < k
  · obtain ⟨u, h1, h2⟩ := h.row j hjk
    exact ⟨u, by rw [List.getElem?_append_left (by omega)]; exact h1, kp h2⟩
  · obtain rfl : j = k := by omega
    exact ⟨v, by rw [List.getElem?_append_right (by omega), hlen]; simp, kp hv⟩
theorem TabN.cell {a b : List UInt8} {base k m : Nat} {td : Option Addr} {tp : Nat} {vs : List Value} {W : World} (h : TabN a b base (.slice td k tp) k vs W) (hm : m = b.length) (j : Nat) (hj : j < k) : ∃ gt gr c, td = some ⟨gt, 0, none⟩ ∧ W.cell? ⟨gt, j, none⟩ = some (.slice (some ⟨gr, 0, none⟩) (m + 1) c) ∧ ∀ t, t ≤ m → W.cell? ⟨gr, t, none⟩ = some (.int .i64 ((dd a b j t : Nat) : Int)) := by
  obtain ⟨v, h1, g, c, cur, rfl, hb, hh, hc⟩ := h.row j hj
  obtain ⟨gt, rfl⟩ : ∃ gt, td = some ⟨gt, 0, none⟩ := by
    rcases h.own.2 with ⟨h2, h0⟩ | ⟨g, cap, cur, h2, _⟩
    · omega
    · injection h2 with h2; exact ⟨g, h2⟩
  rw [drow_length, ← hm] at h1
  refine ⟨gt, g, c, rfl, by rw [h.own.cellAt j (by omega)]; exact h1, fun t ht => ?_⟩
  have h3 := hc t (by rw [drow_length]; omega)
  rw [drow_at _ _ _ _ (by omega)] at h3
  rw [cell_of_row W g t _ _ _ hh]
  exact h3

set_option maxHeartbeats 10000000 in
set_option maxRecDepth 100000 in
theorem table_any (a b : ByteArray) (w : World) (ha : a.size ≤ 1000) (hb : b.size ≤ 1000) :
    Calls Try.prog 19 #[.string a, .string b] w fun e w' => ∃ td tp vs, e = .returned (.slice td (a.size + 1) tp) ∧ TabN a.data.toList b.data.toList w.heap.size (.slice td (a.size + 1) tp) (a.size + 1) vs w' ∧ Below w.heap.size w w' := by
  obtain ⟨n, hn⟩ : ∃ n, n = a.size := ⟨_, rfl⟩
  obtain ⟨m, hm⟩ : ∃ m, m = b.size := ⟨_, rfl⟩
  have HN := Lib.hid (And.intro hn hm)
  rw [← hn] at ha ⊢
  rw [← hm] at hb
  have es : (a.size : Int) = (n : Int) := by rw [hn]
  have et : (b.size : Int) = (m : Int) := by rw [hm]
  clear hn hm
  obtain ⟨i8, hi, hz0, hz1, hz2⟩ := info_parts iRowI
  have HI := Lib.hid (And.intro hi (And.intro hz0 (And.intro hz1 hz2)))
  obtain ⟨j8, gi, gz0, gz1, gz2⟩ := info_parts iInt
  have HJ := Lib.hid (And.intro gi (And.intro gz0 (And.intro gz1 gz2)))
  clear hi hz0 hz1 hz2 gi gz0 gz1 gz2
  go_enter Try.func19, Try.ntmps19
  go_wp2
  go_loopw [5, 6] (fun s5 s6 wr => ∃ (i : Nat) (td : Option Addr) (tp : Nat) (vs : List Value), i ≤ n + 1 ∧ s6 = .int .i64 (i : Int) ∧ s5 = .slice td i tp ∧ Hid (TabN a.data.toList b.data.toList w.heap.size (.slice td i tp) i vs wr) ∧ Hid (Below w.heap.size w wr)) (fun _ s6 _ => n + 1 - (intOf s6).toNat)
  case atStart => exact ⟨0, none, 0, [], by omega, rfl, rfl, Lib.hid ⟨World.ownsRow_nil w w.heap.size 27 1, fun j hj => by omega⟩, Lib.hid (Below.refl _ _)⟩
  case round =>
    obtain ⟨i, td, tp, vs, hi, rfl, rfl, HT, HB⟩ := hrel
    obtain ⟨wo, rfl⟩ : ∃ wo : World, wo = wr := ⟨_, rfl⟩
    by_cases hlt : i ≤ n
    · have d1 : decide ((i : Int) ≤ (n : Int)) = true := decide_eq_true (by omega)
      have d2 : decide (i ≤ n) = true := decide_eq_true hlt
      go_upto_region 6 with (refine wpList_make_full _ rfl _ _ 27 rfl wo.heap.size 3 j8 (.int .i64 0) 1 Try.underlying27 HJ.out.1 HJ.out.2.1 HJ.out.2.2.1 .i64 .i64 _ _ (m + 1) rfl rfl (by first | rfl | go_num) (by first | rfl | go_num) (by rw [HJ.out.2.2.2]; omega) (by unfold maxLen; omega) (Nat.le_refl _) ?_; intro w2 hl2 hg2)
      obtain ⟨gl, hgl⟩ : ∃ gl, gl = wo.heap.size := ⟨_, rfl⟩
      have HL0 : Hid (w2.ownsRow gl 3 1 (.slice (some ⟨gl, 0, none⟩) (m + 1) (m + 1)) (m + 1) (nats (drowK a.data.toList b.data.toList i 0))) := Lib.hid (by
        have e : (madeCells (Value.int .i64 0).cells ((m + 1) * 1)).toList = nats (List.replicate (m + 1) 0) := by
          rw [show (Value.int .i64 0).cells = #[.int .i64 0] from rfl, toList_madeCells_one, Nat.mul_one]
          simp [nats]
        rw [e, ← hgl] at hl2
        rw [drowK_zero, ba_length, ← HN.out.2]
        exact hl2)
      have HB2 : Hid (Below wo.heap.size wo w2) := Lib.hid ((Below.refl _ wo).grown hg2 (Nat.le_refl _) (fun k e => by cases e))
      rw [← hgl]
      have HGL := Lib.hid hgl
      clear hl2 hg2 hgl
      go_wp2
      go_loopw [8] (fun s8 w3 => ∃ k : Nat, k ≤ m + 1 ∧ s8 = .int .i64 (k : Int) ∧ Hid (w3.ownsRow gl 3 1 (.slice (some ⟨gl, 0, none⟩) (m + 1) (m + 1)) (m + 1) (nats (drowK a.data.toList b.data.toList i k))) ∧ Hid (Below wo.heap.size wo w3)) (fun s8 _ => m + 1 - (intOf s8).toNat)
      case atStart => exact ⟨0, Nat.zero_le _, rfl, HL0, HB2⟩
      case round =>
        obtain ⟨k, hk, rfl, HL, HB3⟩ := hrel
        by_cases hkm : k ≤ m
        · have d3 : decide ((k : Int) ≤ (m : Int)) = true := decide_eq_true (by omega)
          have d4 : decide (k ≤ m) = true := decide_eq_true hkm
          have il : (k : Int) < (m : Int) + 1 := by omega
          obtain ⟨y0, hy0⟩ : ∃ y, (drowK a.data.toList b.data.toList i k).getD k 0 = y := ⟨_, rfl⟩
          have ck : wr.cell? ⟨gl, k, none⟩ = some (.int .i64 (y0 : Int)) := by
            rw [HL.out.cellAt k (by omega), nats_at (by rw [drowK_length, ba_length, ← HN.out.2]; omega), hy0]
          have fk := HL.out.frozenAt k
          have fin : ∀ z : Nat, dd a.data.toList b.data.toList i k = z → Hid ((wr.setCell ⟨gl, k, none⟩ (.int .i64 (z : Int))).ownsRow gl 3 1 (.slice (some ⟨gl, 0, none⟩) (m + 1) (m + 1)) (m + 1) (nats (drowK a.data.toList b.data.toList i (k + 1))) ∧ Below wo.heap.size wo (wr.setCell ⟨gl, k, none⟩ (.int .i64 (z : Int)))) := fun z hz => Lib.hid (by
            have h := (HL.out.stored k (.int .i64 (z : Int))).1
            rw [nats_set, ← hz, drowK_set] at h
            rw [hz] at h
            exact ⟨h, HB3.out.setCell (p := ⟨gl, k, none⟩) (by rw [HGL.out]; exact Nat.le_refl _) _⟩)
          clear hy0
          by_cases hi0 : i = 0
          · have f1 : ((i : Int) == 0) = true := by simp; omega
            have f1' : (i == 0) = true := by simp; omega
            have HF := fin k (by rw [hi0, dd_zero _ _ _ (by rw [ba_length, ← HN.out.2]; exact hkm)])
            clear fin hi0
            go_wp2
            exact ⟨⟨k + 1, by omega, by go_num, Lib.hid HF.out.1, Lib.hid HF.out.2⟩, by simp [intOf]; omega⟩
          · have f1 : ((i : Int) == 0) = false := by simp; omega
            have f1' : (i == 0) = false := by simp; omega
            by_cases hk0 : k = 0
            · have f2 : ((k : Int) == 0) = true := by simp; omega
              have f2' : (k == 0) = true := by simp; omega
              have HF := fin i (by rw [hk0, dd_to_zero _ _ _ (by rw [ba_length, ← HN.out.1]; exact hlt)])
              clear fin hi0 hk0
              go_wp2
              exact ⟨⟨k + 1, by omega, by go_num, Lib.hid HF.out.1, Lib.hid HF.out.2⟩, by simp [intOf]; omega⟩
            · have f2 : ((k : Int) == 0) = false := by simp; omega
              have f2' : (k == 0) = false := by simp; omega
              obtain ⟨i', rfl⟩ : ∃ t, i = t + 1 := ⟨i - 1, by omega⟩
              obtain ⟨k', rfl⟩ : ∃ t, k = t + 1 := ⟨k - 1, by omega⟩
              have HTw := HT.out.below HB3.out
              obtain ⟨gt, gr, gc, htd, kt, kr⟩ := HTw.cell (m := m) (by rw [ba_length, HN.out.2]) i' (by omega)
              subst htd
              obtain ⟨X, hX⟩ : ∃ x, dd a.data.toList b.data.toList i' k' = x := ⟨_, rfl⟩
              obtain ⟨Y, hY⟩ : ∃ x, dd a.data.toList b.data.toList i' (k' + 1) = x := ⟨_, rfl⟩
              obtain ⟨Z, hZ⟩ : ∃ x, dd a.data.toList b.data.toList (i' + 1) k' = x := ⟨_, rfl⟩
              have k1 := kr k' (by omega)
              have k2 := kr (k' + 1) hkm
              rw [hX] at k1
              rw [hY] at k2
              have k3 : wr.cell? ⟨gl, k', none⟩ = some (.int .i64 (Z : Int)) := by
                rw [HL.out.cellAt k' (by omega), nats_at (by rw [drowK_length, ba_length, ← HN.out.2]; omega), drowK_at _ _ _ _ _ (by omega) (by rw [ba_length, ← HN.out.2]; omega), hZ]
              have hia : i' < a.size := by rw [← HN.out.1]; omega
              have hkb : k' < b.size := by rw [← HN.out.2]; omega
              have bd : X ≤ 2000 ∧ Y ≤ 2000 ∧ Z ≤ 2000 := by
                have h1 := dd_bound a.data.toList b.data.toList i' k'
                have h2 := dd_bound a.data.toList b.data.toList i' (k' + 1)
                have h3 := dd_bound a.data.toList b.data.toList (i' + 1) k'
                rw [ba_length, ba_length] at h1 h2 h3
                have := HN.out
                omega
              have w1 : IntKind.i64.wrap (i' : Int) = (i' : Int) := IntWalk.i64_in _ (by omega)
              have w2 : IntKind.i64.wrap (k' : Int) = (k' : Int) := IntWalk.i64_in _ (by omega)
              have w3 : IntKind.i64.wrap ((i' : Int) + 1 - 1) = (i' : Int) := by rw [show (i' : Int) + 1 - 1 = i' by omega]; exact w1
              have w4 : IntKind.i64.wrap ((k' : Int) + 1 - 1) = (k' : Int) := by rw [show (k' : Int) + 1 - 1 = k' by omega]; exact w2
              have ia : (i' : Int) < (n : Int) := by omega
              have ia2 : (i' : Int) < (i' : Int) + 1 := by omega
              have ib : (k' : Int) < (m : Int) := by omega
              have ib2 : (k' : Int) < (m : Int) + 1 := by omega
              have ib3 : (k' : Int) + 1 < (m : Int) + 1 := by omega
              have j1 : ((k' : Int) + 1).toNat = k' + 1 := by omega
              clear kr hi0 hk0
              by_cases hab : a[i'] = b[k']
              · have e1 : ((a[i'].toNat : Int) == (b[k'].toNat : Int)) = true := by rw [hab]; simp
                have e2 : (a[i'].toNat == b[k'].toNat) = true := by rw [hab]; simp
                have HF := fin X (by rw [dd_same _ _ _ _ (by rw [ba_length]; exact hia) (by rw [ba_length]; exact hkb) (by rw [byte_getD a i' hia, byte_getD b k' hkb, hab]), hX])
                clear fin hX hY hZ hab
                go_wp2
                go_region
                go_wp2
                exact ⟨⟨k' + 1 + 1, by omega, by go_num, Lib.hid HF.out.1, Lib.hid (Below.drew HF.out.2)⟩, by simp [intOf]; omega⟩
              · have hab' : a[i'].toNat ≠ b[k'].toNat := fun e => hab (UInt8.toNat_inj.1 e)
                have e1 : ((a[i'].toNat : Int) == (b[k'].toNat : Int)) = false := by simp; omega
                have e2 : (a[i'].toNat == b[k'].toNat) = false := by simp; omega
                obtain ⟨mn, hmn⟩ : ∃ mn, mn = min (min X Y) Z := ⟨_, rfl⟩
                have HF := fin (mn + 1) (by
                  rw [dd_succ _ _ _ _ (by rw [ba_length]; exact hia) (by rw [ba_length]; exact hkb), hX, hY, hZ, show ch (a.data.toList.getD i' 0) (b.data.toList.getD k' 0) = 1 by unfold ch; rw [byte_getD a i' hia, byte_getD b k' hkb, if_neg hab]]
                  omega)
                have hv : (1 : Int) + (if (Z : Int) < (if Y < X then (Y : Int) else (X : Int)) then (Z : Int) else (if Y < X then (Y : Int) else (X : Int))) = ((mn + 1 : Nat) : Int) := by
                  rw [hmn]
                  by_cases q1 : Y < X
                  · rw [if_pos q1]; split <;> omega
                  · rw [if_neg q1]; split <;> omega
                have HV := Lib.hid hv
                clear hv
                have HMN := Lib.hid hmn
                clear fin hX hY hZ hab hab' hmn
                go_wp2
                go_region
                go_wp2
                go_region
                go_wp2
                have h1 := HF.out
                rw [← HV.out] at h1
                exact ⟨⟨k' + 1 + 1, by omega, by go_num, Lib.hid h1.1, Lib.hid (Below.drew (Below.drew h1.2))⟩, by simp [intOf]; omega⟩
        · have hke : k = m + 1 := by omega
          have d3 : decide ((k : Int) ≤ (m : Int)) = false := decide_eq_false (by omega)
          have d4 : decide (k ≤ m) = false := decide_eq_false hkm
          have HBR : Hid (NRow wr w.heap.size (.slice (some ⟨gl, 0, none⟩) (m + 1) (m + 1)) (drow a.data.toList b.data.toList i)) := Lib.hid (by
            refine NRow.mono (nrow_of_owns ?_ (by rw [drow_length]; omega)) (show w.heap.size ≤ gl by rw [HGL.out]; exact HB.out.size)
            have h9 := HL.out
            rw [hke, HN.out.2, show b.size = b.data.toList.length from (ba_length b).symm, drowK_all] at h9
            rw [drow_length, ba_length, ← HN.out.2]
            rw [ba_length, ← HN.out.2] at h9
            exact h9)
          have HT6 := Lib.hid (HT.out.below HB3.out)
          have HW6 := Lib.hid (HB.out.trans (HB3.out.mono HB.out.size))
          have HBS : Hid (w.heap.size ≤ (wr.alloc (.cells #[.slice (some ⟨gl, 0, none⟩) (m + 1) (m + 1)] 27)).heap.size) := Lib.hid (by have := HW6.out.size; simp; omega)
          clear hke hkm
          go_wp2_with (at_builtin; refine wpList_append_own _ rfl _ _ 42 rfl w.heap.size 27 i8 (.slice none 0 0) 1 24 Try.underlying42 HI.out.1 HI.out.2.1 HI.out.2.2.1 HI.out.2.2.2 rfl (by decide) _ _ _ rfl (HT6.out.own.alloc _) ⟨wr.heap.size, 0, none⟩ 1 1 [.slice (some ⟨gl, 0, none⟩) (m + 1) (m + 1)] rfl rfl (news_one _ _ _) (oneCell_one rfl) (by unfold maxLen; omega) (by omega) HBS.out ?_; intro v' w7 hown7 hg7 _; obtain ⟨td', tp', hv7⟩ := owns_slice hown7; subst hv7)
          have hb7 : Below wr.heap.size wr (wr.alloc (.cells #[.slice (some ⟨gl, 0, none⟩) (m + 1) (m + 1)] 27)) := below_alloc wr _
          have HM := Lib.hid ((HT6.out.below hb7).more hown7 hg7 (HBR.out.below hb7))
          have HW7 := Lib.hid ((HW6.out.trans (hb7.mono HW6.out.size)).grown hg7 HBS.out (fun k e => (owns_cells (HT6.out.below hb7).own k e).1))
          clear hown7 hg7 hb7
          go_wp2
          exact ⟨⟨i + 1, td', tp', _, by omega, by go_num, rfl, Lib.hid HM.out, Lib.hid HW7.out⟩, by simp [intOf]; omega⟩
    · have hin : i = n + 1 := by omega
      have d1 : decide ((i : Int) ≤ (n : Int)) = false := decide_eq_false (by omega)
      have d2 : decide (i ≤ n) = false := decide_eq_false hlt
      have HIN := Lib.hid hin
      clear hin hlt
      go_wp2
      go_ret
      exact ⟨td, tp, vs, by rw [← HIN.out]; rfl, by rw [← HIN.out]; exact HT.out, HB.out⟩
end Go.Proofs.Ytbdbcfidbapioaa
namespace Go.Proofs.Ytbdbcfidbapioaa
open Go.RowKit Go.Shelf Said

set_option maxHeartbeats 2000000 in
set_option maxRecDepth 100000 in
theorem refOf_any (a b : ByteArray) (w : World) (ha : a.size ≤ 1000) (hb : b.size ≤ 1000) :
    Calls Try.prog 8 #[.string a, .string b] w fun e w' => e = .returned (.int .i64 ((lev a.data.toList b.data.toList : Nat) : Int)) ∧ Below w.heap.size w w' := by
  obtain ⟨n, hn⟩ : ∃ n, n = a.size := ⟨_, rfl⟩
  obtain ⟨m, hm⟩ : ∃ m, m = b.size := ⟨_, rfl⟩
  obtain ⟨y, hy⟩ : ∃ y, lev a.data.toList b.data.toList = y := ⟨_, rfl⟩
  have QT := Lib.hid (table_any a b w ha hb)
  rw [hy]
  rw [← hn] at QT
  have es : (a.size : Int) = (n : Int) := by rw [hn]
  have et : (b.size : Int) = (m : Int) := by rw [hm]
  have HN := Lib.hid (And.intro hn (And.intro hm hy))
  have i1 : (n : Int) < (n : Int) + 1 := by omega
  have i2 : (m : Int) < (m : Int) + 1 := by omega
  clear hn hm hy
  go_enter Try.func8, Try.ntmps8
  go_wp2_with (go_at_call 19; (with_reducible refine QT.out.mono ?_); rintro e w1 ⟨td, tp, vs, rfl, ht, hb1⟩; obtain ⟨gt, gr, gc, htd, kt, kr⟩ := ht.cell (m := m) (by rw [ba_length, HN.out.2.1]) n (by omega); subst htd; have km := kr m (Nat.le_refl _); rw [show dd a.data.toList b.data.toList n m = y by rw [HN.out.1, HN.out.2.1, show a.size = a.data.toList.length from (ba_length a).symm, show b.size = b.data.toList.length from (ba_length b).symm, dd_all]; exact HN.out.2.2] at km; have HB1 := Lib.hid hb1; clear kr ht hb1)
  go_ret
  exact ⟨rfl, HB1.out⟩

theorem belowNr {B : Nat} {a w : World} (h : Below B a w) (q : Nat) : Below B a (w.drewN q) := ⟨h.os, h.tape, h.output, h.size, h.block⟩

def behT (q t : List UInt8) (k : Nat) : List Nat := (List.range k).map fun i => lev (q.take i) t
theorem behT_succ (q t : List UInt8) (k : Nat) : behT q t (k + 1) = behT q t k ++ [lev (q.take k) t] := by
  unfold behT
  rw [List.range_succ, List.map_append]
  rfl

set_option maxHeartbeats 2000000 in
set_option maxRecDepth 100000 in
theorem behind_any (q t : ByteArray) (w : World) (hq : q.size ≤ 1000) (ht : t.size ≤ 1000) :
    Calls Try.prog 15 #[.string q, .string t] w fun e w' => ∃ v, e = .returned v ∧ w'.ownsRow w.heap.size 3 1 v (q.size + 1) (nats (rowT q.data.toList t.data.toList)) ∧ Below w.heap.size w w' := by
  obtain ⟨n, hn⟩ : ∃ n, n = q.size := ⟨_, rfl⟩
  rw [← hn] at hq ⊢
  have es : (q.size : Int) = (n : Int) := by rw [hn]
  have HN := Lib.hid hn
  clear hn
  obtain ⟨j8, gi, gz0, gz1, gz2⟩ := info_parts iInt
  have HJ := Lib.hid (And.intro gi (And.intro gz0 (And.intro gz1 gz2)))
  clear gi gz0 gz1 gz2
  go_enter Try.func15, Try.ntmps15
  go_wp2
  go_loopw [5, 6] (fun s5 s6 wr => ∃ (k : Nat) (ad : Option Addr) (c : Nat), k ≤ n + 1 ∧ s6 = .int .i64 (k : Int) ∧ s5 = .slice ad k c ∧ Hid (wr.ownsRow w.heap.size 3 1 (.slice ad k c) k (nats (behT q.data.toList t.data.toList k))) ∧ Hid (Below w.heap.size w wr)) (fun _ s6 _ => n + 1 - (intOf s6).toNat)
  case atStart => exact ⟨0, none, 0, by omega, rfl, rfl, Lib.hid (World.ownsRow_nil w w.heap.size 3 1), Lib.hid (Below.refl _ _)⟩
  case round =>
    obtain ⟨k, ad, c, hk, rfl, rfl, HO, HB⟩ := hrel
    by_cases hlt : k ≤ n
    · have d1 : decide ((k : Int) ≤ (n : Int)) = true := decide_eq_true (by omega)
      have d2 : decide (k ≤ n) = true := decide_eq_true hlt
      obtain ⟨y, hy⟩ : ∃ y, lev (q.data.toList.take k) t.data.toList = y := ⟨_, rfl⟩
      have QO : Hid (∀ W, Calls Try.prog 8 #[.string (q.extract 0 k), .string t] W fun e w' => e = .returned (.int .i64 (y : Int)) ∧ Below W.heap.size W w') := Lib.hid fun W => by
        have h := refOf_any (q.extract 0 k) t W (by rw [ByteArray.size_extract]; have := HN.out; omega) ht
        rw [ba_extract, List.drop_zero, Nat.sub_zero, hy] at h
        exact h
      have HY := Lib.hid hy
      have ik : (k : Int) ≤ (n : Int) := by omega
      clear hy
      go_wp2_with (first
        | (go_at_call 8; (with_reducible refine (QO.out _).mono ?_); rintro e w2 ⟨rfl, hb2⟩; have HB2 := Lib.hid (HB.out.trans (hb2.mono HB.out.size)); have HO2 := Lib.hid (owns_below HO.out hb2); have HBS : Hid (w.heap.size ≤ (w2.alloc (.cells #[.int .i64 (y : Int)] 3)).heap.size) := Lib.hid (by have := HB2.out.size; simp; omega); clear hb2)
        | (at_builtin; refine wpList_append_own _ rfl _ _ 27 rfl w.heap.size 3 j8 (.int .i64 0) 1 8 Try.underlying27 HJ.out.1 HJ.out.2.1 HJ.out.2.2.1 HJ.out.2.2.2 rfl (by decide) _ _ _ rfl (HO2.out.alloc _) ⟨w2.heap.size, 0, none⟩ 1 1 [.int .i64 (y : Int)] rfl rfl (news_one _ _ _) (oneCell_one rfl) (by unfold maxLen; omega) (by omega) HBS.out ?_; intro v' w7 hown7 hg7 _; obtain ⟨td', tp', hv7⟩ := owns_slice hown7; subst hv7))
      have hb7 : Below w2.heap.size w2 (w2.alloc (.cells #[.int .i64 (y : Int)] 3)) := below_alloc w2 _
      have HW7 := Lib.hid ((HB2.out.trans (hb7.mono HB2.out.size)).grown hg7 HBS.out (fun k e => (owns_cells (owns_below HO2.out hb7) k e).1))
      have HO7 := Lib.hid hown7
      clear hown7 hg7 hb7
      exact ⟨⟨k + 1, td', tp', by omega, by go_num, rfl, Lib.hid (by
        have h := HO7.out
        rw [show nats (behT q.data.toList t.data.toList k) ++ [.int .i64 (y : Int)] = nats (behT q.data.toList t.data.toList (k + 1)) by rw [behT_succ, HY.out]; simp [nats]] at h
        exact h), Lib.hid HW7.out⟩, by simp [intOf]; omega⟩
    · have hkn : k = n + 1 := by omega
      have d1 : decide ((k : Int) ≤ (n : Int)) = false := decide_eq_false (by omega)
      have d2 : decide (k ≤ n) = false := decide_eq_false hlt
      have HK := Lib.hid hkn
      clear hkn hlt
      go_wp2
      go_ret
      refine ⟨_, rfl, ?_, HB.out⟩
      have h := HO.out
      rw [HK.out] at h
      rw [HK.out]
      have e : behT q.data.toList t.data.toList (n + 1) = rowT q.data.toList t.data.toList := by
        unfold behT rowT
        rw [ba_length, HN.out]
      rw [e] at h
      exact h

theorem back_front (a b : List UInt8) (i j : Nat) (hi : i ≤ a.length) (hj : j ≤ b.length) (e : ¬ (i = 0 ∧ j = 0)) {r : List UInt8} (h : (backT a b (i + j) i j).reverse ++ r = scriptT a b) :
    (backT a b ((if letterT a b i j = 43 then i else i - 1) + (if letterT a b i j = 45 then j else j - 1)) (if letterT a b i j = 43 then i else i - 1) (if letterT a b i j = 45 then j else j - 1)).reverse ++ (letterT a b i j :: r) = scriptT a b := by
  rw [backT_step a b i j hi hj e, List.reverse_cons, List.append_assoc] at h
  exact h

set_option maxHeartbeats 20000000 in
set_option maxRecDepth 100000 in
theorem refScript_any (a b : ByteArray) (w : World) (ha : a.size ≤ 1000) (hb : b.size ≤ 1000) :
    Calls Try.prog 11 #[.string a, .string b] w fun e w' => ∃ s : ByteArray, e = .returned (.string s) ∧ s.data.toList = scriptT a.data.toList b.data.toList ∧ Below w.heap.size w w' := by
  obtain ⟨n, hn⟩ : ∃ n, n = a.size := ⟨_, rfl⟩
  obtain ⟨m, hm⟩ : ∃ m, m = b.size := ⟨_, rfl⟩
  have QT := Lib.hid (table_any a b w ha hb)
  rw [← hn] at QT ha
  rw [← hm] at hb
  have es : (a.size : Int) = (n : Int) := by rw [hn]
  have et : (b.size : Int) = (m : Int) := by rw [hm]
  have HN := Lib.hid (And.intro hn hm)
  clear hn hm
  go_enter Try.func11, Try.ntmps11
  go_wp2_with (go_at_call 19; (with_reducible refine QT.out.mono ?_); rintro e w1 ⟨td, tp, vs, rfl, ht, hb1⟩)
  have HT := Lib.hid ht
  have HB1 := Lib.hid hb1
  clear ht hb1 QT
  go_loopw [6, 7, 8] (fun s6 s7 s8 wr => ∃ (i j : Nat) (r : ByteArray), i ≤ n ∧ j ≤ m ∧ s6 = .int .i64 (i : Int) ∧ s7 = .int .i64 (j : Int) ∧ s8 = .string r ∧ r.size + i + j ≤ 2000 ∧ Hid ((backT a.data.toList b.data.toList (i + j) i j).reverse ++ r.data.toList = scriptT a.data.toList b.data.toList) ∧ Hid (Below w1.heap.size w1 wr)) (fun s6 s7 _ _ => (intOf s6).toNat + (intOf s7).toNat)
  case atStart => exact ⟨n, m, ⟨#[]⟩, Nat.le_refl _, Nat.le_refl _, rfl, rfl, rfl, by show 0 + n + m ≤ 2000; omega, Lib.hid (by rw [HN.out.1, HN.out.2]; unfold scriptT; rw [ba_length, ba_length]; simp), Lib.hid (Below.refl _ _)⟩
  case round =>
    obtain ⟨i, j, r, hi, hj, rfl, rfl, rfl, hrs, HS, HB⟩ := hrel
    by_cases h00 : i = 0 ∧ j = 0
    · have d1 : decide ((0 : Int) < (i : Int)) = false := decide_eq_false (by omega)
      have d2 : decide (0 < i) = false := decide_eq_false (by omega)
      have d3 : decide ((0 : Int) < (j : Int)) = false := decide_eq_false (by omega)
      have d4 : decide (0 < j) = false := decide_eq_false (by omega)
      have HE : Hid (r.data.toList = scriptT a.data.toList b.data.toList) := Lib.hid (by have h := HS.out; rw [h00.1, h00.2] at h; exact h)
      clear h00
      go_wp2
      go_ret
      exact ⟨r, rfl, HE.out, HB1.out.trans (HB.out.mono HB1.out.size)⟩
    · have hbf := back_front a.data.toList b.data.toList i j (by rw [ba_length, ← HN.out.1]; exact hi) (by rw [ba_length, ← HN.out.2]; exact hj) h00 HS.out
      have bcat : ∀ (c : UInt8) (x : ByteArray), (⟨#[c]⟩ ++ x : ByteArray).data.toList = c :: x.data.toList := fun c x => by rw [ba_append]; rfl
      have bsz : ∀ (c : UInt8) (x : ByteArray), (⟨#[c]⟩ ++ x : ByteArray).size = x.size + 1 := fun c x => by rw [ba_size_append]; show 1 + x.size = _; omega
      have b9 : ¬ 9223372036854775807 < 1 + r.size := by omega
      by_cases hi0 : i = 0
      · have hj0 : 0 < j := by omega
        have hL : letterT a.data.toList b.data.toList i j = 43 := by unfold letterT; rw [if_neg (by omega), if_pos hi0]
        have d1 : decide ((0 : Int) < (i : Int)) = false := decide_eq_false (by omega)
        have d2 : decide (0 < i) = false := decide_eq_false (by omega)
        have d3 : decide ((0 : Int) < (j : Int)) = true := decide_eq_true (by omega)
        have d4 : decide (0 < j) = true := decide_eq_true hj0
        rw [hL] at hbf
        simp only [if_true, show (43 : UInt8) = 45 ↔ False by decide, if_false] at hbf
        have HBF := Lib.hid hbf
        have HBC := Lib.hid (And.intro bcat bsz)
        have e0 : (j : Int) - 1 = ((j - 1 : Nat) : Int) := by omega
        have e1 : True := trivial
        clear hbf bcat bsz hL h00 hi0
        go_wp2
        go_quiet (fail)
        go_wp2
        go_quiet (fail)
        go_wp2
        go_quiet (fail)
        go_wp2
        exact ⟨⟨i, j - 1, ⟨#[43]⟩ ++ r, by omega, by omega, by first | rfl | (rw [e1]) | go_num, by first | rfl | (rw [e0]) | go_num, rfl, by rw [HBC.out.2]; omega, Lib.hid (by rw [HBC.out.1]; exact HBF.out), Lib.hid (by repeat' apply belowNr; exact HB.out)⟩, by (simp [intOf] <;> omega)⟩
      · obtain ⟨i', rfl⟩ : ∃ t, i = t + 1 := ⟨i - 1, by omega⟩
        have d1 : decide ((0 : Int) < ((i' + 1 : Nat) : Int)) = true := decide_eq_true (by omega)
        have d1' : decide ((0 : Int) < (i' : Int) + 1) = true := decide_eq_true (by omega)
        have d2 : decide (0 < i' + 1) = true := decide_eq_true (by omega)
        have HTw := HT.out.below HB.out
        obtain ⟨gt, gr1, gc1, htd, kt1, kr1⟩ := HTw.cell (m := m) (by rw [ba_length, HN.out.2]) (i' + 1) (by omega)
        subst htd
        obtain ⟨gt2, gr2, gc2, htd, kt2, kr2⟩ := HTw.cell (m := m) (by rw [ba_length, HN.out.2]) i' (by omega)
        obtain rfl : gt = gt2 := by injection htd with h; injection h
        clear htd
        have c1 := kr1 j hj
        have c2 := kr2 j hj
        obtain ⟨P1, hP1⟩ : ∃ x, dd a.data.toList b.data.toList (i' + 1) j = x := ⟨_, rfl⟩
        obtain ⟨P2, hP2⟩ : ∃ x, dd a.data.toList b.data.toList i' j = x := ⟨_, rfl⟩
        rw [hP1] at c1
        rw [hP2] at c2
        have bd : P2 ≤ 2000 := by
          have h := dd_bound a.data.toList b.data.toList i' j
          rw [ba_length, ba_length, hP2] at h
          have := HN.out
          omega
        have w1 : IntKind.i64.wrap (i' : Int) = (i' : Int) := IntWalk.i64_in _ (by omega)
        have w3 : IntKind.i64.wrap ((i' : Int) + 1 - 1) = (i' : Int) := by rw [show (i' : Int) + 1 - 1 = i' by omega]; exact w1
        have w5 : IntKind.i64.wrap ((P2 : Int) + 1) = (P2 : Int) + 1 := IntWalk.i64_in _ (by omega)
        have ia1 : (i' : Int) + 1 < (n : Int) + 1 := by omega
        have ia2 : (i' : Int) < (n : Int) + 1 := by omega
        have ia3 : (i' : Int) < (n : Int) := by omega
        have jj1 : (j : Int) < (m : Int) + 1 := by omega
        have jt : ((i' : Int) + 1).toNat = i' + 1 := by omega
        by_cases hj0 : j = 0
        · have hL : letterT a.data.toList b.data.toList (i' + 1) j = 45 := by unfold letterT; rw [if_pos hj0]
          have d3 : decide ((0 : Int) < (j : Int)) = false := decide_eq_false (by omega)
          have d4 : decide (0 < j) = false := decide_eq_false (by omega)
          have hp : P1 = P2 + 1 := by
            rw [← hP1, ← hP2, hj0, dd_to_zero _ _ _ (by rw [ba_length, ← HN.out.1]; exact hi), dd_to_zero _ _ _ (by rw [ba_length, ← HN.out.1]; omega)]
          have f1 : ((P1 : Int) == (P2 : Int) + 1) = true := by simp; omega
          have f2 : (P1 == P2 + 1) = true := by simp; omega
          rw [hL] at hbf
          simp only [if_true, show (45 : UInt8) = 43 ↔ False by decide, if_false, Nat.add_sub_cancel] at hbf
          have HBF := Lib.hid hbf
          have HBC := Lib.hid (And.intro bcat bsz)
          have e0 : True := trivial
          have e1 : (i' : Int) + 1 - 1 = (i' : Int) := by omega
          clear hbf bcat bsz hL h00 hi0 hj0 hp hP1 hP2 kr1 kr2
          go_wp2
          go_quiet (fail)
          go_wp2
          go_quiet (fail)
          go_wp2
          go_quiet (fail)
          go_wp2
          exact ⟨⟨i', j, ⟨#[45]⟩ ++ r, by omega, by omega, by first | rfl | (rw [e1]) | go_num, by first | rfl | (rw [e0]) | go_num, rfl, by rw [HBC.out.2]; omega, Lib.hid (by rw [HBC.out.1]; exact HBF.out), Lib.hid (by repeat' apply belowNr; exact HB.out)⟩, by (simp [intOf] <;> omega)⟩
        · obtain ⟨j', rfl⟩ : ∃ t, j = t + 1 := ⟨j - 1, by omega⟩
          have d3 : decide ((0 : Int) < ((j' + 1 : Nat) : Int)) = true := decide_eq_true (by omega)
          have d3' : decide ((0 : Int) < (j' : Int) + 1) = true := decide_eq_true (by omega)
          have d4 : decide (0 < j' + 1) = true := decide_eq_true (by omega)
          have hia : i' < a.size := by rw [← HN.out.1]; omega
          have hjb : j' < b.size := by rw [← HN.out.2]; omega
          have c3 := kr2 j' (by omega)
          obtain ⟨P3, hP3⟩ : ∃ x, dd a.data.toList b.data.toList i' j' = x := ⟨_, rfl⟩
          rw [hP3] at c3
          have bd3 : P3 ≤ 2000 := by
            have h := dd_bound a.data.toList b.data.toList i' j'
            rw [ba_length, ba_length, hP3] at h
            have := HN.out
            omega
          have w2 : IntKind.i64.wrap (j' : Int) = (j' : Int) := IntWalk.i64_in _ (by omega)
          have w4 : IntKind.i64.wrap ((j' : Int) + 1 - 1) = (j' : Int) := by rw [show (j' : Int) + 1 - 1 = j' by omega]; exact w2
          have w6 : IntKind.i64.wrap ((P3 : Int) + 1) = (P3 : Int) + 1 := IntWalk.i64_in _ (by omega)
          have jj2 : (j' : Int) < (m : Int) + 1 := by omega
          have jj3 : (j' : Int) < (m : Int) := by omega
          have jj4 : (j' : Int) + 1 < (m : Int) + 1 := by omega
          have jt2 : ((j' : Int) + 1).toNat = j' + 1 := by omega
          have HBC := Lib.hid (And.intro bcat bsz)
          have e0 : (j' : Int) + 1 - 1 = (j' : Int) := by omega
          have e1 : (i' : Int) + 1 - 1 = (i' : Int) := by omega
          have hlet : letterT a.data.toList b.data.toList (i' + 1) (j' + 1) = if a[i'] = b[j'] then 61 else if P1 = P3 + 1 then 120 else if P1 = P2 + 1 then 45 else 43 := by
            unfold letterT
            rw [if_neg (by omega), if_neg (by omega)]
            simp only [Nat.add_sub_cancel]
            rw [byte_getD a i' hia, byte_getD b j' hjb, hP1, hP2, hP3]
          clear hP1 hP2 hP3 kr1 kr2 bcat bsz h00 hi0 hj0
          by_cases hab : a[i'] = b[j']
          · rw [if_pos hab] at hlet
            have q1 : ((a[i'].toNat : Int) == (b[j'].toNat : Int)) = true := by rw [hab]; simp
            have q2 : (a[i'].toNat == b[j'].toNat) = true := by rw [hab]; simp
            rw [hlet] at hbf
            simp only [show (61 : UInt8) = 43 ↔ False by decide, show (61 : UInt8) = 45 ↔ False by decide, if_false, Nat.add_sub_cancel] at hbf
            have HBF := Lib.hid hbf
            clear hbf hlet hab
            go_wp2
            go_quiet (fail)
            go_wp2
            exact ⟨⟨i', j', ⟨#[61]⟩ ++ r, by omega, by omega, by first | rfl | (rw [e1]) | go_num, by first | rfl | (rw [e0]) | go_num, rfl, by rw [HBC.out.2]; omega, Lib.hid (by rw [HBC.out.1]; exact HBF.out), Lib.hid (by repeat' apply belowNr; exact HB.out)⟩, by (simp [intOf] <;> omega)⟩
          · rw [if_neg hab] at hlet
            have hab' : a[i'].toNat ≠ b[j'].toNat := fun e => hab (UInt8.toNat_inj.1 e)
            have q1 : ((a[i'].toNat : Int) == (b[j'].toNat : Int)) = false := by simp; omega
            have q2 : (a[i'].toNat == b[j'].toNat) = false := by simp; omega
            clear hab hab'
            by_cases hx : P1 = P3 + 1
            · rw [if_pos hx] at hlet
              have f1 : ((P1 : Int) == (P3 : Int) + 1) = true := by simp; omega
              have f2 : (P1 == P3 + 1) = true := by simp; omega
              rw [hlet] at hbf
              simp only [show (120 : UInt8) = 43 ↔ False by decide, show (120 : UInt8) = 45 ↔ False by decide, if_false, Nat.add_sub_cancel] at hbf
              have HBF := Lib.hid hbf
              clear hbf hlet hx
              go_wp2
              go_quiet (fail)
              go_wp2
              go_quiet (fail)
              go_wp2
              exact ⟨⟨i', j', ⟨#[120]⟩ ++ r, by omega, by omega, by first | rfl | (rw [e1]) | go_num, by first | rfl | (rw [e0]) | go_num, rfl, by rw [HBC.out.2]; omega, Lib.hid (by rw [HBC.out.1]; exact HBF.out), Lib.hid (by repeat' apply belowNr; exact HB.out)⟩, by (simp [intOf] <;> omega)⟩
            · rw [if_neg hx] at hlet
              have f1 : ((P1 : Int) == (P3 : Int) + 1) = false := by simp; omega
              have f2 : (P1 == P3 + 1) = false := by simp; omega
              clear hx
              by_cases ho : P1 = P2 + 1
              · rw [if_pos ho] at hlet
                have f3 : ((P1 : Int) == (P2 : Int) + 1) = true := by simp; omega
                have f4 : (P1 == P2 + 1) = true := by simp; omega
                rw [hlet] at hbf
                simp only [show (45 : UInt8) = 43 ↔ False by decide, if_false, if_true, Nat.add_sub_cancel] at hbf
                have HBF := Lib.hid hbf
                clear hbf hlet ho
                go_wp2
                go_quiet (fail)
                go_wp2
                go_quiet (fail)
                go_wp2
                go_quiet (fail)
                go_wp2
                exact ⟨⟨i', j' + 1, ⟨#[45]⟩ ++ r, by omega, by omega, by first | rfl | (rw [e1]) | go_num, by first | rfl | (rw [e0]) | go_num, rfl, by rw [HBC.out.2]; omega, Lib.hid (by rw [HBC.out.1]; exact HBF.out), Lib.hid (by repeat' apply belowNr; exact HB.out)⟩, by (simp [intOf] <;> omega)⟩
              · rw [if_neg ho] at hlet
                have f3 : ((P1 : Int) == (P2 : Int) + 1) = false := by simp; omega
                have f4 : (P1 == P2 + 1) = false := by simp; omega
                rw [hlet] at hbf
                simp only [show (43 : UInt8) = 45 ↔ False by decide, if_false, if_true, Nat.add_sub_cancel] at hbf
                have HBF := Lib.hid hbf
                clear hbf hlet ho
                go_wp2
                go_quiet (fail)
                go_wp2
                go_quiet (fail)
                go_wp2
                go_quiet (fail)
                go_wp2
                exact ⟨⟨i' + 1, j', ⟨#[43]⟩ ++ r, by omega, by omega, by first | rfl | (rw [e1]) | go_num, by first | rfl | (rw [e0]) | go_num, rfl, by rw [HBC.out.2]; omega, Lib.hid (by rw [HBC.out.1]; exact HBF.out), Lib.hid (by repeat' apply belowNr; exact HB.out)⟩, by (simp [intOf] <;> omega)⟩
end Go.Proofs.Ytbdbcfidbapioaa
namespace Go.Proofs.Ytbdbcfidbapioaa
open Go.RowKit Go.Shelf Said

theorem four_at (k0 k1 k2 k3 : Int) (j : Nat) (hj : j < 4) : ∃ x, ∀ w, (Instr.index 24 (.agg #[.int .i64 k0, .int .i64 k1, .int .i64 k2, .int .i64 k3]) (.int .i64 (j : Int))).run Try.prog w = .ok (.int .i64 x) w := by
  match j, hj with
  | 0, _ => exact ⟨k0, fun _ => by kernel_rfl⟩
  | 1, _ => exact ⟨k1, fun _ => by kernel_rfl⟩
  | 2, _ => exact ⟨k2, fun _ => by kernel_rfl⟩
  | 3, _ => exact ⟨k3, fun _ => by kernel_rfl⟩

theorem nats_cells {W : World} {base g n c : Nat} {l : List Nat} (h : W.ownsRow base 3 1 (.slice (some ⟨g, 0, none⟩) n c) n (nats l)) (hl : l.length = n) (j : Nat) (u : Value) (hu : (nats l)[j]? = some u) : W.cell? ((⟨g, 0, none⟩ : Addr).add j) = some u := by
  have hj : j < n := by
    have := (List.getElem?_eq_some_iff.1 hu).1
    rw [nats_length, hl] at this
    exact this
  have e : ((⟨g, 0, none⟩ : Addr).add j) = ⟨g, j, none⟩ := by
    unfold Addr.add
    split
    · subst_vars; rfl
    · simp
  rw [e, h.cellAt j (by omega), hu]
theorem nats_one {l : List Nat} : ∀ u ∈ nats l, u.oneCell' = true := by
  intro u hu
  obtain ⟨x, -, rfl⟩ := List.mem_map.1 hu
  rfl

theorem below_lit {a w5 w7 : World} {o : Obj} (h : Below a.heap.size a w5) (hg : (w5.alloc o).grownBy w7 (Value.slice (some ⟨w5.heap.size, 0, none⟩) 0 0).ownBlock) : Below a.heap.size a w7 :=
  (h.trans ((below_alloc w5 o).mono h.size)).grown hg (by have := h.size; simp; omega) (fun k e => by
    have e' : some w5.heap.size = some k := e
    injection e' with e'
    have := h.size
    omega)
theorem below_app {a w5 w7 : World} {o : Obj} {e : TypeId} {size n : Nat} {v : Value} {xs : List Value} (h : Below a.heap.size a w5) (ho : w5.ownsRow a.heap.size e size v n xs) (hg : (w5.alloc o).grownBy w7 v.ownBlock) : Below a.heap.size a w7 :=
  (h.trans ((below_alloc w5 o).mono h.size)).grown hg (by have := h.size; simp; omega) (fun k e => (owns_cells ho k e).1)

set_option maxHeartbeats 20000000 in
set_option maxRecDepth 100000 in
theorem tells_walk (a0 b0 : ByteArray) (k : Int) (w : World) (ha0 : a0.size ≤ maxLen) (hb0 : b0.size ≤ maxLen) (hk1 : -9223372036854775808 ≤ k) (hk2 : k ≤ 9223372036854775807) :
    Calls Try.prog 3 #[.string a0, .string b0, .int .i64 k] w fun e w' => e = .returned (.bool true) ∧ Below w.heap.size w w' := by
  unfold maxLen at ha0 hb0
  obtain ⟨ka, hka⟩ : ∃ ka, ka = min a0.size 40 := ⟨_, rfl⟩
  obtain ⟨kb, hkb⟩ : ∃ kb, kb = min b0.size 40 := ⟨_, rfl⟩
  have m1 : (if (40 : Int) < (a0.size : Int) then 40 else (a0.size : Int)) = (ka : Int) := by split <;> omega
  have m2 : (if (40 : Int) < (b0.size : Int) then 40 else (b0.size : Int)) = (kb : Int) := by split <;> omega
  have i1 : (ka : Int) ≤ (a0.size : Int) := by omega
  have i2 : (kb : Int) ≤ (b0.size : Int) := by omega
  have HK := Lib.hid (And.intro hka hkb)
  obtain ⟨j8, gi, gz0, gz1, gz2⟩ := info_parts iInt
  have HJ := Lib.hid (And.intro gi (And.intro gz0 (And.intro gz1 gz2)))
  clear hka hkb gi gz0 gz1 gz2
  go_enter Try.func3, Try.ntmps3
  go_wp2
  go_region
  obtain ⟨A, hA⟩ : ∃ A, A = a0.extract 0 ka := ⟨_, rfl⟩
  obtain ⟨B, hB⟩ : ∃ B, B = b0.extract 0 kb := ⟨_, rfl⟩
  have sA : A.size ≤ 40 := by rw [hA, ByteArray.size_extract]; have := HK.out; omega
  have sB : B.size ≤ 40 := by rw [hB, ByteArray.size_extract]; have := HK.out; omega
  rw [← hA, ← hB]
  clear hA hB m1 m2 i1 i2
  obtain ⟨N, hN⟩ : ∃ N, lev A.data.toList B.data.toList = N := ⟨_, rfl⟩
  obtain ⟨S, hS⟩ : ∃ S : ByteArray, S = ⟨(scriptT A.data.toList B.data.toList).toArray⟩ := ⟨_, rfl⟩
  have hSl : S.data.toList = scriptT A.data.toList B.data.toList := by rw [hS]
  have hNb : N ≤ 40 := by
    have := lev_max A.data.toList B.data.toList
    rw [hN, ba_length, ba_length] at this
    omega
  have QR := Lib.hid (fun W => (show Calls Try.prog 8 #[.string A, .string B] W fun e w' => e = .returned (.int .i64 (N : Int)) ∧ Below W.heap.size W w' by rw [← hN]; exact refOf_any A B W (by omega) (by omega)))
  have QO := Lib.hid (of_lit A B N (by omega) (by omega) hN)
  have QS := Lib.hid (script_lit A B S (by omega) (by omega) hSl.symm)
  have QT : Hid (∀ W, Calls Try.prog 11 #[.string A, .string B] W fun e w' => e = .returned (.string S) ∧ Below W.heap.size W w') := Lib.hid fun W => (refScript_any A B W (by omega) (by omega)).mono fun e w' h => by
    obtain ⟨s, rfl, h1, h2⟩ := h
    rw [ba_ext (h1.trans hSl.symm)]
    exact ⟨rfl, h2⟩
  have QI : Hid (∀ (x : Int) W, Calls Try.prog 12 #[.string A, .string B, .int .i64 x] W fun e w' => e = .returned (.tuple #[.int .i64 (if (N : Int) ≤ x then (N : Int) else 0), .bool (decide ((N : Int) ≤ x))]) ∧ Below W.heap.size W w') := Lib.hid fun x W => by
    have h := within_any A B x W (by omega) (by omega)
    unfold within at h
    rw [hN] at h
    exact h
  have hSS : (S.toList == S.toList) = true := by rw [toList_beq]; simp
  have hNN : ((N : Int) == (N : Int)) = true := by simp
  have H1 : Hid (Below w.heap.size w w.drew) := Lib.hid (below_drew w)
  clear hS hSl hN
  go_upto_region 5 with (first
    | (go_at_call 8; (with_reducible refine (QR.out _).mono ?_); rintro e w2 ⟨rfl, hb⟩; replace H1 := Lib.hid (H1.out.trans (hb.mono H1.out.size)); clear hb)
    | (go_at_call 9; (with_reducible refine (QO.out _).mono ?_); rintro e w2 ⟨rfl, hb⟩; replace H1 := Lib.hid (H1.out.trans (hb.mono H1.out.size)); clear hb)
    | (go_at_call 10; (with_reducible refine (QS.out _).mono ?_); rintro e w2 ⟨rfl, hb⟩; replace H1 := Lib.hid (H1.out.trans (hb.mono H1.out.size)); clear hb)
    | (go_at_call 11; (with_reducible refine (QT.out _).mono ?_); rintro e w2 ⟨rfl, hb⟩; replace H1 := Lib.hid (H1.out.trans (hb.mono H1.out.size)); clear hb))
  have f1 : IntKind.i64.wrap ((N : Int) - 1) = (N : Int) - 1 := IntWalk.i64_in _ (by omega)
  go_wp2
  go_loopw [50] (fun s50 wr => ∃ j : Nat, j ≤ 4 ∧ s50 = .int .i64 (j : Int) ∧ Hid (Below w.heap.size w wr)) (fun s50 _ => 4 - (intOf s50).toNat)
  case atStart => exact ⟨0, by omega, rfl, H1⟩
  case round =>
    obtain ⟨j, hj, rfl, HB⟩ := hrel
    by_cases hlt : j < 4
    · have d1 : decide ((j : Int) < 4) = true := decide_eq_true (by omega)
      have d2 : decide (j < 4) = true := decide_eq_true hlt
      obtain ⟨x, hx⟩ := four_at k (N : Int) ((N : Int) - 1) (Int.tmod k 4) j hlt
      have QW := QI.out x
      by_cases hle : (N : Int) ≤ x
      · have d3 : decide ((N : Int) ≤ x) = true := decide_eq_true hle
        rw [if_pos hle, d3] at QW
        replace QW := Lib.hid QW
        clear hle
        go_wp2_with (go_at_call 12; (with_reducible refine (QW.out _).mono ?_); rintro e w4 ⟨rfl, hb⟩)
        exact ⟨⟨j + 1, by omega, by go_num, Lib.hid (HB.out.trans (hb.mono HB.out.size))⟩, by simp [intOf]; omega⟩
      · have d3 : decide ((N : Int) ≤ x) = false := decide_eq_false hle
        rw [if_neg hle, d3] at QW
        replace QW := Lib.hid QW
        clear hle
        go_wp2_with (go_at_call 12; (with_reducible refine (QW.out _).mono ?_); rintro e w4 ⟨rfl, hb⟩)
        exact ⟨⟨j + 1, by omega, by go_num, Lib.hid (HB.out.trans (hb.mono HB.out.size))⟩, by simp [intOf]; omega⟩
    · have d1 : decide ((j : Int) < 4) = false := decide_eq_false (by omega)
      have d2 : decide (j < 4) = false := decide_eq_false hlt
      clear hlt
      obtain ⟨n, hn⟩ : ∃ n, n = A.size := ⟨_, rfl⟩
      obtain ⟨m, hm⟩ : ∃ m, m = B.size := ⟨_, rfl⟩
      have HN := Lib.hid (And.intro hn hm)
      have QRW := Lib.hid (fun W => row_any A W (by omega))
      rw [← hn] at QRW sA
      rw [← hm] at sB
      have eB : (B.size : Int) = (m : Int) := by rw [hm]
      have QBE : Hid (∀ i W, Calls Try.prog 15 #[.string A, .string (B.extract 0 i)] W fun e w' => ∃ v, e = .returned v ∧ w'.ownsRow W.heap.size 3 1 v (n + 1) (nats (rowT A.data.toList (B.data.toList.take i))) ∧ Below W.heap.size W w') := Lib.hid fun i W => by
        have h := behind_any A (B.extract 0 i) W (by omega) (by rw [ByteArray.size_extract]; omega)
        rw [ba_extract, List.drop_zero, Nat.sub_zero, ← HN.out.1] at h
        exact h
      have HRB : Hid (∀ t j, t.length ≤ 41 → (rowT A.data.toList t).getD j 0 ≤ 100) := Lib.hid fun t j ht => by
        have h1 := rowT_bound A.data.toList t j
        rw [ba_length] at h1
        omega
      have HRL : Hid (∀ t, (rowT A.data.toList t).length = n + 1) := Lib.hid fun t => by rw [rowT_length, ba_length, HN.out.1]
      have HTL : Hid (∀ i, (B.data.toList.take i).length ≤ 41) := Lib.hid fun i => by
        have h := List.length_take_le' i B.data.toList
        rw [ba_length] at h
        omega
      clear hn hm hj QR QO QS QT QI hSS hNN H1
      go_wp2_with (go_at_call 13; (with_reducible refine (QRW.out _).mono ?_); rintro e w3 ⟨rv, rfl, hrow, hb3⟩; obtain ⟨ad, cp, hv⟩ := owns_slice hrow; subst hv)
      have H3 := Lib.hid (HB.out.trans (hb3.mono HB.out.size))
      have HR3 : Hid (w3.ownsRow w.heap.size 3 1 (.slice ad (n + 1) cp) (n + 1) (nats (rowT A.data.toList (B.data.toList.take 0)))) := Lib.hid (by
        rw [List.take_zero, rowT_nil, ba_length, ← HN.out.1]
        exact owns_mono hrow HB.out.size)
      clear hrow hb3 QRW HB
      go_loopw [12, 13] (fun s12 s13 wr => ∃ (i : Nat) (ad : Option Addr) (cp : Nat), i ≤ m + 1 ∧ s13 = .int .i64 (i : Int) ∧ s12 = .slice ad (n + 1) cp ∧ Hid (wr.ownsRow w.heap.size 3 1 (.slice ad (n + 1) cp) (n + 1) (nats (rowT A.data.toList (B.data.toList.take i)))) ∧ Hid (Below w.heap.size w wr)) (fun _ s13 _ => m + 1 - (intOf s13).toNat)
      case atStart => exact ⟨0, ad, cp, by omega, rfl, rfl, HR3, H3⟩
      case round =>
        obtain ⟨i, ad, cp, hi, rfl, rfl, HO, HB⟩ := hrel
        obtain ⟨wo, rfl⟩ : ∃ wo : World, wo = wr := ⟨_, rfl⟩
        by_cases hlt : i ≤ m
        · have d1 : decide ((i : Int) ≤ (m : Int)) = true := decide_eq_true (by omega)
          have d2 : decide (i ≤ m) = true := decide_eq_true hlt
          have ii : (i : Int) ≤ (m : Int) := by omega
          obtain ⟨R, hR⟩ : ∃ R, R = rowT A.data.toList (B.data.toList.take i) := ⟨_, rfl⟩
          have QB := QBE.out i
          rw [← hR] at HO QB
          replace QB := Lib.hid QB
          have hRl : R.length = n + 1 := by rw [hR]; exact HRL.out _
          have HRb : Hid (∀ j, R.getD j 0 ≤ 100) := Lib.hid fun j => by rw [hR]; exact HRB.out _ j (HTL.out i)
          have QN : Hid (∀ W0 W v, Below wo.heap.size wo W → W.ownsRow W0 3 1 v (n + 1) (nats R) → Calls Try.prog 14 #[.slice ad (n + 1) cp, v] W fun e w' => e = .returned (.bool true) ∧ Below W.heap.size W w') := Lib.hid fun W0 W v hb hv => by
            have h1 : Ints W (.slice ad (n + 1) cp) R := ints_of_owns (by rw [hRl]; exact owns_below HO.out hb)
            have h2 : Ints W v R := ints_of_owns (by rw [hRl]; exact hv)
            have h := ints_any h1 h2 (by omega) (by omega)
            rw [decide_eq_true rfl] at h
            exact h
          have QN2 : Hid (∀ W0 W v, Below wo.heap.size wo W → W.ownsRow W0 3 1 v (n + 1) (nats R) → Calls Try.prog 14 #[v, .slice ad (n + 1) cp] W fun e w' => e = .returned (.bool true) ∧ Below W.heap.size W w') := Lib.hid fun W0 W v hb hv => by
            have h1 : Ints W (.slice ad (n + 1) cp) R := ints_of_owns (by rw [hRl]; exact owns_below HO.out hb)
            have h2 : Ints W v R := ints_of_owns (by rw [hRl]; exact hv)
            have h := ints_any h2 h1 (by omega) (by omega)
            rw [decide_eq_true rfl] at h
            exact h
          have HRR := Lib.hid (And.intro hR hRl)
          clear hR
          by_cases him : i < m
          · have d6 : decide ((i : Int) < (m : Int)) = true := decide_eq_true (by omega)
            have d7 : decide (i < m) = true := decide_eq_true him
            have hiB : i < B.size := by rw [← HN.out.2]; exact him
            obtain ⟨xs, hxs⟩ : ∃ x, B[i] = x := ⟨_, rfl⟩
            have hxs' : B.data.toList.getD i 0 = xs := by rw [byte_getD B i hiB]; exact hxs
            have iS : (i : Int) < (m : Int) := by omega
            obtain ⟨g, rfl⟩ : ∃ g, ad = some ⟨g, 0, none⟩ := by
              rcases HO.out.2 with ⟨h1, h0⟩ | ⟨g, cap, cur, h1, _⟩
              · omega
              · injection h1 with h1; exact ⟨g, h1⟩
            have QY : Hid (∀ W, Below wo.heap.size wo W → Calls Try.prog 16 #[.string A, .slice (some ⟨g, 0, none⟩) (n + 1) cp, .int .u8 (xs.toNat : Int)] W fun e w' => ∃ ad' cp', e = .returned (.slice ad' (n + 1) cp') ∧ w'.ownsRow w.heap.size 3 1 (.slice ad' (n + 1) cp') (n + 1) (nats (rowT A.data.toList (B.data.toList.take (i + 1)))) ∧ Below W.heap.size W w') := Lib.hid fun W hb => by
              have h1 : Ints W (.slice (some ⟨g, 0, none⟩) (n + 1) cp) R := ints_of_owns (by rw [hRl]; exact owns_below HO.out hb)
              refine (next_any h1 xs (by have := HN.out.1; omega) (by rw [hRl, HN.out.1]) (fun j => by have := HRb.out j; omega)).mono ?_
              rintro e w' ⟨v, rfl, h2, h3⟩
              obtain ⟨ad', cp', rfl⟩ := owns_slice h2
              rw [← HN.out.1] at h2 ⊢
              refine ⟨ad', cp', rfl, ?_, h3⟩
              rw [HRR.out.1, ← hxs', nextT_row, ← take_next B.data.toList i (by rw [ba_length]; exact hiB)] at h2
              exact owns_mono h2 (Nat.le_trans HB.out.size hb.size)
            have HXS := Lib.hid hxs
            clear hxs hxs' him
            go_wp2_with (first
              | (go_at_call 15; (with_reducible refine (QB.out _).mono ?_); rintro e w4 ⟨bv, rfl, ho4, hb4⟩)
              | (go_at_call 14; first
                  | ((with_reducible refine (QN.out _ _ _ hb4 ho4).mono ?_); rintro e w5 ⟨rfl, hb5⟩; have HB5 := Lib.hid (hb4.trans (hb5.mono hb4.size)))
                  | ((with_reducible refine (QN2.out _ _ _ HB8.out HO8.out).mono ?_); rintro e w9 ⟨rfl, hb9⟩))
              | (go_at_call 16; rw [HXS.out]; (with_reducible refine (QY.out _ HB7.out).mono ?_); rintro e w8 ⟨ad8, cp8, rfl, ho8, hb8⟩; have HB8 := Lib.hid (HB7.out.trans (hb8.mono HB7.out.size)); have HO8 := Lib.hid (owns_below HO7.out hb8))
              | (at_builtin; refine wpList_append_own _ rfl _ _ 27 rfl w5.heap.size 3 j8 (.int .i64 0) 1 8 Try.underlying27 HJ.out.1 HJ.out.2.1 HJ.out.2.2.1 HJ.out.2.2.2 rfl (by decide) _ _ _ rfl (World.ownsRow_lit w5 #[] 0 (Nat.le_refl _) (by decide) rfl) ⟨g, 0, none⟩ (n + 1) cp (nats R) rfl (by rw [nats_length, hRl]; omega) (nats_cells (owns_below (owns_below HO.out HB5.out) (below_alloc w5 _)) hRl) nats_one (by unfold maxLen; omega) (by omega) (by simp) ?_; intro v' w7 hown7 hg7 _; have HO7 : Hid (w7.ownsRow w5.heap.size 3 1 v' (n + 1) (nats R)) := Lib.hid (by have h := hown7; rw [Nat.zero_add, show (#[] : Array Value).toList ++ nats R = nats R from List.nil_append _] at h; exact h); have HB7 : Hid (Below wo.heap.size wo w7) := Lib.hid (below_lit HB5.out hg7)))
            exact ⟨⟨i + 1, ad8, cp8, by omega, by go_num, rfl, Lib.hid (owns_below ho8 hb9), Lib.hid (HB.out.trans ((HB8.out.trans (hb9.mono HB8.out.size)).mono HB.out.size))⟩, by simp [intOf]; omega⟩
          · have d6 : decide ((i : Int) < (m : Int)) = false := decide_eq_false (by omega)
            have d7 : decide (i < m) = false := decide_eq_false him
            have hno : i = m := by omega
            have HI := Lib.hid hno
            clear him hno hRl
            go_wp2_with (first
              | (go_at_call 15; (with_reducible refine (QB.out _).mono ?_); rintro e w4 ⟨bv, rfl, ho4, hb4⟩)
              | (go_at_call 14; (with_reducible refine (QN.out _ _ _ hb4 ho4).mono ?_); rintro e w5 ⟨rfl, hb5⟩))
            have HB5 := Lib.hid (hb4.trans (hb5.mono hb4.size))
            exact ⟨⟨i + 1, ad, cp, by omega, by go_num, rfl, Lib.hid (by
              rw [show B.data.toList.take (i + 1) = B.data.toList.take i by
                rw [List.take_of_length_le (by rw [ba_length]; have := HN.out; have := HI.out; omega), List.take_of_length_le (by rw [ba_length]; have := HN.out; have := HI.out; omega)], ← HRR.out.1]
              exact owns_below HO.out HB5.out), Lib.hid (HB.out.trans (HB5.out.mono HB.out.size))⟩, by simp [intOf]; omega⟩
        · have d1 : decide ((i : Int) ≤ (m : Int)) = false := decide_eq_false (by omega)
          have d2 : decide (i ≤ m) = false := decide_eq_false hlt
          have hie : i = m + 1 := by omega
          obtain ⟨R, hR⟩ : ∃ R, R = rowT A.data.toList (B.data.toList.take i) := ⟨_, rfl⟩
          rw [← hR] at HO
          have hRl : R.length = n + 1 := by rw [hR]; exact HRL.out _
          have QNN : Hid (∀ W0 W v, W.ownsRow W0 3 1 v (n + 2) (nats R ++ [.int .i64 ((1 : Nat) : Int)]) → Calls Try.prog 16 #[.string A, v, .int .u8 120] W fun e w' => e = .returned (.slice none 0 0) ∧ Below W.heap.size W w') := Lib.hid fun W0 W v hv => by
            have e : nats R ++ [.int .i64 ((1 : Nat) : Int)] = nats (R ++ [1]) := by simp [nats]
            rw [e] at hv
            have h1 : Ints W v (R ++ [1]) := ints_of_owns (by rw [List.length_append, hRl]; exact hv)
            exact next_none h1 120 (by have := HN.out.1; omega) (by rw [List.length_append, hRl]; simp; omega) (by rw [List.length_append, hRl]; simp; have := HN.out.1; omega)
          have QW := Lib.hid works_any
          clear hlt hie hR hRl
          go_wp2_with (first
            | (at_builtin; refine wpList_append_own _ rfl _ _ 27 rfl w.heap.size 3 j8 (.int .i64 0) 1 8 Try.underlying27 HJ.out.1 HJ.out.2.1 HJ.out.2.2.1 HJ.out.2.2.2 rfl (by decide) _ _ _ rfl (HO.out.alloc _) ⟨wo.heap.size, 0, none⟩ 1 1 [.int .i64 ((1 : Nat) : Int)] rfl rfl (news_one _ _ _) (oneCell_one rfl) (by unfold maxLen; omega) (by omega) (by have := HB.out.size; simp; omega) ?_; intro v' w7 hown7 hg7 _; have HO7 := Lib.hid hown7; have HB7 := Lib.hid (below_app HB.out HO.out hg7))
            | (go_at_call 16; (with_reducible refine (QNN.out _ _ _ HO7.out).mono ?_); rintro e w8 ⟨rfl, hb8⟩; have HB8 := Lib.hid (HB7.out.trans (hb8.mono HB7.out.size)))
            | (go_at_call 17; (with_reducible refine (QW.out _).mono ?_); rintro e w9 ⟨rfl, hb9⟩; have HB9 := Lib.hid (HB8.out.trans (hb9.mono HB8.out.size)))
            | fail)
          go_ret
          exact ⟨rfl, HB9.out⟩
end Go.Proofs.Ytbdbcfidbapioaa
