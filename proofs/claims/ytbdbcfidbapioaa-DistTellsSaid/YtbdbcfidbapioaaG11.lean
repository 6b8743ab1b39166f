/-
  dist.lasts: the table of last letters. dist.backwards: the iterator of a script's letters, from the end on. dist.Script: a range over the letters, from the end on; the row is turned about. The chapter's examples: the statements' works. DistKnown's walk. DistPrunes' walk.
-/
import Derived.Test.YtbdbcfidbapioaaG10
import Derived.Test.YtbdbcfidbapioaaG08
import Derived.Deep.CutBlock
import Derived.Test.YtbdbcfidbapioaaG01
set_option linter.unusedVariables false
set_option linter.unusedSimpArgs false
namespace Go.Proofs.Ytbdbcfidbapioaa
open Go.RowKit Go.Shelf Said

theorem iRow8 : (Try.prog.info? 35).map (fun i => (i.zero, i.size, i.bytes)) = some (some (.slice none 0 0), 1, 24) := by kernel_rfl
theorem iByte3 : (Try.prog.info? 5).map (fun i => (i.zero, i.size, i.bytes)) = some (some (.int .u8 0), 1, 1) := by kernel_rfl

/-- The last letters behind j bytes of b. -/
def lrow (a b : List UInt8) (j : Nat) : List UInt8 := (List.range (a.length + 1)).map fun i => letterT a b i j
theorem lrow_length (a b : List UInt8) (j : Nat) : (lrow a b j).length = a.length + 1 := by simp [lrow]
theorem lrow_at (a b : List UInt8) (j i : Nat) (h : i ≤ a.length) : (lrow a b j).getD i 0 = letterT a b i j := by
  unfold lrow
  rw [List.getD_eq_getElem?_getD, List.getElem?_map, List.getElem?_range (by omega)]
  rfl
theorem lrow_zero (a b : List UInt8) : lrow a b 0 = List.replicate (a.length + 1) 45 := by
  unfold lrow
  apply List.ext_getElem
  · simp
  · intro i h1 h2
    simp [letterT]
/-- The row of letters that is being made: those up to the place k are there. -/
def lrowK (a b : List UInt8) (j k : Nat) : List UInt8 := (List.range (a.length + 1)).map fun i => if i ≤ k then letterT a b i j else 0
theorem lrowK_length (a b : List UInt8) (j k : Nat) : (lrowK a b j k).length = a.length + 1 := by simp [lrowK]
theorem lrowK_all (a b : List UInt8) (j : Nat) : lrowK a b j a.length = lrow a b j := by
  unfold lrowK lrow
  apply List.map_congr_left
  intro i hi
  rw [if_pos (by have := List.mem_range.1 hi; omega)]
theorem lrowK_set (a b : List UInt8) (j k : Nat) : (lrowK a b j k).set (k + 1) (letterT a b (k + 1) j) = lrowK a b j (k + 1) := by
  unfold lrowK
  apply List.ext_getElem
  · simp
  · intro i h1 h2
    simp only [List.length_set, List.length_map, List.length_range] at h1
    by_cases e : k + 1 = i
    · subst e
      simp
    · rw [List.getElem_set_ne e]
      simp only [List.getElem_map, List.getElem_range]
      by_cases h : i ≤ k
      · rw [if_pos h, if_pos (by omega)]
      · rw [if_neg h, if_neg (by omega)]
theorem lrowK_zero (a b : List UInt8) (j : Nat) : (List.replicate (a.length + 1) 0).set 0 43 = lrowK a b (j + 1) 0 := by
  unfold lrowK
  apply List.ext_getElem
  · simp
  · intro i h1 h2
    by_cases e : 0 = i
    · subst e
      simp [letterT]
    · rw [List.getElem_set_ne e]
      simp
      omega
theorem letter_last (a b : List UInt8) (i j : Nat) : lastT (a.getD i 0) (b.getD j 0) (dd a b i j) (dd a b i (j + 1)) (dd a b (i + 1) (j + 1)) = letterT a b (i + 1) (j + 1) := by
  unfold lastT letterT
  rw [if_neg (by omega : ¬ j + 1 = 0), if_neg (by omega : ¬ i + 1 = 0)]
  simp only [Nat.add_sub_cancel]
theorem rowT_dd (a b : List UInt8) (i j : Nat) (h : i ≤ a.length) : (rowT a (b.take j)).getD i 0 = dd a b i j := by
  rw [rowT_at h]
  rfl

theorem ints_two {w : World} {base g n cap : Nat} {l : List Nat} (h : w.ownsRow base 3 1 (.slice (some ⟨g, 0, none⟩) n cap) n (nats l)) (hl : l.length = n) (k : Nat) (hk : k + 1 < n) (c : Nat) : Ints w (.slice (some ⟨g, k, none⟩) 2 c) [l.getD k 0, l.getD (k + 1) 0] := by
  refine ⟨_, c, rfl, fun i hi => ⟨g, k, rfl, ?_⟩⟩
  simp only [List.length_cons, List.length_nil] at hi
  rw [h.cellAt (k + i) (by omega), nats_at (by omega)]
  rcases (show i = 0 ∨ i = 1 by omega) with rfl | rfl <;> simp

/-- The table in memory: its first rows. -/
structure TabI (a b : List UInt8) (base : Nat) (tv : Value) (k : Nat) (vs : List Value) (W : World) : Prop where
  own : W.ownsRow base 35 1 tv k vs
  row : ∀ j, j < k → ∃ v, vs[j]? = some v ∧ BRow W base v (lrow a b j)
theorem TabI.below {a b : List UInt8} {base k : Nat} {tv : Value} {vs : List Value} {W W' : World} (h : TabI a b base tv k vs W) (hb : Below W.heap.size W W') : TabI a b base tv k vs W' :=
  ⟨owns_below h.own hb, fun j hj => by
    obtain ⟨v, h1, h2⟩ := h.row j hj
    exact ⟨v, h1, h2.below hb⟩⟩
theorem brow_of_owns {W : World} {base : Nat} {v : Value} {l : List UInt8} (h : W.ownsRow base 5 1 v l.length (bys l)) (hl : 0 < l.length) : BRow W base v l := by
  rcases h.2 with ⟨_, h0⟩ | ⟨g, cap, cur, rfl, hb, hg, _, _, _, ht⟩
  · omega
  · refine ⟨g, cap, cur, rfl, hb, hg, fun i hi => ?_⟩
    have hx := bys_at hi
    rw [← ht, List.getElem?_take] at hx
    split at hx
    · rw [Array.getElem?_toList] at hx
      exact hx
    · cases hx
theorem BRow.mono {w : World} {base base' : Nat} {v : Value} {l : List UInt8} (h : BRow w base v l) (hb : base' ≤ base) : BRow w base' v l := by
  obtain ⟨g, c, cur, rfl, hg, hh, hc⟩ := h
  exact ⟨g, c, cur, rfl, Nat.le_trans hb hg, hh, hc⟩
/-- A row more. -/
theorem TabI.more {a b : List UInt8} {base k : Nat} {tv tv' v : Value} {vs : List Value} {W W' : World} (h : TabI a b base tv k vs W) (ho : W'.ownsRow base 35 1 tv' (k + 1) (vs ++ [v])) (hg : W.grownBy W' tv.ownBlock) (hv : BRow W base v (lrow a b k)) : TabI a b base tv' (k + 1) (vs ++ [v]) W' := by
  have off : OffT W tv.ownBlock 5 := off_cells (owns_cells h.own) (by decide)
  have kp : ∀ {u : Value} {l : List UInt8}, BRow W base u l → BRow W' base u l := fun {u l} hu => by
    refine hu.same fun g o _ hh => ?_
    obtain ⟨g', c, cur, rfl, _, hh', _⟩ := hu
    cases ‹(Value.slice (some ⟨g', 0, none⟩) l.length c).ownBlock = some g›
    rw [hh'] at hh
    cases hh
    exact (hg.block g' (Array.getElem?_eq_some_iff.1 hh').1 (fun e => off g' _ _ e.symm hh')).trans hh'
  have hlen : vs.length = k := by have := h.own.1; omega
  refine ⟨ho, fun j hj => ?_⟩
  by_cases hjk : j < k
  · obtain ⟨u, h1, h2⟩ := h.row j hjk
    exact ⟨u, by rw [List.getElem?_append_left (by omega)]; exact h1, kp h2⟩
  · obtain rfl : j = k := by omega
    exact ⟨v, by rw [List.getElem?_append_right (by omega), hlen]; simp, kp hv⟩

theorem news_one (w : World) (v : Value) (t : TypeId) : ∀ (j : Nat) (u : Value), [v][j]? = some u → (w.alloc (.cells #[v] t)).cell? ((⟨w.heap.size, 0, none⟩ : Addr).add j) = some u := by
  intro j u hj
  cases j with
  | zero => simp at hj; subst hj; simp [go_sem, Addr.add]
  | succ j => simp at hj
theorem oneCell_one {v : Value} (h : v.oneCell' = true) : ∀ u ∈ [v], u.oneCell' = true := by
  intro u hu
  rw [List.mem_singleton.1 hu]
  exact h

set_option maxHeartbeats 4000000 in
set_option maxRecDepth 100000 in
theorem lasts_any (a b : ByteArray) (w : World) (ha : a.size ≤ 1000) (hb : b.size ≤ 1000) :
    Calls Try.prog 28 #[.string a, .string b] w fun e w' => ∃ tv vs, e = .returned tv ∧ TabI a.data.toList b.data.toList w.heap.size tv (b.size + 1) vs w' ∧ Below w.heap.size w w' := by
  obtain ⟨n, hn⟩ : ∃ n, n = a.size := ⟨_, rfl⟩
  obtain ⟨m, hm⟩ : ∃ m, m = b.size := ⟨_, rfl⟩
  have QR := Lib.hid (row_any a w (by omega))
  have HN := Lib.hid (And.intro hn hm)
  have QP : Hid (∀ W s, W.heap[s]? = some (.cells #[.int .u8 ((45 : UInt8).toNat : Int)] 5 (0, 0)) → Calls Try.prog 30 #[.slice (some ⟨s, 0, none⟩) 1 1, .int .i64 ((n + 1 : Nat) : Int)] W fun e w' => ∃ v, e = .returned v ∧ BRow w' W.heap.size v (List.replicate (n + 1) 45) ∧ Below W.heap.size W w') := Lib.hid fun W s hs => repeat_any hs (by omega) (by omega)
  rw [← hn] at ha QR
  rw [← hm] at hb ⊢
  have es : (a.size : Int) = (n : Int) := by rw [hn]
  have et : (b.size : Int) = (m : Int) := by rw [hm]
  clear hn hm
  go_enter Try.func28, Try.ntmps28
  go_wp2_with (first
    | (go_at_call 13; (with_reducible refine QR.out.mono ?_); rintro e w1 ⟨rv, rfl, hrow, hb1⟩; obtain ⟨ad, cp, hv⟩ := owns_slice hrow; subst hv)
    | (go_at_call 30; (refine (QP.out _ w1.heap.size (heap_alloc_new w1 _)).mono ?_); rintro e w2 ⟨lv, rfl, hlv, hb2⟩; obtain ⟨lg, lc, lcur, hlvv, hlg, hlh, hlr⟩ := id hlv; subst hlvv; rw [List.length_replicate] at hlv ⊢))
  obtain ⟨i8, hi, hz0, hz1, hz2⟩ := info_parts iRow8
  have HI := Lib.hid (And.intro hi (And.intro hz0 (And.intro hz1 hz2)))
  obtain ⟨j8, gi, gz0, gz1, gz2⟩ := info_parts iByte3
  have HJ := Lib.hid (And.intro gi (And.intro gz0 (And.intro gz1 gz2)))
  have h12 : Below w1.heap.size w1 w2 := (below_alloc w1 _).trans (hb2.mono (by simp))
  have hb20 : Below w.heap.size w w2 := hb1.trans (h12.mono hb1.size)
  obtain ⟨W3, hW3⟩ : ∃ W3, W3 = w2.alloc (.cells #[.slice (some ⟨lg, 0, none⟩) (n + 1) lc] 35) := ⟨_, rfl⟩
  have hb3 : Below w2.heap.size w2 W3 := by rw [hW3]; exact below_alloc w2 _
  have hr3 : W3.ownsRow w.heap.size 3 1 (.slice ad (n + 1) cp) (n + 1) (nats (rowT a.data.toList (b.data.toList.take 0))) := by
    rw [List.take_zero, rowT_nil, ba_length, ← HN.out.1]
    exact owns_below (owns_below hrow h12) hb3
  have ht3 : TabI a.data.toList b.data.toList w.heap.size (.slice (some ⟨w2.heap.size, 0, none⟩) 1 1) 1 [.slice (some ⟨lg, 0, none⟩) (n + 1) lc] W3 := by
    refine ⟨?_, fun j hj => ?_⟩
    · rw [hW3]
      exact World.ownsRow_lit w2 #[_] 1 hb20.size (by unfold maxLen; omega) rfl
    · obtain rfl : j = 0 := by omega
      refine ⟨_, rfl, ?_⟩
      rw [lrow_zero, ba_length, ← HN.out.1]
      refine (BRow.mono ?_ (show w.heap.size ≤ (w1.alloc (.cells #[.int .u8 ((45 : UInt8).toNat : Int)] 5)).heap.size by have := hb1.size; simp; omega)).below hb3
      exact hlv
  obtain ⟨gt, hgt⟩ : ∃ gt, gt = w2.heap.size := ⟨_, rfl⟩
  have HT3 := Lib.hid (And.intro hr3 (And.intro ht3 (hb20.trans (hb3.mono hb20.size))))
  rw [← hgt] at HT3 ⊢
  clear hrow hb1 hlv hb2 hlg hlh hlr h12 hb20 hb3 hr3 ht3 QR QP hi hz0 hz1 hz2 gi gz0 gz1 gz2
  go_upto_block 0 with fail
  rw [← hW3]
  clear hW3 hgt
  go_loopw [5, 6, 20] (fun s5 s6 s20 wr => ∃ (i : Nat) (ad : Option Addr) (cp : Nat) (td : Option Addr) (tp : Nat) (vs : List Value), i ≤ m ∧ s20 = .int .i64 (i : Int) ∧ s5 = .slice ad (n + 1) cp ∧ s6 = .slice td (i + 1) tp ∧ Hid (wr.ownsRow w.heap.size 3 1 (.slice ad (n + 1) cp) (n + 1) (nats (rowT a.data.toList (b.data.toList.take i)))) ∧ Hid (TabI a.data.toList b.data.toList w.heap.size (.slice td (i + 1) tp) (i + 1) vs wr) ∧ Hid (Below w.heap.size w wr)) (fun _ _ s20 _ => m - (intOf s20).toNat)
  case atStart => exact ⟨0, ad, cp, some ⟨gt, 0, none⟩, 1, _, Nat.zero_le _, rfl, rfl, rfl, Lib.hid HT3.out.1, Lib.hid HT3.out.2.1, Lib.hid HT3.out.2.2⟩
  case round =>
    obtain ⟨i, ad, cp, td, tp, vs, hi, rfl, rfl, rfl, HR, HT, HB⟩ := hrel
    by_cases hlt : i < m
    · have e1 : decide ((i : Int) < (m : Int)) = true := decide_eq_true (by omega)
      have e2 : decide (i < m) = true := decide_eq_true hlt
      have hib : i < b.size := by rw [← HN.out.2]; exact hlt
      have il : (i : Int) < (m : Int) := by omega
      obtain ⟨x, hx⟩ : ∃ x, b[i] = x := ⟨_, rfl⟩
      have hx' : b.data.toList.getD i 0 = x := by rw [byte_getD b i hib]; exact hx
      have QX : Hid (Calls Try.prog 16 #[.string a, .slice ad (n + 1) cp, .int .u8 (x.toNat : Int)] wr fun e w' => ∃ v, e = .returned v ∧ w'.ownsRow wr.heap.size 3 1 v (n + 1) (nats (rowT a.data.toList (b.data.toList.take (i + 1)))) ∧ Below wr.heap.size wr w') := Lib.hid (by
        have hlen : (rowT a.data.toList (b.data.toList.take i)).length = n + 1 := by rw [rowT_length, ba_length, HN.out.1]
        have hin : Ints wr (.slice ad (n + 1) cp) (rowT a.data.toList (b.data.toList.take i)) := ints_of_owns (by rw [hlen]; exact HR.out)
        have h := next_any (q := a) hin x (by have := HN.out.1; omega) (by rw [hlen, HN.out.1]) (fun t => Nat.le_trans (rowT_bound _ _ t) (by
          rw [ba_length]
          have h1 : (b.data.toList.take i).length ≤ b.data.toList.length := List.length_take_le' _ _
          rw [ba_length] at h1
          have := HN.out
          omega))
        rw [nextT_row, ← hx', ← take_next b.data.toList i (by rw [ba_length]; exact hib), ← HN.out.1] at h
        rw [hx'] at h
        exact h)
      have HX := Lib.hid (And.intro hx hx')
      clear hx hx'
      go_upto_region 8 with (first
        | (go_at_call 16; rw [HX.out.1]; (with_reducible refine QX.out.mono ?_); rintro e w1 ⟨nv, rfl, hnx, hb1⟩; obtain ⟨nd, np, hnv⟩ := owns_slice hnx; subst hnv)
        | (refine wpList_make_full _ rfl _ _ 35 rfl w1.heap.size 5 j8 (.int .u8 0) 1 Try.underlying35 HJ.out.1 HJ.out.2.1 HJ.out.2.2.1 .i64 .i64 _ _ (n + 1) rfl rfl (by first | rfl | go_num) (by first | rfl | go_num) (by rw [HJ.out.2.2.2]; omega) (by unfold maxLen; omega) (Nat.le_refl _) ?_; intro w2 hl2 hg2))
      obtain ⟨gl, hgl⟩ : ∃ gl, gl = w1.heap.size := ⟨_, rfl⟩
      have hl0 : w2.ownsRow gl 5 1 (.slice (some ⟨gl, 0, none⟩) (n + 1) (n + 1)) (n + 1) (bys (List.replicate (n + 1) 0)) := by
        have e : (madeCells (Value.int .u8 0).cells ((n + 1) * 1)).toList = bys (List.replicate (n + 1) 0) := by
          rw [show (Value.int .u8 0).cells = #[.int .u8 0] from rfl, toList_madeCells_one, Nat.mul_one]
          simp [bys]
        rw [e, ← hgl] at hl2
        exact hl2
      have kl : w2.cell? ⟨gl, 0, none⟩ = some (.int .u8 0) := by
        rw [hl0.cellAt 0 (by omega), bys_at (by simp)]
        simp [List.getD]
      have fl : w2.frozen? ⟨gl, 0, none⟩ = false := hl0.frozenAt 0
      have hst := hl0.stored 0 (.int .u8 ((43 : UInt8).toNat : Int))
      rw [bys_set] at hst
      have HL5 : Hid ((w2.setCell ⟨gl, 0, none⟩ (.int .u8 43)).ownsRow gl 5 1 (.slice (some ⟨gl, 0, none⟩) (n + 1) (n + 1)) (n + 1) (bys (lrowK a.data.toList b.data.toList (i + 1) 0))) := Lib.hid (by
        rw [← lrowK_zero, ba_length, ← HN.out.1]
        exact hst.1)
      have hb12 : Below w1.heap.size w1 w2 := (Below.refl _ w1).grown hg2 (Nat.le_refl _) (fun k e => by cases e)
      have HB5 : Hid (Below w1.heap.size w1 (w2.setCell ⟨gl, 0, none⟩ (.int .u8 43))) := Lib.hid (hb12.setCell (p := ⟨gl, 0, none⟩) (by rw [hgl]; exact Nat.le_refl _) _)
      have H1 : Hid (w1.ownsRow w.heap.size 3 1 (.slice ad (n + 1) cp) (n + 1) (nats (rowT a.data.toList (b.data.toList.take i))) ∧ w1.ownsRow w.heap.size 3 1 (.slice nd (n + 1) np) (n + 1) (nats (rowT a.data.toList (b.data.toList.take (i + 1)))) ∧ TabI a.data.toList b.data.toList w.heap.size (.slice td (i + 1) tp) (i + 1) vs w1 ∧ Below w.heap.size w w1) := Lib.hid ⟨owns_below HR.out hb1, owns_mono hnx HB.out.size, HT.out.below hb1, HB.out.trans (hb1.mono HB.out.size)⟩
      have HGL := Lib.hid hgl
      clear hl2 hg2 hl0 hst hb12 hnx hb1 QX HR HT HB e1 e2
      obtain ⟨g1, rfl⟩ : ∃ g1, ad = some ⟨g1, 0, none⟩ := by
        rcases H1.out.1.2 with ⟨h1, h0⟩ | ⟨g, cap, cur, h1, _⟩
        · omega
        · injection h1 with h1; exact ⟨g, h1⟩
      obtain ⟨g2, rfl⟩ : ∃ g2, nd = some ⟨g2, 0, none⟩ := by
        rcases H1.out.2.1.2 with ⟨h1, h0⟩ | ⟨g, cap, cur, h1, _⟩
        · omega
        · injection h1 with h1; exact ⟨g, h1⟩
      have hcp : n + 1 ≤ cp ∧ n + 1 ≤ np := by
        constructor
        · rcases H1.out.1.2 with ⟨h1, h0⟩ | ⟨g, cap, cur, h1, _, _, h2, _⟩
          · omega
          · injection h1 with _ _ h1; omega
        · rcases H1.out.2.1.2 with ⟨h1, h0⟩ | ⟨g, cap, cur, h1, _, _, h2, _⟩
          · omega
          · injection h1 with _ _ h1; omega
      rw [← hgl]
      clear hgl
      go_wp2
      go_loopw [36] (fun s36 w6 => ∃ k : Nat, k ≤ n ∧ s36 = .int .i64 (k : Int) ∧ Hid (w6.ownsRow gl 5 1 (.slice (some ⟨gl, 0, none⟩) (n + 1) (n + 1)) (n + 1) (bys (lrowK a.data.toList b.data.toList (i + 1) k))) ∧ Hid (Below w1.heap.size w1 w6)) (fun s36 _ => n - (intOf s36).toNat)
      case atStart => exact ⟨0, Nat.zero_le _, rfl, HL5, HB5⟩
      case round =>
        obtain ⟨k, hk, rfl, HL6, HB6⟩ := hrel
        by_cases hkn : k < n
        · have d1 : decide ((k : Int) < (n : Int)) = true := decide_eq_true (by omega)
          have d2 : decide (k < n) = true := decide_eq_true hkn
          have hka : k < a.size := by rw [← HN.out.1]; exact hkn
          obtain ⟨y, hy⟩ : ∃ y, a[k] = y := ⟨_, rfl⟩
          have hy' : a.data.toList.getD k 0 = y := by rw [byte_getD a k hka]; exact hy
          obtain ⟨z, hz⟩ : ∃ z, letterT a.data.toList b.data.toList (k + 1) (i + 1) = z := ⟨_, rfl⟩
          have QZ : Hid (∀ W, Below wr.heap.size wr W → Calls Try.prog 31 #[.int .u8 (y.toNat : Int), .int .u8 (x.toNat : Int), .slice (some ⟨g1, k, none⟩) 2 (cp - k), .slice (some ⟨g2, k, none⟩) 2 (np - k)] W fun e w' => e = .returned (.int .u8 (z.toNat : Int)) ∧ Below W.heap.size W w') := Lib.hid fun W hb => by
            have hW : Below w1.heap.size w1 W := HB6.out.trans (hb.mono HB6.out.size)
            have hl1 : (rowT a.data.toList (b.data.toList.take i)).length = n + 1 := by rw [rowT_length, ba_length, HN.out.1]
            have hl2 : (rowT a.data.toList (b.data.toList.take (i + 1))).length = n + 1 := by rw [rowT_length, ba_length, HN.out.1]
            have r1 := ints_two (owns_below H1.out.1 hW) hl1 k (by omega) (cp - k)
            have r2 := ints_two (owns_below H1.out.2.1 hW) hl2 k (by omega) (np - k)
            rw [rowT_dd _ _ _ _ (by rw [ba_length]; omega), rowT_dd _ _ _ _ (by rw [ba_length]; omega)] at r1 r2
            have bd := fun t u => Nat.le_trans (dd_bound a.data.toList b.data.toList t u) (show a.data.toList.length + b.data.toList.length ≤ 1000000 by rw [ba_length, ba_length]; have := HN.out; omega)
            have h := last_any (x := y) (y := x) r1 r2 (bd _ _) (bd _ _)
            rw [← hy', ← HX.out.2, letter_last, hz] at h
            rw [hy', HX.out.2] at h
            exact h
          have hw1 : IntKind.i64.wrap ((k : Int) + 1) = (k : Int) + 1 := IntWalk.i64_in _ (by omega)
          have hw2 : IntKind.i64.wrap ((k : Int) + 2) = (k : Int) + 2 := IntWalk.i64_in _ (by omega)
          have kn1 : ¬ cp = k := by omega
          have kn2 : ¬ np = k := by omega
          have j0 : (0 : Int) ≤ (k : Int) + 2 := by omega
          have j1 : (k : Int) + 2 ≤ (cp : Int) := by omega
          have j2 : (k : Int) + 2 ≤ (np : Int) := by omega
          have j3 : ((k : Int) + 2).toNat = k + 2 := by omega
          have j4 : k ≤ k + 2 := by omega
          have ib : (i : Int) < (m : Int) := il
          have ia : (k : Int) < (n : Int) := by omega
          have HZ := Lib.hid (And.intro hy (And.intro hy' (And.intro hz hka)))
          have kz : Hid (∀ W, Below wr.heap.size wr W → W.frozen? ⟨gl, k + 1, none⟩ = false ∧ W.cell? ⟨gl, k + 1, none⟩ = some (.int .u8 (((lrowK a.data.toList b.data.toList (i + 1) k).getD (k + 1) 0).toNat : Int))) := Lib.hid fun W hb => by
            have ho := owns_below HL6.out hb
            refine ⟨ho.frozenAt (k + 1), ?_⟩
            rw [ho.cellAt (k + 1) (by omega), bys_at (by rw [lrowK_length, ba_length, ← HN.out.1]; omega)]
          clear hy hy' hz
          go_upto_region 12 with fail
          refine Said.region_tail (by kernel_rfl) 21 (by kernel_rfl) (by kernel_rfl) (by kernel_rfl) [.is (.slice (some ⟨gl, 0, none⟩) (n + 1) (n + 1)), .is (.int .i64 (k : Int)), .is (.int .i64 ((k : Int) + 1)), .is (.string a), .is (.int .i64 (k : Int)), .is (.int .u8 (y.toNat : Int)), .is (.string b), .is (.int .i64 (i : Int)), .is (.int .u8 (x.toNat : Int)),
            .is (.slice (some ⟨g1, 0, none⟩) (n + 1) cp), .is (.int .i64 (k : Int)), .is (.int .i64 (k : Int)), .is (.int .i64 ((k : Int) + 2)), .is (.slice (some ⟨g1, k, none⟩) 2 (cp - k)),
            .is (.slice (some ⟨g2, 0, none⟩) (n + 1) np), .is (.int .i64 (k : Int)), .is (.int .i64 (k : Int)), .is (.int .i64 ((k : Int) + 2)), .is (.slice (some ⟨g2, k, none⟩) 2 (np - k)),
            .is (.int .u8 (z.toNat : Int)), .is (.pointer (some ⟨gl, k + 1, none⟩))] ?_
          simp only [List.toList_toArray, List.take_succ_cons, List.take_zero, List.drop_succ_cons, List.drop_zero]
          iterate 19 (
            refine sq_pure (by rfl) (fun W hb _ => ?_) ?_
            · have t1 := HZ.out.1
              have t2 := HX.out.1
              have t3 := HZ.out.2.2.2
              go_simp
              all_goals first | done | omega | (rw [← t1]; rfl) | (rw [← t2]; rfl)
            simp only [Act.put, List.setIfInBounds_toArray, List.set_cons_zero, List.set_cons_succ])
          refine sq_call (f := 31) (args := #[.int .u8 (y.toNat : Int), .int .u8 (x.toNat : Int), .slice (some ⟨g1, k, none⟩) 2 (cp - k), .slice (some ⟨g2, k, none⟩) 2 (np - k)]) (by rfl) (fun W => by go_simp) (fun W hb _ => QZ.out W hb) ?_
          simp only [Act.put, List.setIfInBounds_toArray, List.set_cons_zero, List.set_cons_succ]
          refine sq_pure (by rfl) (fun W hb _ => by (go_simp; all_goals first | done | omega)) ?_
          simp only [Act.put, List.setIfInBounds_toArray, List.set_cons_zero, List.set_cons_succ]
          refine sq_end (fun W9 hb9 hK9 => ?_)
          obtain ⟨f9, c9⟩ := kz.out W9 hb9
          have HS9 := Lib.hid ((owns_below HL6.out hb9).stored (k + 1) (.int .u8 (z.toNat : Int)))
          have HB9 := Lib.hid (HB6.out.trans (hb9.mono HB6.out.size))
          clear hK9 hb9 hw1 hw2 kn1 kn2 j0 j1 j2 j3 j4
          go_wp2
          exact ⟨⟨k + 1, by omega, by go_num, Lib.hid (by
            have h9 := HS9.out.1
            rw [bys_set, ← HZ.out.2.2.1, lrowK_set] at h9
            rw [HZ.out.2.2.1] at *
            exact h9), Lib.hid (HB9.out.setCell (p := ⟨gl, k + 1, none⟩) (by rw [HGL.out]; exact Nat.le_refl _) _)⟩, by simp [intOf]; omega⟩
        · have hke : k = n := by omega
          have d1 : decide ((k : Int) < (n : Int)) = false := decide_eq_false (by omega)
          have d2 : decide (k < n) = false := decide_eq_false hkn
          have hbr : BRow wr w.heap.size (.slice (some ⟨gl, 0, none⟩) (n + 1) (n + 1)) (lrow a.data.toList b.data.toList (i + 1)) := by
            refine BRow.mono (brow_of_owns ?_ (by rw [lrow_length]; omega)) (show w.heap.size ≤ gl by rw [HGL.out]; exact H1.out.2.2.2.size)
            have h9 := HL6.out
            rw [hke, HN.out.1, show a.size = a.data.toList.length from (ba_length a).symm, lrowK_all] at h9
            rw [lrow_length, ba_length, ← HN.out.1]
            rw [ba_length, ← HN.out.1] at h9
            exact h9
          have HBR := Lib.hid hbr
          have HT6 := Lib.hid (H1.out.2.2.1.below HB6.out)
          have HR6 := Lib.hid (owns_below H1.out.2.1 HB6.out)
          have HW6 := Lib.hid (H1.out.2.2.2.trans (HB6.out.mono H1.out.2.2.2.size))
          have HBS : Hid (w.heap.size ≤ (wr.alloc (.cells #[.slice (some ⟨gl, 0, none⟩) (n + 1) (n + 1)] 35)).heap.size) := Lib.hid (by have := HW6.out.size; simp; omega)
          clear hke hkn hbr
          go_wp2_with (at_builtin; refine wpList_append_own _ rfl _ _ 56 rfl w.heap.size 35 i8 (.slice none 0 0) 1 24 Try.underlying56 HI.out.1 HI.out.2.1 HI.out.2.2.1 HI.out.2.2.2 rfl (by decide) _ _ _ rfl (HT6.out.own.alloc _) ⟨wr.heap.size, 0, none⟩ 1 1 [.slice (some ⟨gl, 0, none⟩) (n + 1) (n + 1)] rfl rfl (news_one _ _ _) (oneCell_one rfl) (by unfold maxLen; omega) (by omega) HBS.out ?_; intro v' w7 hown7 hg7 _; obtain ⟨td', tp', hv7⟩ := owns_slice hown7; subst hv7)
          have HM := Lib.hid ((HT6.out.below (below_alloc wr _)).more hown7 hg7 (HBR.out.below (below_alloc wr _)))
          have hb7 : Below wr.heap.size wr (wr.alloc (.cells #[.slice (some ⟨gl, 0, none⟩) (n + 1) (n + 1)] 35)) := below_alloc wr _
          have off7 : OffT (wr.alloc (.cells #[.slice (some ⟨gl, 0, none⟩) (n + 1) (n + 1)] 35)) (Value.slice td (i + 1) tp).ownBlock 3 := off_cells (owns_cells (HT6.out.below (below_alloc wr _)).own) (by decide)
          have HR7 := Lib.hid (owns_off (owns_below HR6.out hb7) hg7 off7)
          have HW7 := Lib.hid ((HW6.out.trans (hb7.mono HW6.out.size)).grown hg7 HBS.out (fun k e => (owns_cells (HT6.out.below hb7).own k e).1))
          clear hown7 hg7 hb7 off7
          go_wp2
          exact ⟨⟨i + 1, some ⟨g2, 0, none⟩, np, td', tp', _, by omega, by go_num, rfl, rfl, Lib.hid HR7.out, Lib.hid HM.out, Lib.hid HW7.out⟩, by simp [intOf]; omega⟩
    · have him : i = m := by omega
      have e1 : decide ((i : Int) < (m : Int)) = false := decide_eq_false (by omega)
      have e2 : decide (i < m) = false := decide_eq_false (by omega)
      have HIM := Lib.hid him
      clear him hlt
      go_wp2
      go_ret
      exact ⟨_, vs, rfl, by rw [← HIM.out]; exact HT.out, HB.out⟩
end Go.Proofs.Ytbdbcfidbapioaa
namespace Go.Proofs.Ytbdbcfidbapioaa
open Go.RowKit Go.Shelf

attribute [local go_sem] Oper.semAt_some

theorem backwards_any (a b : ByteArray) (w : World) :
    Calls Try.prog 21 #[.string a, .string b] w fun e w' => e = .returned (.func (.func 27) #[] #[.pointer (some ⟨w.heap.size, 0, none⟩), .pointer (some ⟨w.heap.size + 1, 0, none⟩)]) ∧ w' = (w.alloc (.cells #[.string a] 9)).alloc (.cells #[.string b] 9) := by
  go_enter Try.func21, Try.ntmps21
  go_wp2
  go_ret
  exact ⟨rfl, rfl⟩

theorem TabI.agree {a b : List UInt8} {base k : Nat} {tv : Value} {vs : List Value} {W W' : World} (h : TabI a b base tv k vs W) (hk : ∀ (g : Nat) cs T fz, base ≤ g → W.heap[g]? = some (.cells cs T fz) → W'.heap[g]? = some (.cells cs T fz)) : TabI a b base tv k vs W' := by
  refine ⟨⟨h.own.1, ?_⟩, fun j hj => ?_⟩
  · rcases h.own.2 with h0 | ⟨g, cap, cur, rfl, hb, hg, h1⟩
    · exact .inl h0
    · exact .inr ⟨g, cap, cur, rfl, hb, hk _ _ _ _ hb hg, h1⟩
  · obtain ⟨v, h1, h2⟩ := h.row j hj
    refine ⟨v, h1, ?_⟩
    obtain ⟨g, c, cur, rfl, hb, hh, hc⟩ := h2
    exact ⟨g, c, cur, rfl, hb, hk _ _ _ _ hb hh, hc⟩
/-- A letter of the table. -/
theorem TabI.cell {a b : List UInt8} {base k n : Nat} {td : Option Addr} {tp : Nat} {vs : List Value} {W : World} (h : TabI a b base (.slice td k tp) k vs W) (hn : n = a.length) (j : Nat) (hj : j < k) : ∃ gt gr c, td = some ⟨gt, 0, none⟩ ∧ W.cell? ⟨gt, j, none⟩ = some (.slice (some ⟨gr, 0, none⟩) (n + 1) c) ∧ ∀ i, i ≤ n → W.cell? ⟨gr, i, none⟩ = some (.int .u8 ((letterT a b i j).toNat : Int)) := by
  obtain ⟨v, h1, g, c, cur, rfl, hb, hh, hc⟩ := h.row j hj
  obtain ⟨gt, rfl⟩ : ∃ gt, td = some ⟨gt, 0, none⟩ := by
    rcases h.own.2 with ⟨h2, h0⟩ | ⟨g, cap, cur, h2, _⟩
    · omega
    · injection h2 with h2; exact ⟨g, h2⟩
  rw [lrow_length, ← hn] at h1
  refine ⟨gt, g, c, rfl, by rw [h.own.cellAt j (by omega)]; exact h1, fun i hi => ?_⟩
  have h3 := hc i (by rw [lrow_length]; omega)
  rw [lrow_at _ _ _ _ (by omega)] at h3
  rw [cell_of_row W g i _ _ _ hh]
  exact h3

/-- What is handed over: the next letter. -/
def LetRd (r : List UInt8) (args : Array Value) : Prop := ∃ x r', r = x :: r' ∧ args = #[.int .u8 (x.toNat : Int)]

set_option maxRecDepth 100000 in
set_option maxHeartbeats 4000000 in
theorem back1_in {σ : Type} (n : Nat) (hn : 1 ≤ n) (l : Nat) {b1 b2 : Nat} {a b : ByteArray} (rest : σ → List UInt8) (foot : σ → Nat → Prop) (J : σ → World → Prop) (Jx : World → Prop) (W : World) {s0 : σ} (ha : a.size ≤ 1000) (hb : b.size ≤ 1000)
    (hJ : ∀ s, Bides W.heap.size (foot s) (J s)) (hm : ∀ s W, J s W → Boxed W b1 9 (.string a) ∧ Boxed W b2 9 (.string b)) (hf0 : ∀ g, foot s0 g → g < W.heap.size)
    (hY : ∀ s args W1, ¬ rest s = [] → LetRd (rest s) args → J s W1 → YieldAt Fence.wide (n - 1) Try.prog l args W1 fun e W' => (e = .returned (.bool true) ∧ (∃ s', (∃ x, rest s = x :: rest s') ∧ (∀ g, foot s' g → foot s g ∨ W1.heap.size ≤ g) ∧ J s' W') ∧ W1.heap.size ≤ W'.heap.size ∧ KeepsX (foot s) W1 W') ∨ (e = .returned (.bool false) ∧ Jx W'))
    (h0 : J s0 W) (hi0 : rest s0 = backT a.data.toList b.data.toList (a.size + b.size) a.size b.size) :
    CallsIn Fence.wide n Try.prog 27 #[.func (.yield l) #[] #[], .pointer (some ⟨b1, 0, none⟩), .pointer (some ⟨b2, 0, none⟩)] W fun e W' => (∃ v, e = .returned v) ∧ ((∃ s, rest s = [] ∧ J s W') ∨ Jx W') := by
  refine callsIn_of_wp Try.func27 rfl trivial ?_ rfl
  simp only [Try.ntmps27, List.size_toArray, List.length_cons, List.length_nil, Nat.reduceAdd, Nat.reduceSub, Array.replicate_succ, Array.replicate_zero, List.push_toArray, List.append_toArray, List.nil_append, List.cons_append]
  have kd := (hm s0 W h0).1.cell
  have kd2 := (hm s0 W h0).2.cell
  have QR := Lib.hid (callsIn_wide (n := n - 1) |>.2 (lasts_any a b W ha hb))
  have bides : ∀ s W' W'', J s W' → W.heap.size ≤ W'.heap.size → Below W'.heap.size W' W'' → J s W'' := fun s W' W'' hj _ hb => hJ s W' W'' none hj ⟨hb.os, hb.tape, hb.output, hb.size, fun k hk _ => hb.block k hk⟩ (fun r e => by cases e)
  obtain ⟨p, hp⟩ : ∃ p, p = a.size := ⟨_, rfl⟩
  obtain ⟨q, hq⟩ : ∃ q, q = b.size := ⟨_, rfl⟩
  have HPQ := Lib.hid (And.intro hp hq)
  rw [← hp] at ha hi0
  rw [← hq] at hb hi0 QR
  have es : (a.size : Int) = (p : Int) := by rw [hp]
  have et : (b.size : Int) = (q : Int) := by rw [hq]
  clear hp hq
  gi_wp2_with (refine ⟨trivial, ?_⟩; gi_at_call 28; go_loud (refine QR.out.mono ?_; rintro e w1 ⟨tv, vs, rfl, htab, hbw⟩; obtain ⟨td, tp, hv⟩ := owns_slice htab.own; subst hv))
  have hJ1 : J s0 w1 := bides s0 W w1 h0 (Nat.le_refl _) hbw
  have c1 := (hm s0 w1 hJ1).1.cell
  have c2 := (hm s0 w1 hJ1).2.cell
  have hz1 := hbw.size
  have HT := Lib.hid htab
  have HJ1 := Lib.hid hJ1
  have HB := Lib.hid bides
  have HM := Lib.hid hm
  have HY := Lib.hid hY
  have hmo : Try.prog.follows .mixedOrders = true := by kernel_rfl
  have HF0 := Lib.hid hf0
  clear htab hbw hJ1 QR kd kd2 hJ bides hm hY h0 hf0
  gi_wp2
  gi_region
  gi_wp2
  gi_loopw [5, 6] (fun s5 s6 wr => ∃ (s : σ) (i j : Nat), i ≤ p ∧ j ≤ q ∧ s5 = .int .i64 (i : Int) ∧ s6 = .int .i64 (j : Int) ∧ Hid (rest s = backT a.data.toList b.data.toList (i + j) i j) ∧ Hid (J s wr) ∧ w1.heap.size ≤ wr.heap.size ∧ Hid (∀ (g : Nat) cs T fz, W.heap.size ≤ g → w1.heap[g]? = some (.cells cs T fz) → wr.heap[g]? = some (.cells cs T fz)) ∧ Hid (∀ g, foot s g → g < W.heap.size ∨ w1.heap.size ≤ g)) (fun s5 s6 _ => (intOf s5).toNat + (intOf s6).toNat)
  case atStart => exact ⟨s0, p, q, Nat.le_refl _, Nat.le_refl _, rfl, rfl, Lib.hid hi0, Lib.hid (HB.out s0 w1 _ HJ1.out hz1 (below_drew w1)), Nat.le_refl _, Lib.hid fun _ _ _ _ _ h => h, Lib.hid fun g hg => .inl (HF0.out g hg)⟩
  case round =>
    obtain ⟨s, i, j, hi, hj, rfl, rfl, HRS, HJ, hwz, HK, HFT⟩ := hrel
    by_cases hij : i = 0 ∧ j = 0
    · have d1 : decide ((0 : Int) < (i : Int)) = false := decide_eq_false (by omega)
      have d2 : decide (0 < i) = false := decide_eq_false (by omega)
      have d3 : decide ((0 : Int) < (j : Int)) = false := decide_eq_false (by omega)
      have d4 : decide (0 < j) = false := decide_eq_false (by omega)
      have HE : Hid (rest s = []) := Lib.hid (by rw [HRS.out, hij.1, hij.2]; rfl)
      clear hij
      gi_wp2
      refine ⟨(fun f h => by cases h), ?_⟩
      gi_wp2
      refine bodyPost_end (results_none rfl _ _ _) rfl ?_
      exact ⟨⟨_, rfl⟩, .inl ⟨s, HE.out, HJ.out⟩⟩
    · obtain ⟨gt, gr, gc, htd, kt, kr⟩ := (HT.out.agree HK.out).cell (n := p) (by rw [ba_length, HPQ.out.1]) j (by omega)
      subst htd
      have ki := kr i hi
      clear kr
      obtain ⟨x, hx⟩ : ∃ x, letterT a.data.toList b.data.toList i j = x := ⟨_, rfl⟩
      have hst := backT_step a.data.toList b.data.toList i j (by rw [ba_length, ← HPQ.out.1]; exact hi) (by rw [ba_length, ← HPQ.out.2]; exact hj) hij
      have hlead := letter_leads a.data.toList b.data.toList i j (by rw [ba_length, ← HPQ.out.1]; exact hi) (by rw [ba_length, ← HPQ.out.2]; exact hj) hij
      have hli := hlead.i1
      have hlj := hlead.j1
      have hlc := letterT_cases a.data.toList b.data.toList i j
      rw [hx] at ki hst hli hlj hlc
      have hy0 := HY.out s #[.int .u8 (x.toNat : Int)] wr (by rw [HRS.out, hst]; simp) ⟨x, _, by rw [HRS.out, hst], rfl⟩ HJ.out
      obtain ⟨fn, tmps, assign, body, hy, hR⟩ := hy0
      have HST := Lib.hid (And.intro hst (And.intro hli (And.intro hlj (And.intro hlc hx))))
      have ij : (j : Int) < (q : Int) + 1 := by omega
      have ii : (i : Int) < (p : Int) + 1 := by omega
      clear hlead hx hst hli hlj hlc
      have hgo : (decide ((0 : Int) < (i : Int)) = true ∧ decide (0 < i) = true) ∨ (decide ((0 : Int) < (i : Int)) = false ∧ decide (0 < i) = false ∧ decide ((0 : Int) < (j : Int)) = true ∧ decide (0 < j) = true) := by
        by_cases h : 0 < i
        · exact .inl ⟨decide_eq_true (by omega), decide_eq_true h⟩
        · exact .inr ⟨decide_eq_false (by omega), decide_eq_false h, decide_eq_true (by omega), decide_eq_true (by omega)⟩
      rcases hgo with ⟨d1, d2⟩ | ⟨d1, d2, d3, d4⟩
      all_goals
        gi_wp2
        refine hR.mono ?_
        rintro e W3 (⟨rfl, ⟨s', ⟨x', hs'⟩, hfs, hj'⟩, hz3, hk3⟩ | ⟨rfl, hjx⟩)
        · have hK3 : ∀ (g : Nat) cs T fz, W.heap.size ≤ g → w1.heap[g]? = some (.cells cs T fz) → W3.heap[g]? = some (.cells cs T fz) := fun g cs T fz hg h => hk3 g cs T fz (HK.out g cs T fz hg h) (fun hf => by
            have h1 := HFT.out g hf
            have h2 := (Array.getElem?_eq_some_iff.1 h).1
            omega)
          obtain ⟨gt', gr', gc', htd', kt', kr'⟩ := (HT.out.agree hK3).cell (n := p) (by rw [ba_length, HPQ.out.1]) j (by omega)
          obtain rfl : gt = gt' := by injection htd' with h; injection h
          have ki' := kr' i hi
          clear kr'
          rw [HST.out.2.2.2.2] at ki'
          have hnext : rest s' = backT a.data.toList b.data.toList ((if x = 43 then i else i - 1) + (if x = 45 then j else j - 1)) (if x = 43 then i else i - 1) (if x = 45 then j else j - 1) := by
            have h1 := HRS.out
            rw [hs', HST.out.1] at h1
            exact (List.cons.inj h1).2
          have HN := Lib.hid hnext
          have HJ' := Lib.hid hj'
          have HK3 := Lib.hid hK3
          have HF3 : Hid (∀ g, foot s' g → g < W.heap.size ∨ w1.heap.size ≤ g) := Lib.hid fun g hg => by
            rcases hfs g hg with h | h
            · exact HFT.out g h
            · exact .inr (by omega)
          obtain ⟨-, t2, t3, t4, -⟩ := HST.out
          have hz4 : w1.heap.size ≤ W3.heap.size := by omega
          clear hnext hj' hK3 hfs hk3 hz3 hs' hy hR kt htd'
          rcases t4 with rfl | rfl | rfl | rfl
          · have := t2 (by decide)
            have e1 : (i : Int) - 1 = ((i - 1 : Nat) : Int) := by omega
            clear t2 t3
            gi_wp2
            exact ⟨⟨s', i - 1, j, by omega, hj, by first | rfl | (rw [e1]), rfl, Lib.hid HN.out, HJ', hz4, HK3, HF3⟩, by simp [intOf]; omega⟩
          · have := t3 (by decide)
            have e1 : (j : Int) - 1 = ((j - 1 : Nat) : Int) := by omega
            clear t2 t3
            gi_wp2
            exact ⟨⟨s', i, j - 1, hi, by omega, rfl, by first | rfl | (rw [e1]), Lib.hid HN.out, HJ', hz4, HK3, HF3⟩, by simp [intOf]; omega⟩
          all_goals
            have := t2 (by decide)
            have := t3 (by decide)
            have e0 : (i : Int) - 1 = ((i - 1 : Nat) : Int) := by omega
            have e1 : (j : Int) - 1 = ((j - 1 : Nat) : Int) := by omega
            clear t2 t3
            gi_wp2
            exact ⟨⟨s', i - 1, j - 1, by omega, by omega, by first | rfl | (rw [e0]), by first | rfl | (rw [e1]), Lib.hid HN.out, HJ', hz4, HK3, HF3⟩, by simp [intOf]; omega⟩
        · clear hy hR
          gi_wp2
          refine bodyPost_end (results_none rfl _ _ _) rfl ?_
          exact ⟨⟨_, rfl⟩, .inr hjx⟩

theorem back_iter {σ : Type} (n : Nat) (hn : 1 ≤ n) {b1 b2 : Nat} {a b : ByteArray} (rest : σ → List UInt8) (foot : σ → Nat → Prop) (w : World) {s0 : σ} (ha : a.size ≤ 1000) (hb : b.size ≤ 1000) (hi0 : rest s0 = backT a.data.toList b.data.toList (a.size + b.size) a.size b.size) :
    IterFoot n Try.prog 27 #[.pointer (some ⟨b1, 0, none⟩), .pointer (some ⟨b2, 0, none⟩)] (fun s args _ => LetRd (rest s) args) foot (fun s s' => ∃ x, rest s = x :: rest s') (fun s => rest s = []) s0
      (fun J => ∀ s W, J s W → Boxed W b1 9 (.string a) ∧ Boxed W b2 9 (.string b)) w := by
  intro l J Jx W hW hJ hm hf0 hY h0
  exact back1_in n hn l rest foot J Jx W ha hb hJ hm hf0 (fun s args W1 h1 h2 h3 => hY s args W1 h1 h2 h3) h0 hi0
end Go.Proofs.Ytbdbcfidbapioaa
namespace Go.Proofs.Ytbdbcfidbapioaa
open Go.RowKit Go.Shelf

attribute [local go_sem] Oper.semAt_some

theorem conv_bytes {w : World} {base : Nat} {v : Value} {l : List UInt8} (h : w.ownsRow base 5 1 v l.length (bys l)) : (convert 35 9 v).run Try.prog w = .ok (.string ⟨l.toArray⟩) w := by
  rcases h.2 with ⟨rfl, h0⟩ | ⟨g, cap, cur, rfl, _⟩
  · obtain rfl : l = [] := List.eq_nil_of_length_eq_zero h0
    exact run_convert_bytes_nil (P := Try.prog) (w := w) 35 5 Try.underlying35 Try.underlying5 0 0 9 Try.underlying9
  · refine rowOf_str ⟨fun i hi => ?_, fun i _ => h.frozenAt i⟩
    rw [h.cellAt i (by omega), bys_at hi]

theorem conv_bytes' {w : World} {base n : Nat} {v : Value} {l : List UInt8} (h : w.ownsRow base 5 1 v n (bys l)) (hn : n = l.length) : (convert 35 9 v).run Try.prog w = .ok (.string ⟨l.toArray⟩) w := by
  subst hn
  exact conv_bytes h

/-- Between two letters: what is still to come, what has come, and from which block on the row lies. -/
abbrev ScS := List UInt8 × List UInt8 × Option Nat
def scFoot (b5 : Nat) (s : ScS) (g : Nat) : Prop := g = b5 ∨ ∃ D, s.2.2 = some D ∧ D ≤ g
structure ScI (a b : ByteArray) (full : List UInt8) (w : World) (top b5 b6 b7 : Nat) (s : ScS) (W : World) : Prop where
  x5 : ∃ v, Boxed W b5 35 v ∧ W.ownsRow (s.2.2.getD 0) 5 1 v s.2.1.length (bys s.2.1) ∧ (s.2.2 = none → v = .slice none 0 0)
  x6 : Boxed W b6 9 (.string a)
  x7 : Boxed W b7 9 (.string b)
  bel : Below w.heap.size w W
  all : s.2.1 ++ s.1 = full
  far : ∀ D, s.2.2 = some D → top ≤ D ∧ D ≤ W.heap.size

theorem ScI.turned {a b : ByteArray} {full : List UInt8} {w : World} {top b5 b6 b7 : Nat} {s : ScS} {W W' : World} {row : Option Nat} (h : ScI a b full w top b5 b6 b7 s W) (hg : W.grownBy W' row) (hr : ∀ r, row = some r → ¬ scFoot b5 s r ∧ r ≠ b6 ∧ r ≠ b7 ∧ w.heap.size ≤ r) : ScI a b full w top b5 b6 b7 s W' := by
  obtain ⟨v, v1, v2, v3⟩ := h.x5
  refine ⟨⟨v, v1.kept hg (fun e => (hr b5 e.symm).1 (.inl rfl)), v2.kept hg ?_, v3⟩, h.x6.kept hg (fun e => (hr b6 e.symm).2.1 rfl), h.x7.kept hg (fun e => (hr b7 e.symm).2.2.1 rfl), h.bel.grown hg h.bel.size (fun k e => (hr k e).2.2.2), h.all, fun D hD => ⟨(h.far D hD).1, Nat.le_trans (h.far D hD).2 hg.size⟩⟩
  rcases v2.2 with ⟨rfl, _⟩ | ⟨g, cap, cur, rfl, hb, _⟩
  · exact .inl rfl
  · right
    intro e
    have he : row = some g := e.symm
    cases hD : s.2.2 with
    | none => cases v3 hD
    | some D =>
      rw [hD] at hb
      exact (hr g he).1 (.inr ⟨D, hD, hb⟩)

theorem three_boxes (w : World) (v5 v6 v7 : Value) (t5 t6 t7 : TypeId) (W : World) (e : W = ((w.alloc (.cells #[v5] t5)).alloc (.cells #[v6] t6)).alloc (.cells #[v7] t7)) :
    Boxed W w.heap.size t5 v5 ∧ Boxed W (w.heap.size + 1) t6 v6 ∧ Boxed W (w.heap.size + 1 + 1) t7 v7 ∧ Below w.heap.size w W ∧ W.heap.size = w.heap.size + 3 := by
  subst e
  refine ⟨((Boxed.new w t5 v5).alloc _).alloc _, ?_, ?_, ((((Below.refl _ w).alloc (Nat.le_refl _) _).alloc (by simp) _).alloc (by simp; omega) _), by simp⟩
  · have := (Boxed.new (w.alloc (.cells #[v5] t5)) t6 v6).alloc (.cells #[v7] t7); simpa only [World.size_alloc] using this
  · have := Boxed.new ((w.alloc (.cells #[v5] t5)).alloc (.cells #[v6] t6)) t7 v7; simpa only [World.size_alloc] using this

set_option maxRecDepth 100000 in
set_option maxHeartbeats 4000000 in
theorem script_in (n : Nat) (hn : 6 ≤ n) (a b : ByteArray) (w : World) (ha : a.size ≤ 1000) (hb : b.size ≤ 1000) :
    CallsIn Fence.wide n Try.prog 10 #[.string a, .string b] w fun e w' => e = .returned (.string ⟨(scriptT a.data.toList b.data.toList).toArray⟩) ∧ Below w.heap.size w w' := by
  have h1 : 1 ≤ n := by omega
  obtain ⟨i0, hi, hz0, hz1, hz2⟩ := info_parts iByte3
  have HI0 := Lib.hid (And.intro hi (And.intro hz0 (And.intro hz1 hz2)))
  clear hi hz0 hz1 hz2
  refine callsIn_of_wp_marks Try.func10 rfl trivial ?_ rfl
  simp only [Try.ntmps10, List.size_toArray, List.length_cons, List.length_nil, Nat.reduceAdd, Nat.reduceSub, Array.replicate_succ, Array.replicate_zero, List.push_toArray, List.append_toArray, List.nil_append, List.cons_append]
  gi_wp2_with (refine ⟨trivial, ?_⟩; gi_at_call 21; refine (callsIn_wide.2 (backwards_any _ _ _)).mono ?_; rintro e w' ⟨rfl, rfl⟩)
  obtain ⟨W0, hW0⟩ : ∃ W0, W0 = ((w.alloc (.cells #[.slice none 0 0] 35)).alloc (.cells #[.string a] 9)).alloc (.cells #[.string b] 9) := ⟨_, rfl⟩
  obtain ⟨x5, x6, x7, xb, xz⟩ := three_boxes w _ _ _ _ _ _ W0 hW0
  rw [← hW0]
  clear hW0
  obtain ⟨b5, e5⟩ : ∃ b5, b5 = w.heap.size := ⟨_, rfl⟩
  obtain ⟨b6, e6⟩ : ∃ b6, b6 = w.heap.size + 1 := ⟨_, rfl⟩
  obtain ⟨b7, e7⟩ : ∃ b7, b7 = w.heap.size + 1 + 1 := ⟨_, rfl⟩
  rw [← e7] at x7 ⊢
  rw [← e6] at x6 ⊢
  rw [← e5] at x5
  have hsz0 := xb.size
  have ne : b5 + 1 = b6 ∧ b6 + 1 = b7 ∧ b7 + 1 = W0.heap.size ∧ b5 = w.heap.size := by omega
  clear e6 e7
  have E5 := Lib.hid e5
  obtain ⟨full, hfull⟩ : ∃ full, full = backT a.data.toList b.data.toList (a.size + b.size) a.size b.size := ⟨_, rfl⟩
  have hfl : full.length ≤ 2000 := by rw [hfull]; have := backT_length a.data.toList b.data.toList (a.size + b.size) a.size b.size; omega
  have HF := Lib.hid hfull
  refine wpIn_range_foot h1 (gf := 27) (lb := #[.pointer (some ⟨b6, 0, none⟩), .pointer (some ⟨b7, 0, none⟩)]) rfl (enters_of Try.func27 (by kernel_rfl) rfl)
    (back_iter (a := a) (b := b) (n - 1) (by omega) (fun s : ScS => s.1) (scFoot b5) W0 ha hb (s0 := (full, [], none)) hfull) (fun s args W h => by obtain ⟨v, r, _, rfl⟩ := h; rfl) (ScI a b full w W0.heap.size b5 b6 b7) (fun _ _ => False)
    (fun s a' W => ∃ x r, s.1 = x :: r ∧ a' = { tmps := #[.string a, .string b, undef, undef, .string ⟨#[]⟩, .pointer (some ⟨w.heap.size, 0, none⟩), .int .u8 (x.toNat : Int), .string a, .string b, .func (.func 27) #[] #[.pointer (some ⟨b6, 0, none⟩), .pointer (some ⟨b7, 0, none⟩)], .int .u8 (x.toNat : Int), undef, undef, undef, undef, undef, undef, undef, undef], defers := [] })
    ?bi ?bx ?ba ?bm ?bf ?start ?assign ?body ?done ?stop
  case bi => exact fun s W W' row h hg hr => h.turned hg (fun r e => ⟨(hr r e).2, by have := (hr r e).1; omega, by have := (hr r e).1; omega, by have := (hr r e).1; omega⟩)
  case bx => exact fun c W W' h => h.elim
  case ba => exact fun s a' W r o o' hr ho h => h
  case bm => exact fun R s W h => ⟨h.1.x6, h.1.x7⟩
  case bf =>
    rintro g (rfl | ⟨D, hD, _⟩)
    · omega
    · cases hD
  case start => exact ⟨⟨_, x5, World.ownsRow_nil W0 0 5 1, fun _ => rfl⟩, x6, x7, xb, rfl, fun D hD => by cases hD⟩
  case assign =>
    rintro l s args W hI ⟨x, r, hs, rfl⟩
    gi_wp2
    exact ⟨⟨rfl, rfl, rfl, Nat.le_refl _, fun _ _ _ => rfl⟩, x, r, hs, rfl⟩
  case body =>
    rintro l s a' W hnf hf hw2 hI ⟨x, r, hs, rfl⟩
    obtain ⟨v, v1, v2, v3⟩ := hI.x5
    obtain ⟨D, hD⟩ : ∃ D, D = s.2.2.getD W.heap.size := ⟨_, rfl⟩
    have hDW : W0.heap.size ≤ D ∧ D ≤ W.heap.size := by
      cases hs2 : s.2.2 with
      | none => rw [hD, hs2]; simp; omega
      | some D' => rw [hD, hs2]; exact hI.far D' hs2
    have hown : W.ownsRow D 5 1 v s.2.1.length (bys s.2.1) := by
      cases hs2 : s.2.2 with
      | none =>
        have hv := v3 hs2
        rw [hv] at v2 ⊢
        refine ⟨v2.1, .inl ⟨rfl, ?_⟩⟩
        rcases v2.2 with ⟨_, h0⟩ | ⟨g, cap, cur, h0, _⟩
        · exact h0
        · cases h0
      | some D' => rw [hs2] at v2; rw [hD, hs2]; exact v2
    have hvf : ∀ g, v.ownBlock = some g → scFoot b5 s g ∧ D ≤ g := fun g hg => by
      have h2 := (owns_cells hown g hg).1
      cases hs2 : s.2.2 with
      | none => rw [v3 hs2] at hg; cases hg
      | some D' => exact ⟨.inr ⟨D', hs2, by rw [hD, hs2] at h2; exact h2⟩, h2⟩
    have hlen : s.2.1.length + 1 ≤ 2000 := by
      have h := congrArg List.length hI.all
      rw [List.length_append, hs, List.length_cons] at h
      omega
    obtain ⟨va, vc, rfl⟩ := owns_slice hown
    have k5 := v1.cell
    have f5 := v1.frozen
    rw [E5.out] at k5 f5
    have k5' : ∀ o, (W.alloc o).cell? ⟨w.heap.size, 0, none⟩ = some (.slice va s.2.1.length vc) := fun o => by
      have h := (boxed_below v1 (below_alloc W o)).cell
      rw [E5.out] at h
      exact h
    have HI := Lib.hid hI
    have HS := Lib.hid (And.intro hs (And.intro v1 (And.intro hvf (And.intro hD hDW))))
    have HO := Lib.hid hown
    have HFF := Lib.hid (And.intro hf hw2)
    have hbs : D ≤ (W.alloc (.cells #[.int .u8 (x.toNat : Int)] 5)).heap.size := by simp; omega
    generalize hac : s.2.1.length = ac at hown hlen k5 k5' HS HO ⊢
    have HAC := Lib.hid hac
    clear hI hs v1 v2 v3 hvf hD hown hf hw2 hDW hac
    gi_wp2_with (gi_at_builtin; refine wpListIn_append_own _ rfl _ _ 35 rfl D 5 i0 (.int .u8 0) 1 1 Try.underlying35 HI0.out.1 HI0.out.2.1 HI0.out.2.2.1 HI0.out.2.2.2 rfl (by decide) _ _ _ rfl (HO.out.alloc _) ⟨W.heap.size, 0, none⟩ 1 1 [.int .u8 (x.toNat : Int)] rfl rfl (news_one _ _ _) (oneCell_one rfl) (by unfold maxLen; omega) (by omega) hbs ?_; intro v' w7 hown7 hg7 _; obtain ⟨td', tp', hv7⟩ := owns_slice hown7; subst hv7; have v7 := boxed_off (boxed_below HS.out.2.1 (below_alloc W (.cells #[.int .u8 (x.toNat : Int)] 5))) hg7 (off_cells (owns_cells (HO.out.alloc _)) (by decide)); have k7 := v7.cell; rw [E5.out] at k7; have f7 := v7.frozen; rw [E5.out] at f7)
    have hI := HI.out
    have hS := HS.out
    obtain ⟨W1, hW1⟩ : ∃ W1, W1 = W.alloc (.cells #[.int .u8 (x.toNat : Int)] 5) := ⟨_, rfl⟩
    rw [← hW1] at hg7
    have hb1 : Below W.heap.size W W1 := by rw [hW1]; exact below_alloc W _
    have g0 := grown_setCell w7 w.heap.size 0 (.slice td' (ac + 1) tp')
    obtain ⟨W8, hW8⟩ : ∃ W8, W8 = w7.setCell ⟨w.heap.size, 0, none⟩ (.slice td' (ac + 1) tp') := ⟨_, rfl⟩
    rw [← hW8] at g0 ⊢
    have z1 := hb1.size
    have z7 := hg7.size
    have z8 := g0.size
    have hvf : ∀ g, (Value.slice va ac vc).ownBlock = some g → scFoot b5 s g ∧ D ≤ g := hS.2.2.1
    have hft : ∀ g, (Value.slice va ac vc).ownBlock = some g → g < W0.heap.size ∨ W0.heap.size + 2 ≤ g := fun g hg => HFF.out.1 g (hvf g hg).1
    have hw2 := HFF.out.2
    have blk : ∀ g, g < W.heap.size → g ≠ w.heap.size → (Value.slice va ac vc).ownBlock ≠ some g → W8.heap[g]? = W.heap[g]? := fun g h1 h2 h3 => by
      rw [g0.block g (by omega) (fun e => h2 (by injection e)), hg7.block g (by omega) h3.symm, hb1.block g h1]
    have nb : ∀ g, (g = W0.heap.size ∨ g = W0.heap.size + 1) → (Value.slice va ac vc).ownBlock ≠ some g := fun g hg e => by
      have h1 := (hvf g e).2
      have h2 := hft g e
      have h3 := hS.2.2.2.2.1
      omega
    refine ⟨⟨blk _ (by omega) (by omega) (nb _ (.inl rfl)), blk _ (by omega) (by omega) (nb _ (.inr rfl))⟩, by omega, fun g cs T fz hg hx => ?_, (r, s.2.1 ++ [x], some D), ⟨x, hS.1⟩, fun g hg => ?_, ?_⟩
    · rw [blk g (Array.getElem?_eq_some_iff.1 hg).1 (fun e => hx (.inl (by omega))) (fun e => hx (hvf g e).1)]
      exact hg
    · rcases hg with h | ⟨D', h1, h2⟩
      · exact .inl (.inl h)
      · injection h1 with h1
        subst h1
        cases hs2 : s.2.2 with
        | none =>
          have h4 := hS.2.2.2.1
          rw [hs2] at h4
          simp at h4
          right
          omega
        | some D' =>
          have h4 := hS.2.2.2.1
          rw [hs2] at h4
          simp at h4
          exact .inl (.inr ⟨D', hs2, by omega⟩)
    · have v8 : Boxed W8 b5 35 (.slice td' (ac + 1) tp') := by
        rw [hW8, ← E5.out]
        exact v7.set _
      have n6 : (Value.slice va ac vc).ownBlock ≠ some b6 := fun e => by have := (hvf _ e).2; have := hS.2.2.2.2.1; omega
      have n7 : (Value.slice va ac vc).ownBlock ≠ some b7 := fun e => by have := (hvf _ e).2; have := hS.2.2.2.2.1; omega
      refine ⟨⟨_, v8, ?_, fun h => by cases h⟩, ?_, ?_, ?_, ?_, fun D' hD' => ?_⟩
      · have h8 : W8.ownsRow D 5 1 (.slice td' (ac + 1) tp') (ac + 1) (bys s.2.1 ++ [.int .u8 (x.toNat : Int)]) := by
          refine hown7.kept g0 ?_
          right
          intro e
          have h1 := (hown7.lt _ e).1
          have h2 := hS.2.2.2.2.1
          omega
        have e : bys s.2.1 ++ [.int .u8 (x.toNat : Int)] = bys (s.2.1 ++ [x]) := by simp [bys]
        rw [e] at h8
        simp only [Option.getD_some, List.length_append, List.length_singleton]
        rw [HAC.out]
        exact h8
      · exact ((boxed_below hI.x6 hb1).kept hg7 (fun e => n6 e.symm)).kept g0 (fun e => by injection e; omega)
      · exact ((boxed_below hI.x7 hb1).kept hg7 (fun e => n7 e.symm)).kept g0 (fun e => by injection e; omega)
      · exact ((hI.bel.trans (hb1.mono hI.bel.size)).grown hg7 (by have := hI.bel.size; omega) (fun k e => by have := (hvf k e).2; have := hS.2.2.2.2.1; omega)).grown g0 (by have := hI.bel.size; omega) (fun k e => by cases e; exact Nat.le_refl _)
      · have h := hI.all
        rw [hS.1] at h
        simpa using h
      · injection hD' with hD'
        subst hD'
        exact ⟨hS.2.2.2.2.1, by have := hS.2.2.2.2.2; omega⟩
  case done =>
    rintro D s W hD hfin hI hK hnf
    obtain ⟨v, v1, v2, v3⟩ := hI.x5
    have hall := hI.all
    rw [show s.1 = [] from hfin, List.append_nil] at hall
    rw [hall] at v2
    obtain ⟨N, hN⟩ : ∃ N, N = full.length := ⟨_, rfl⟩
    obtain ⟨X, hX⟩ : ∃ X, X = full.reverse := ⟨_, rfl⟩
    have hrv := reverse_any v2 (by omega)
    rw [← hN, ← hX] at hrv
    rw [← hN] at v2
    have QV := Lib.hid hrv
    have hXN : N = X.length := by rw [hX, List.length_reverse, hN]
    have HX := Lib.hid (And.intro hX hXN)
    clear hN hX hXN hrv
    obtain ⟨va, vc, rfl⟩ := owns_slice v2
    have k5 := v1.cell
    rw [E5.out] at k5
    have hoff : OffT W (Value.slice va N vc).ownBlock 35 := off_cells (owns_cells v2) (by decide)
    have hoD : (Value.slice va N vc).ownBlock ≠ some D := fun e => by
      obtain ⟨_, cs, fz, hc⟩ := owns_cells v2 D e
      rw [hK] at hc
      cases hc
    have hbase : ∀ g, (Value.slice va N vc).ownBlock = some g → w.heap.size ≤ g := fun g hg => by
      cases hs2 : s.2.2 with
      | none => rw [v3 hs2] at hg; cases hg
      | some D' =>
        have h1 := (owns_cells v2 g hg).1
        have h2 := (hI.far D' hs2).1
        rw [hs2] at h1
        simp at h1
        omega
    have HA := Lib.hid (And.intro v1 (And.intro hoff (And.intro hoD (And.intro hbase (And.intro hI.bel hK)))))
    clear hI v1 v2 v3 hall hfin hoff hoD hbase hK hnf
    gi_wp2_with (refine ⟨trivial, ?_⟩; gi_at_call 22; refine (callsIn_wide.2 QV.out).mono ?_; rintro e w9 ⟨rfl, r1, r2⟩; have k9 := (boxed_off HA.out.1 r2 HA.out.2.1).cell; rw [E5.out] at k9; have cv := conv_bytes' r1 HX.out.2; clear r1; have hr2 := Lib.hid r2; clear r2)
    have r2 := hr2.out
    have hK9 : w9.heap[D]? = some (.deferred (some [])) := by
      rw [r2.block D (Array.getElem?_eq_some_iff.1 HA.out.2.2.2.2.2).1 (fun e => HA.out.2.2.1 e.symm)]
      exact HA.out.2.2.2.2.2
    refine ⟨by simp, .inl ⟨_, _, rfl, run_takeDeferred hK9, ?_⟩⟩
    have hg := grownBy_putObj' w9 D (.deferred none)
    have hb9 := HA.out.2.2.2.2.1.grown r2 HA.out.2.2.2.2.1.size (fun k e => HA.out.2.2.2.1 k e)
    refine ⟨.string ⟨X.toArray⟩, by simp [results, Try.results10, go_sem], ?_, hb9.grown hg hb9.size (fun k e => by cases e; omega)⟩
    rw [HX.out.1, HF.out]
    unfold scriptT
    rw [ba_length, ba_length]
  case stop => exact fun D c W hD h => h.elim

theorem script_any (a b : ByteArray) (w : World) (ha : a.size ≤ 1000) (hb : b.size ≤ 1000) :
    Calls Try.prog 10 #[.string a, .string b] w fun e w' => e = .returned (.string ⟨(scriptT a.data.toList b.data.toList).toArray⟩) ∧ Below w.heap.size w w' :=
  callsIn_wide.1 (script_in 6 (Nat.le_refl _) a b w ha hb)
end Go.Proofs.Ytbdbcfidbapioaa
namespace Go.Proofs.Ytbdbcfidbapioaa
open Go.RowKit Go.Shelf

set_option maxRecDepth 100000 in
theorem ints_any {w : World} {v1 v2 : Value} {l1 l2 : List Nat} (h1 : Ints w v1 l1) (h2 : Ints w v2 l2) (hz : l1.length ≤ 1000000) (hz2 : l2.length ≤ 1000000) :
    Calls Try.prog 14 #[v1, v2] w fun e w' => e = .returned (.bool (decide (l1 = l2))) ∧ Below w.heap.size w w' := by
  obtain ⟨ad, c, rfl, hc1⟩ := h1
  obtain ⟨ad', c', rfl, hc2⟩ := h2
  by_cases hl : l1.length = l2.length
  · have e1 : ((l1.length : Int) == (l2.length : Int)) = true := by simp [hl]
    have e2 : ((l1.length : Int) != (l2.length : Int)) = false := by simp [hl]
    obtain ⟨n, hn⟩ : ∃ n, n = l1.length := ⟨_, rfl⟩
    have HN := Lib.hid (And.intro hn (hn.trans hl))
    rw [← hl, ← hn]
    rw [← hl, ← hn] at e1 e2
    rw [← hn] at hz
    have HC : Hid (∀ W, Below w.heap.size w W → ∀ k, k < n → ∃ b o b' o', ad = some ⟨b, o, none⟩ ∧ ad' = some ⟨b', o', none⟩ ∧ W.cell? ⟨b, o + k, none⟩ = some (.int .i64 ((l1.getD k 0 : Nat) : Int)) ∧ W.cell? ⟨b', o' + k, none⟩ = some (.int .i64 ((l2.getD k 0 : Nat) : Int))) := Lib.hid fun W hb k hk => by
      obtain ⟨b, o, x1, x2⟩ := hc1 k (by omega)
      obtain ⟨b', o', y1, y2⟩ := hc2 k (by omega)
      exact ⟨b, o, b', o', x1, y1, (hb.cell (p := ⟨b, o + k, none⟩) (block_lt_of_cell x2)).trans x2, (hb.cell (p := ⟨b', o' + k, none⟩) (block_lt_of_cell y2)).trans y2⟩
    clear hc1 hc2 hl hn hz2
    go_enter Try.func14, Try.ntmps14
    go_wp2
    go_loopw [5] (fun s5 wr => ∃ k : Nat, k ≤ n ∧ s5 = .int .i64 (k : Int) ∧ Hid (∀ i, i < k → l1.getD i 0 = l2.getD i 0) ∧ Hid (Below w.heap.size w wr)) (fun s5 _ => n - (intOf s5).toNat)
    case atStart => exact ⟨0, Nat.zero_le _, rfl, Lib.hid fun i hi => by omega, Lib.hid (Below.refl _ _)⟩
    case round =>
      obtain ⟨k, hk, rfl, HE, HB⟩ := hrel
      by_cases hlt : k < n
      · obtain ⟨b, o, b', o', rfl, rfl, c1, c2⟩ := HC.out wr HB.out k hlt
        have d1 : decide ((k : Int) < (n : Int)) = true := decide_eq_true (by omega)
        have d2 : decide (k < n) = true := decide_eq_true hlt
        have il : (k : Int) < (n : Int) := by omega
        obtain ⟨x, hx⟩ : ∃ x, l1.getD k 0 = x := ⟨_, rfl⟩
        obtain ⟨y, hy⟩ : ∃ y, l2.getD k 0 = y := ⟨_, rfl⟩
        rw [hx] at c1
        rw [hy] at c2
        have HXY := Lib.hid (And.intro hx hy)
        clear hx hy
        by_cases hxy : x = y
        · have f1 : ((x : Int) == (y : Int)) = true := by simp [hxy]
          have f2 : ((x : Int) != (y : Int)) = false := by simp [hxy]
          have f3 : (x == y) = true := by simp [hxy]
          have HE' : Hid (∀ i, i < k + 1 → l1.getD i 0 = l2.getD i 0) := Lib.hid fun i hi => by
            by_cases h : i < k
            · exact HE.out i h
            · rw [show i = k by omega, HXY.out.1, HXY.out.2, hxy]
          clear hxy
          go_wp2
          go_region
          go_wp2
          exact ⟨⟨k + 1, by omega, by go_num, HE', Lib.hid (Below.drew HB.out)⟩, by simp [intOf]; omega⟩
        · have f1 : ((x : Int) == (y : Int)) = false := by simp; omega
          have f2 : ((x : Int) != (y : Int)) = true := by simp; omega
          have f3 : (x == y) = false := by simp; omega
          have hd : decide (l1 = l2) = false := decide_eq_false (fun e => hxy (by rw [← HXY.out.1, ← HXY.out.2, e]))
          have HD := Lib.hid hd
          clear hd hxy
          go_wp2
          go_region
          go_wp2
          go_ret
          exact ⟨by rw [HD.out]; rfl, Below.drew HB.out⟩
      · have hkn : k = n := by omega
        have d1 : decide ((k : Int) < (n : Int)) = false := decide_eq_false (by omega)
        have d2 : decide (k < n) = false := decide_eq_false hlt
        have hd : decide (l1 = l2) = true := decide_eq_true (by
          apply List.ext_getElem
          · rw [← HN.out.1, HN.out.2]
          · intro i h1 h2
            have := HE.out i (by have := HN.out.1; omega)
            simpa [List.getD, h1, h2] using this)
        have HD := Lib.hid hd
        clear hd hkn hlt
        go_wp2
        go_ret
        exact ⟨by rw [HD.out]; rfl, HB.out⟩
  · have e1 : ((l1.length : Int) == (l2.length : Int)) = false := by simp; omega
    have e2 : ((l1.length : Int) != (l2.length : Int)) = true := by simp; omega
    have e3 : (l1.length == l2.length) = false := by simp; omega
    have hd : decide (l1 = l2) = false := decide_eq_false (fun e => hl (by rw [e]))
    rw [hd]
    clear hd hl hc1 hc2
    go_enter Try.func14, Try.ntmps14
    go_wp2
    go_ret
    exact ⟨rfl, Below.refl _ _⟩

theorem of_lit (a b : ByteArray) (n : Nat) (ha : a.size ≤ 1000) (hb : b.size ≤ 1000) (h : lev a.data.toList b.data.toList = n) (w : World) : Calls Try.prog 9 #[.string a, .string b] w fun e w' => e = .returned (.int .i64 (n : Int)) ∧ Below w.heap.size w w' := by
  rw [← h]
  exact of_any a b w ha hb
theorem script_lit (a b s : ByteArray) (ha : a.size ≤ 1000) (hb : b.size ≤ 1000) (h : scriptT a.data.toList b.data.toList = s.data.toList) (w : World) : Calls Try.prog 10 #[.string a, .string b] w fun e w' => e = .returned (.string s) ∧ Below w.heap.size w w' := by
  have e := script_any a b w ha hb
  rw [h] at e
  exact e
theorem within_lit (a b : ByteArray) (k : Int) (v : Value) (ha : a.size ≤ 1000) (hb : b.size ≤ 1000) (h : within a.data.toList b.data.toList k = v) (w : World) : Calls Try.prog 12 #[.string a, .string b, .int .i64 k] w fun e w' => e = .returned v ∧ Below w.heap.size w w' := by
  rw [← h]
  exact within_any a b k w ha hb

set_option maxHeartbeats 4000000 in
set_option maxRecDepth 100000 in
theorem works_any (w : World) : Calls Try.prog 17 #[] w fun e w' => e = .returned (.bool true) ∧ Below w.heap.size w w' := by
  have q1 := within_lit ⟨#[97, 98]⟩ ⟨#[98, 97]⟩ 1 (.tuple #[.int .i64 0, .bool false]) (by decide) (by decide) (by unfold within; rw [show lev _ _ = 2 from lev_abba]; rfl)
  have q2 := within_lit ⟨#[97, 98]⟩ ⟨#[98, 97]⟩ 2 (.tuple #[.int .i64 2, .bool true]) (by decide) (by decide) (by unfold within; rw [show lev _ _ = 2 from lev_abba]; rfl)
  have q3 := of_lit ⟨#[107, 105, 116, 116, 101, 110]⟩ ⟨#[115, 105, 116, 116, 105, 110, 103]⟩ 3 (by decide) (by decide) lev_kitten
  have q4 := of_lit ⟨#[]⟩ ⟨#[97, 98, 99]⟩ 3 (by decide) (by decide) lev_abc
  have q5 := script_lit ⟨#[107, 105, 116, 116, 101, 110]⟩ ⟨#[115, 105, 116, 116, 105, 110, 103]⟩ ⟨#[120, 61, 61, 61, 120, 61, 43]⟩ (by decide) (by decide) script_kitten
  have q6 : ∀ W, Calls Try.prog 13 #[.string ⟨#[97, 98]⟩] W fun e w' => ∃ v, e = .returned v ∧ w'.ownsRow W.heap.size 3 1 v 3 (nats [0, 1, 2]) ∧ Below W.heap.size W w' := fun W => row_any ⟨#[97, 98]⟩ W (by decide)
  have Q1 := Lib.hid q1; have Q2 := Lib.hid q2; have Q3 := Lib.hid q3; have Q4 := Lib.hid q4; have Q5 := Lib.hid q5; have Q6 := Lib.hid q6
  clear q1 q2 q3 q4 q5 q6
  have H : Hid (Below w.heap.size w w) := Lib.hid (Below.refl _ _)
  go_enter Try.func17, Try.ntmps17
  go_upto_region 4 with (first
    | (go_at_call 12; (first | (with_reducible refine (Q1.out _).mono ?_) | (with_reducible refine (Q2.out _).mono ?_)); rintro e w' ⟨rfl, hb⟩; replace H := Lib.hid (H.out.trans (hb.mono H.out.size)); clear hb)
    | (go_at_call 13; (with_reducible refine (Q6.out _).mono ?_); rintro e w4 ⟨v, rfl, hr, hb⟩; obtain ⟨ad, c, hv⟩ := owns_slice hr; subst hv; replace H := Lib.hid (H.out.trans (hb.mono H.out.size)); clear hb))
  have HR : Hid (∀ W, Below w4.heap.size w4 W → Ints W (.slice ad 3 c) [0, 1, 2]) := Lib.hid fun W h => (ints_of_owns (l := [0, 1, 2]) hr).below h
  have QI : Hid (∀ W, Below w4.heap.size w4 W → Calls Try.prog 14 #[.slice ad 3 c, .slice (some ⟨W.heap.size, 0, none⟩) 3 3] (W.alloc (.cells #[.int .i64 0, .int .i64 1, .int .i64 2] 3)) fun e w' => e = .returned (.bool true) ∧ Below W.heap.size W w') := Lib.hid fun W hb =>
    (ints_any ((HR.out W hb).below (below_alloc W _)) (ints_three W 0 1 2) (by simp) (by simp)).mono fun e w' h => ⟨h.1, (below_alloc W _).trans (h.2.mono (by simp))⟩
  have QN : Hid (∀ W, Below w4.heap.size w4 W → Calls Try.prog 16 #[.string ⟨#[97, 98]⟩, .slice ad 3 c, .int .u8 98] W fun e w' => ∃ ad' c', e = .returned (.slice ad' 3 c') ∧ Hid (Ints w' (.slice ad' 3 c') [1, 1, 1]) ∧ Below W.heap.size W w') := Lib.hid fun W hb =>
    (next_any (q := ⟨#[97, 98]⟩) (HR.out W hb) 98 (by decide) (by decide) (by intro i; rcases i with _ | _ | _ | i <;> simp [List.getD])).mono fun e w' h => by
      obtain ⟨v, rfl, h1, h2⟩ := h
      have h3 : w'.ownsRow W.heap.size 3 1 v 3 (nats [1, 1, 1]) := by
        have e : nextT [97, 98] [0, 1, 2] 98 = [1, 1, 1] := next_ab
        have h4 : w'.ownsRow W.heap.size 3 1 v 3 (nats (nextT [97, 98] [0, 1, 2] 98)) := h1
        rw [e] at h4
        exact h4
      obtain ⟨ad', c', rfl⟩ := owns_slice h3
      exact ⟨ad', c', rfl, Lib.hid (ints_of_owns (l := [1, 1, 1]) h3), h2⟩
  have QJ : Hid (∀ W ad' c', Hid (Ints W (.slice ad' 3 c') [1, 1, 1]) → Calls Try.prog 14 #[.slice ad' 3 c', .slice (some ⟨W.heap.size, 0, none⟩) 3 3] (W.alloc (.cells #[.int .i64 1, .int .i64 1, .int .i64 1] 3)) fun e w' => e = .returned (.bool true) ∧ Below W.heap.size W w') := Lib.hid fun W ad' c' hi =>
    (ints_any (hi.out.below (below_alloc W _)) (ints_three W 1 1 1) (by simp) (by simp)).mono fun e w' h => ⟨h.1, (below_alloc W _).trans (h.2.mono (by simp))⟩
  have HW : Hid (Below w4.heap.size w4 w4) := Lib.hid (Below.refl _ _)
  clear hr
  go_wp2_with (first
    | (go_at_call 9; (first | (with_reducible refine (Q3.out _).mono ?_) | (with_reducible refine (Q4.out _).mono ?_)); rintro e w' ⟨rfl, hb⟩; replace HW := Lib.hid (HW.out.trans (hb.mono HW.out.size)); clear hb)
    | (go_at_call 10; (with_reducible refine (Q5.out _).mono ?_); rintro e w' ⟨rfl, hb⟩; replace HW := Lib.hid (HW.out.trans (hb.mono HW.out.size)); clear hb)
    | (go_at_call 16; (with_reducible refine (QN.out _ HW.out).mono ?_); rintro e w' ⟨ad', c', rfl, HI, hb⟩; replace HW := Lib.hid (HW.out.trans (hb.mono HW.out.size)); clear hb)
    | (go_at_call 14; (with_reducible refine (QI.out _ HW.out).mono ?_); rintro e w' ⟨rfl, hb⟩; replace HW := Lib.hid (HW.out.trans (hb.mono HW.out.size)); clear hb)
    | (go_at_call 14; (with_reducible refine (QJ.out _ _ _ HI).mono ?_); rintro e w' ⟨rfl, hb⟩; replace HW := Lib.hid (HW.out.trans (hb.mono HW.out.size)); clear hb))
  go_ret
  exact ⟨rfl, H.out.trans (HW.out.mono H.out.size)⟩
end Go.Proofs.Ytbdbcfidbapioaa
namespace Go.Proofs.Ytbdbcfidbapioaa
open Go.RowKit Go.Shelf

theorem ints_one (W : World) (a : Nat) : Ints (W.alloc (.cells #[.int .i64 (a : Int)] 3)) (.slice (some ⟨W.heap.size, 0, none⟩) 1 1) [a] := by
  refine ⟨_, 1, rfl, fun i hi => ⟨W.heap.size, 0, rfl, ?_⟩⟩
  simp only [List.length_cons, List.length_nil] at hi
  obtain rfl : i = 0 := by omega
  simp [go_sem]
theorem ints_nil (W : World) : Ints W (.slice none 0 0) [] := ⟨none, 0, rfl, fun i hi => by simp at hi⟩

set_option maxHeartbeats 8000000 in
set_option maxRecDepth 100000 in
theorem known_walk (w : World) : Calls Try.prog 6 #[] w fun e w' => e = .returned (.bool true) ∧ Below w.heap.size w w' := by
  have A1 := Lib.hid (within_lit ⟨#[97]⟩ ⟨#[97]⟩ (-1) (.tuple #[.int .i64 0, .bool false]) (by decide) (by decide) (by unfold within; rw [show lev _ _ = 0 from lev_aa]; rfl))
  have A2 := Lib.hid (within_lit ⟨#[97]⟩ ⟨#[97]⟩ 0 (.tuple #[.int .i64 0, .bool true]) (by decide) (by decide) (by unfold within; rw [show lev _ _ = 0 from lev_aa]; rfl))
  have QW := Lib.hid works_any
  have B0 := Lib.hid (of_lit ⟨#[]⟩ ⟨#[]⟩ 0 (by decide) (by decide) lev_none)
  have B1 := Lib.hid (of_lit ⟨#[102, 108, 97, 119]⟩ ⟨#[108, 97, 119, 110]⟩ 2 (by decide) (by decide) lev_flaw)
  have B2 := Lib.hid (of_lit ⟨#[105, 110, 116, 101, 110, 116, 105, 111, 110]⟩ ⟨#[101, 120, 101, 99, 117, 116, 105, 111, 110]⟩ 5 (by decide) (by decide) lev_intention)
  have B3 := Lib.hid (of_lit ⟨#[115, 97, 116, 117, 114, 100, 97, 121]⟩ ⟨#[115, 117, 110, 100, 97, 121]⟩ 3 (by decide) (by decide) lev_sunday)
  have B4 := Lib.hid (of_lit ⟨#[0, 255]⟩ ⟨#[255, 0]⟩ 2 (by decide) (by decide) lev_ends)
  have C0 := Lib.hid (script_lit ⟨#[]⟩ ⟨#[]⟩ ⟨#[]⟩ (by decide) (by decide) script_none)
  have C1 := Lib.hid (script_lit ⟨#[97, 98]⟩ ⟨#[]⟩ ⟨#[45, 45]⟩ (by decide) (by decide) script_out)
  have C2 := Lib.hid (script_lit ⟨#[]⟩ ⟨#[97, 98]⟩ ⟨#[43, 43]⟩ (by decide) (by decide) script_in')
  have C3 := Lib.hid (script_lit ⟨#[102, 108, 97, 119]⟩ ⟨#[108, 97, 119, 110]⟩ ⟨#[45, 61, 61, 61, 43]⟩ (by decide) (by decide) script_flaw)
  have C4 := Lib.hid (script_lit ⟨#[97, 98]⟩ ⟨#[98, 97]⟩ ⟨#[120, 120]⟩ (by decide) (by decide) script_abba)
  have QR : Hid (∀ W, Calls Try.prog 13 #[.string ⟨#[]⟩] W fun e w' => ∃ ad c, e = .returned (.slice ad 1 c) ∧ Hid (Ints w' (.slice ad 1 c) [0]) ∧ Below W.heap.size W w') := Lib.hid fun W => (row_any ⟨#[]⟩ W (by decide)).mono fun e w' h => by
    obtain ⟨v, rfl, h1, h2⟩ := h
    have h3 : w'.ownsRow W.heap.size 3 1 v 1 (nats [0]) := h1
    obtain ⟨ad, c, rfl⟩ := owns_slice h3
    exact ⟨ad, c, rfl, Lib.hid (ints_of_owns (l := [0]) h3), h2⟩
  have QI : Hid (∀ W ad c, Hid (Ints W (.slice ad 1 c) [0]) → Calls Try.prog 14 #[.slice ad 1 c, .slice (some ⟨W.heap.size, 0, none⟩) 1 1] (W.alloc (.cells #[.int .i64 0] 3)) fun e w' => e = .returned (.bool true) ∧ Below W.heap.size W w') := Lib.hid fun W ad c hi =>
    (ints_any (hi.out.below (below_alloc W _)) (ints_one W 0) (by simp) (by simp)).mono fun e w' h => ⟨h.1, (below_alloc W _).trans (h.2.mono (by simp))⟩
  have QN : Hid (∀ W, Calls Try.prog 16 #[.string ⟨#[]⟩, .slice (some ⟨W.heap.size, 0, none⟩) 1 1, .int .u8 120] (W.alloc (.cells #[.int .i64 4] 3)) fun e w' => ∃ ad' c', e = .returned (.slice ad' 1 c') ∧ Hid (Ints w' (.slice ad' 1 c') [5]) ∧ Below W.heap.size W w') := Lib.hid fun W =>
    (next_any (q := ⟨#[]⟩) (ints_one W 4) 120 (by decide) (by decide) (by intro i; rcases i with _ | i <;> simp [List.getD])).mono fun e w' h => by
      obtain ⟨v, rfl, h1, h2⟩ := h
      have h3 : w'.ownsRow (W.alloc (.cells #[.int .i64 4] 3)).heap.size 3 1 v 1 (nats [5]) := by
        have e : nextT [] [4] 120 = [5] := next_none'
        have h4 : w'.ownsRow (W.alloc (.cells #[.int .i64 4] 3)).heap.size 3 1 v 1 (nats (nextT [] [4] 120)) := h1
        rw [e] at h4
        exact h4
      obtain ⟨ad', c', rfl⟩ := owns_slice h3
      exact ⟨ad', c', rfl, Lib.hid (ints_of_owns (l := [5]) h3), (below_alloc W _).trans (h2.mono (by simp))⟩
  have QJ : Hid (∀ W ad c, Hid (Ints W (.slice ad 1 c) [5]) → Calls Try.prog 14 #[.slice ad 1 c, .slice (some ⟨W.heap.size, 0, none⟩) 1 1] (W.alloc (.cells #[.int .i64 5] 3)) fun e w' => e = .returned (.bool true) ∧ Below W.heap.size W w') := Lib.hid fun W ad c hi =>
    (ints_any (hi.out.below (below_alloc W _)) (ints_one W 5) (by simp) (by simp)).mono fun e w' h => ⟨h.1, (below_alloc W _).trans (h.2.mono (by simp))⟩
  have QM : Hid (∀ W, Calls Try.prog 16 #[.string ⟨#[97]⟩, .slice (some ⟨W.heap.size, 0, none⟩) 1 1, .int .u8 97] (W.alloc (.cells #[.int .i64 0] 3)) fun e w' => e = .returned (.slice none 0 0) ∧ Below W.heap.size W w') := Lib.hid fun W =>
    (next_none (q := ⟨#[97]⟩) (ints_one W 0) 97 (by decide) (by decide) (by decide)).mono fun e w' h => ⟨h.1, (below_alloc W _).trans (h.2.mono (by simp))⟩
  have QO : Hid (∀ W, Calls Try.prog 16 #[.string ⟨#[97]⟩, .slice none 0 0, .int .u8 97] W fun e w' => e = .returned (.slice none 0 0) ∧ Below W.heap.size W w') := Lib.hid fun W => next_none (q := ⟨#[97]⟩) (ints_nil W) 97 (by decide) (by decide) (by decide)
  have H : Hid (Below w.heap.size w w) := Lib.hid (Below.refl _ _)
  go_enter Try.func6, Try.ntmps6
  go_wp2_with (first
    | (go_at_call 12; (first | (with_reducible refine (A1.out _).mono ?_) | (with_reducible refine (A2.out _).mono ?_)); rintro e w' ⟨rfl, hb⟩; replace H := Lib.hid (H.out.trans (hb.mono H.out.size)); clear hb)
    | (go_at_call 17; (with_reducible refine (QW.out _).mono ?_); rintro e w' ⟨rfl, hb⟩; replace H := Lib.hid (H.out.trans (hb.mono H.out.size)); clear hb)
    | (go_at_call 9; (first | (with_reducible refine (B0.out _).mono ?_) | (with_reducible refine (B1.out _).mono ?_) | (with_reducible refine (B2.out _).mono ?_) | (with_reducible refine (B3.out _).mono ?_) | (with_reducible refine (B4.out _).mono ?_)); rintro e w' ⟨rfl, hb⟩; replace H := Lib.hid (H.out.trans (hb.mono H.out.size)); clear hb)
    | (go_at_call 10; (first | (with_reducible refine (C0.out _).mono ?_) | (with_reducible refine (C1.out _).mono ?_) | (with_reducible refine (C2.out _).mono ?_) | (with_reducible refine (C3.out _).mono ?_) | (with_reducible refine (C4.out _).mono ?_)); rintro e w' ⟨rfl, hb⟩; replace H := Lib.hid (H.out.trans (hb.mono H.out.size)); clear hb)
    | (go_at_call 13; (with_reducible refine (QR.out _).mono ?_); rintro e w' ⟨ad, c, rfl, HI, hb⟩; replace H := Lib.hid (H.out.trans (hb.mono H.out.size)); clear hb)
    | (go_at_call 16; (with_reducible refine (QN.out _).mono ?_); rintro e w' ⟨ad', c', rfl, HJ, hb⟩; replace H := Lib.hid (H.out.trans (hb.mono H.out.size)); clear hb)
    | (go_at_call 16; (first | (with_reducible refine (QM.out _).mono ?_) | (with_reducible refine (QO.out _).mono ?_)); rintro e w' ⟨rfl, hb⟩; replace H := Lib.hid (H.out.trans (hb.mono H.out.size)); clear hb)
    | (go_at_call 14; (with_reducible refine (QI.out _ _ _ HI).mono ?_); rintro e w' ⟨rfl, hb⟩; replace H := Lib.hid (H.out.trans (hb.mono H.out.size)); clear hb)
    | (go_at_call 14; (with_reducible refine (QJ.out _ _ _ HJ).mono ?_); rintro e w' ⟨rfl, hb⟩; replace H := Lib.hid (H.out.trans (hb.mono H.out.size)); clear hb))
  go_ret
  exact ⟨rfl, H.out⟩
end Go.Proofs.Ytbdbcfidbapioaa
namespace Go.Proofs.Ytbdbcfidbapioaa
open Go.RowKit Go.Shelf Said

/-- A text's first bytes, at most m. -/
def firsts (s : ByteArray) (m : Nat) : ByteArray := s.extract 0 (min s.size m)
theorem firsts_size (s : ByteArray) (m : Nat) : (firsts s m).size = min s.size m := by
  unfold firsts
  rw [ByteArray.size_extract]
  omega

theorem belowN {B : Nat} {a w : World} (h : Below B a w) (q : Nat) : Below B a (w.drewN q) := ⟨h.os, h.tape, h.output, h.size, h.block⟩

set_option maxHeartbeats 10000000 in
set_option maxRecDepth 100000 in
theorem prunes_walk (q0 s0 : ByteArray) (k : Nat) (w : World) (hq0 : q0.size ≤ maxLen) (hs0 : s0.size ≤ maxLen) (hk : k < 256) :
    Calls Try.prog 7 #[.string q0, .string s0, .int .u8 (k : Int)] w fun e w' => e = .returned (.bool true) ∧ Below w.heap.size w w' := by
  unfold maxLen at hq0 hs0
  obtain ⟨kq, hkq⟩ : ∃ kq, kq = min q0.size 40 := ⟨_, rfl⟩
  obtain ⟨ks, hks⟩ : ∃ ks, ks = min s0.size 60 := ⟨_, rfl⟩
  have m1 : (if (40 : Int) < (q0.size : Int) then 40 else (q0.size : Int)) = (kq : Int) := by split <;> omega
  have m2 : (if (60 : Int) < (s0.size : Int) then 60 else (s0.size : Int)) = (ks : Int) := by split <;> omega
  have i1 : (kq : Int) ≤ (q0.size : Int) := by omega
  have i2 : (ks : Int) ≤ (s0.size : Int) := by omega
  have QW := Lib.hid works_any
  have HQ0 := Lib.hid (And.intro hkq hks)
  clear hkq hks
  go_enter Try.func7, Try.ntmps7
  go_wp2_with (go_at_call 17; (with_reducible refine (QW.out _).mono ?_); rintro e w1 ⟨rfl, hb1⟩)
  go_region
  obtain ⟨Q, hQ⟩ : ∃ Q, Q = q0.extract 0 kq := ⟨_, rfl⟩
  obtain ⟨S, hS⟩ : ∃ S, S = s0.extract 0 ks := ⟨_, rfl⟩
  have hQs : Q.size ≤ 40 := by rw [hQ, ByteArray.size_extract]; have := HQ0.out; omega
  have hSs : S.size ≤ 60 := by rw [hS, ByteArray.size_extract]; have := HQ0.out; omega
  rw [← hQ, ← hS]
  clear hQ hS m1 m2 i1 i2
  have QR := Lib.hid (fun W => row_any Q W (by omega))
  obtain ⟨n, hn⟩ : ∃ n, n = Q.size := ⟨_, rfl⟩
  obtain ⟨m, hm⟩ : ∃ m, m = S.size := ⟨_, rfl⟩
  rw [← hn] at hQs QR
  rw [← hm] at hSs
  have HN := Lib.hid (And.intro hn hm)
  have es : (Q.size : Int) = (n : Int) := by rw [hn]
  have et : (S.size : Int) = (m : Int) := by rw [hm]
  obtain ⟨kk, hkk⟩ : ∃ kk, kk = k % 4 := ⟨_, rfl⟩
  have hkk4 : kk < 4 := by omega
  have HKK := Lib.hid hkk
  have H1 := Lib.hid (Below.drew hb1)
  clear hn hm hb1 hkk
  go_wp2_with (go_at_call 13; (with_reducible refine (QR.out _).mono ?_); rintro e w2 ⟨rv, rfl, hrow, hb2⟩; obtain ⟨ad, cp, hv⟩ := owns_slice hrow; subst hv)
  have H2 := Lib.hid (H1.out.trans (hb2.mono H1.out.size))
  have HR : Hid (w2.ownsRow w.heap.size 3 1 (.slice ad (n + 1) cp) (n + 1) (nats (rowT Q.data.toList (S.data.toList.take 0)))) := Lib.hid (by
    rw [List.take_zero, rowT_nil, ba_length, ← HN.out.1]
    exact owns_mono hrow H1.out.size)
  clear hrow hb2 QW QR H1
  go_loopw [7, 8, 9, 10] (fun s7 s8 s9 s10 wr => ∃ (i : Nat) (ad : Option Addr) (cp : Nat), i ≤ m + 1 ∧ s10 = .int .i64 (i : Int) ∧ s7 = .slice ad (n + 1) cp ∧ s8 = .int .i64 ((wasT Q.data.toList S.data.toList i : Nat) : Int) ∧ s9 = .bool (ovT Q.data.toList S.data.toList kk i) ∧ Hid (i ≤ m → wr.ownsRow w.heap.size 3 1 (.slice ad (n + 1) cp) (n + 1) (nats (rowT Q.data.toList (S.data.toList.take i)))) ∧ Hid (Below w.heap.size w wr)) (fun _ _ _ s10 _ => m + 1 - (intOf s10).toNat)
  case atStart => exact ⟨0, ad, cp, by omega, rfl, rfl, rfl, rfl, Lib.hid fun _ => HR.out, H2⟩
  case round =>
    obtain ⟨i, ad, cp, hi, rfl, rfl, rfl, rfl, HO, HB⟩ := hrel
    obtain ⟨wo, rfl⟩ : ∃ wo : World, wo = wr := ⟨_, rfl⟩
    by_cases hlt : i ≤ m
    · have d1 : decide ((i : Int) ≤ (m : Int)) = true := decide_eq_true (by omega)
      have d2 : decide (i ≤ m) = true := decide_eq_true hlt
      have ho := HO.out hlt
      obtain ⟨g, rfl⟩ : ∃ g, ad = some ⟨g, 0, none⟩ := by
        rcases ho.2 with ⟨h1, h0⟩ | ⟨g, cap, cur, h1, _⟩
        · omega
        · injection h1 with h1; exact ⟨g, h1⟩
      obtain ⟨R, hR⟩ : ∃ R, R = rowT Q.data.toList (S.data.toList.take i) := ⟨_, rfl⟩
      rw [← hR] at ho
      have hRl : R.length = n + 1 := by rw [hR, rowT_length, ba_length, HN.out.1]
      have HC : Hid (∀ W, Below wo.heap.size wo W → ∀ j, j < n + 1 → W.cell? ⟨g, j, none⟩ = some (.int .i64 ((R.getD j 0 : Nat) : Int))) := Lib.hid fun W hb j hj => by
        rw [(owns_below ho hb).cellAt j (by omega), nats_at (by omega)]
      have HRb : Hid (∀ j, R.getD j 0 ≤ 100) := Lib.hid fun j => by
        rw [hR]
        have h1 := rowT_bound Q.data.toList (S.data.toList.take i) j
        have h2 : (S.data.toList.take i).length ≤ S.data.toList.length := List.length_take_le' _ _
        rw [ba_length] at h1 h2
        have := HN.out
        omega
      have HRn : Hid (∀ j, j < n → R.getD (j + 1) 0 ≤ R.getD j 0 + 1 ∧ R.getD j 0 ≤ R.getD (j + 1) 0 + 1) := Lib.hid fun j hj => by
        rw [hR, rowT_at (by rw [ba_length]; have := HN.out.1; omega), rowT_at (by rw [ba_length]; have := HN.out.1; omega)]
        exact rowT_near (by rw [ba_length, ← HN.out.1]; exact hj)
      have HRR := Lib.hid (And.intro hR hRl)
      have c0 := HC.out wo (Below.refl _ _) 0 (by omega)
      obtain ⟨r0, hr0⟩ : ∃ r0, R.getD 0 0 = r0 := ⟨_, rfl⟩
      rw [hr0] at c0
      have HR0 := Lib.hid hr0
      clear ho hR hRl hr0
      obtain ⟨wa, hwa⟩ : ∃ x, wasT Q.data.toList S.data.toList i = x := ⟨_, rfl⟩
      obtain ⟨ov, hov⟩ : ∃ x, ovT Q.data.toList S.data.toList kk i = x := ⟨_, rfl⟩
      rw [hwa, hov]
      have HWO := Lib.hid (And.intro hwa hov)
      clear hwa hov
      have n1 : (0 : Int) < (n : Int) + 1 := by omega
      go_wp2
      go_loopw [11, 12] (fun s11 s12 w3 => ∃ j : Nat, j ≤ n + 1 ∧ s12 = .int .i64 (j : Int) ∧ s11 = .int .i64 (((R.take j).foldl min r0 : Nat) : Int) ∧ Hid (Below wo.heap.size wo w3)) (fun _ s12 _ => n + 1 - (intOf s12).toNat)
      case atStart => exact ⟨0, Nat.zero_le _, rfl, rfl, Lib.hid (Below.refl _ _)⟩
      case round =>
        obtain ⟨j, hj, rfl, rfl, HB3⟩ := hrel
        by_cases hjn : j < n + 1
        · have d3 : decide ((j : Int) < ((n + 1 : Nat) : Int)) = true := decide_eq_true (by omega)
          have d4 : decide (j < n + 1) = true := decide_eq_true hjn
          have d5 : decide ((j : Int) < (n : Int) + 1) = true := decide_eq_true (by omega)
          have cj := HC.out wr HB3.out j hjn
          have hf := foldl_take_succ R r0 j (by rw [HRR.out.2]; exact hjn)
          have hxb := HRb.out j
          obtain ⟨x, hx⟩ : ∃ x, R.getD j 0 = x := ⟨_, rfl⟩
          obtain ⟨lm, hlm⟩ : ∃ lm, (R.take j).foldl min r0 = lm := ⟨_, rfl⟩
          rw [hx] at cj hf hxb
          rw [hlm] at hf ⊢
          have il : (j : Int) < (n : Int) + 1 := by omega
          have HF := Lib.hid hf
          have HX := Lib.hid hx
          clear hf hx hlm
          have hmin : ∃ lm', Hid (lm' = min lm x) ∧ ((x < lm ∧ (x : Int) < (lm : Int) ∧ lm' = x) ∨ (¬ x < lm ∧ ¬ (x : Int) < (lm : Int) ∧ lm' = lm)) := by
            refine ⟨_, Lib.hid rfl, ?_⟩
            by_cases h : x < lm
            · exact .inl ⟨h, by omega, by omega⟩
            · exact .inr ⟨h, by omega, by omega⟩
          obtain ⟨lm', HL, hcase⟩ := hmin
          by_cases hj0 : j = 0
          · have d6 : decide ((0 : Int) < (j : Int)) = false := decide_eq_false (by omega)
            have d7 : decide (0 < j) = false := decide_eq_false (by omega)
            clear hj0
            rcases hcase with ⟨f1, f2, rfl⟩ | ⟨f1, f2, rfl⟩
            all_goals
              go_wp2
              go_quiet (fail)
              go_wp2
              exact ⟨⟨j + 1, by omega, by go_num, by rw [HF.out, ← HL.out], Lib.hid (belowN HB3.out _)⟩, by simp [intOf]; omega⟩
          · obtain ⟨t, rfl⟩ : ∃ t, j = t + 1 := ⟨j - 1, by omega⟩
            have d6 : decide ((0 : Int) < ((t + 1 : Nat) : Int)) = true := decide_eq_true (by omega)
            have d6' : decide ((0 : Int) < (t : Int) + 1) = true := decide_eq_true (by omega)
            have d7 : decide (0 < t + 1) = true := decide_eq_true (by omega)
            have ct := HC.out wr HB3.out t (by omega)
            have hnear := HRn.out t (by omega)
            rw [HX.out] at hnear
            obtain ⟨y, hy⟩ : ∃ y, R.getD t 0 = y := ⟨_, rfl⟩
            rw [hy] at ct hnear
            have wt : IntKind.i64.wrap (t : Int) = (t : Int) := IntWalk.i64_in _ (by omega)
            have wt2 : IntKind.i64.wrap ((t : Int) + 1 - 1) = (t : Int) := by rw [show (t : Int) + 1 - 1 = t by omega]; exact wt
            have w1 : IntKind.i64.wrap ((x : Int) - (y : Int)) = (x : Int) - (y : Int) := IntWalk.i64_in _ (by omega)
            have w2 : IntKind.i64.wrap ((y : Int) - (x : Int)) = (y : Int) - (x : Int) := IntWalk.i64_in _ (by omega)
            have g1 : decide ((1 : Int) < (x : Int) - (y : Int)) = false := decide_eq_false (by omega)
            have g2 : decide ((1 : Int) < (y : Int) - (x : Int)) = false := decide_eq_false (by omega)
            have it : (t : Int) < (n : Int) + 1 := by omega
            clear hy
            rcases hcase with ⟨f1, f2, rfl⟩ | ⟨f1, f2, rfl⟩
            all_goals
              go_wp2
              go_quiet (fail)
              go_wp2
              exact ⟨⟨t + 1 + 1, by omega, by go_num, by rw [HF.out, ← HL.out], Lib.hid (belowN HB3.out _)⟩, by simp [intOf]; omega⟩
        · have hje : j = n + 1 := by omega
          have d3 : decide ((j : Int) < ((n + 1 : Nat) : Int)) = false := decide_eq_false (by omega)
          have d4 : decide (j < n + 1) = false := decide_eq_false hjn
          have d5 : decide ((j : Int) < (n : Int) + 1) = false := decide_eq_false (by omega)
          have hmn : (R.take j).foldl min r0 = minT R := by
            rw [List.take_of_length_le (by rw [HRR.out.2]; omega), ← HR0.out, foldl_head (by rw [HRR.out.2]; omega)]
          rw [hmn]
          clear hje hjn hmn
          have hlt' : i ≤ m := hlt
          obtain ⟨ml, hml⟩ : ∃ ml, minT R = ml := ⟨_, rfl⟩
          obtain ⟨V, hV⟩ : ∃ V, lev Q.data.toList (S.data.toList.take i) = V := ⟨_, rfl⟩
          have hti : (S.extract 0 i).data.toList = S.data.toList.take i := by rw [ba_extract, List.drop_zero, Nat.sub_zero]
          have hVR : R.getD n 0 = V := by
            rw [HRR.out.1, rowT_at (by rw [ba_length, HN.out.1]; exact Nat.le_refl _), show n = Q.data.toList.length by rw [ba_length]; exact HN.out.1, List.take_length, hV]
          have hmV : ml ≤ V := by rw [← hml, ← hV, HRR.out.1]; exact minT_row_lev _ _
          have hVb : V ≤ 100 := by rw [← hVR]; exact HRb.out n
          have hwas : 0 < i → wa ≤ ml ∧ ml ≤ wa + 1 := fun h => by
            rw [← HWO.out.1, ← hml, HRR.out.1]
            exact was_step _ _ i h (by rw [ba_length, ← HN.out.2]; exact hlt)
          have hovV : ov = true → kk < V := fun h => by
            rw [← hV]
            exact ovT_lev _ _ kk i i (by omega) (by rw [HWO.out.2]; exact h)
          have HNX : Hid (wasT Q.data.toList S.data.toList (i + 1) = ml ∧ ovT Q.data.toList S.data.toList kk (i + 1) = (ov || decide (kk < ml))) := Lib.hid ⟨by unfold wasT; rw [if_neg (by omega), Nat.add_sub_cancel, ← HRR.out.1, hml], by show (ovT _ _ kk i || _) = _; rw [HWO.out.2, ← HRR.out.1, hml]⟩
          have QO : Hid (∀ W, Calls Try.prog 9 #[.string Q, .string (S.extract 0 i)] W fun e w' => e = .returned (.int .i64 (V : Int)) ∧ Below W.heap.size W w') := Lib.hid fun W => by
            have h := of_any Q (S.extract 0 i) W (by have := HN.out; omega) (by rw [ByteArray.size_extract]; have := HN.out; omega)
            rw [hti, hV] at h
            exact h
          have QI0 : Hid (∀ W, Calls Try.prog 12 #[.string Q, .string (S.extract 0 i), .int .i64 (kk : Int)] W fun e w' => e = .returned (.tuple #[.int .i64 (if (V : Int) ≤ (kk : Int) then (V : Int) else 0), .bool (decide ((V : Int) ≤ (kk : Int)))]) ∧ Below W.heap.size W w') := Lib.hid fun W => by
            have h := within_any Q (S.extract 0 i) (kk : Int) W (by have := HN.out; omega) (by rw [ByteArray.size_extract]; have := HN.out; omega)
            unfold within at h
            rw [hti, hV] at h
            exact h
          have HCV : Hid (∀ W, Below wr.heap.size wr W → W.cell? ⟨g, n, none⟩ = some (.int .i64 (V : Int))) := Lib.hid fun W hb => by
            rw [← hVR]
            exact HC.out W (HB3.out.trans (hb.mono HB3.out.size)) n (by omega)
          have hwab : wa ≤ 100 := by
            rw [← HWO.out.1]
            unfold wasT
            split
            · omega
            · have h1 := minT_bound Q.data.toList (S.data.toList.take (i - 1))
              have h2 : (S.data.toList.take (i - 1)).length ≤ S.data.toList.length := List.length_take_le' _ _
              rw [ba_length] at h2
              have := HN.out
              omega
          have r1 : (k : Int) % 4 = (kk : Int) := by have := HKK.out; omega
          have r2 : (k : Int).tmod 4 = (kk : Int) := by rw [Int.tmod_eq_emod_of_nonneg (by omega)]; exact r1
          have r3 : k % 4 = kk := HKK.out.symm
          have ji : (i : Int) ≤ (m : Int) := by omega
          have wn : IntKind.i64.wrap (n : Int) = (n : Int) := IntWalk.i64_in _ (by omega)
          have wn2 : IntKind.i64.wrap ((n : Int) + 1 - 1) = (n : Int) := by rw [show (n : Int) + 1 - 1 = n by omega]; exact wn
          have ww : IntKind.i64.wrap ((wa : Int) + 1) = (wa : Int) + 1 := IntWalk.i64_in _ (by omega)
          have nn : (n : Int) < (n : Int) + 1 := by omega
          have ee : ((V : Int) == (V : Int)) = true := by simp
          have HMORE := Lib.hid (And.intro hmV (And.intro hovV (And.intro hVb (And.intro hti (And.intro hVR hV)))))
          rw [hml]
          have HML := Lib.hid hml
          clear hV hti hVR hmV hVb hovV hml
          have QX : Hid (∀ W, Below wo.heap.size wo W → i < m → Calls Try.prog 16 #[.string Q, .slice (some ⟨g, 0, none⟩) (n + 1) cp, .int .u8 ((S.data.toList.getD i 0).toNat : Int)] W fun e w' => ∃ ad' cp', e = .returned (.slice ad' (n + 1) cp') ∧ Hid (w'.ownsRow w.heap.size 3 1 (.slice ad' (n + 1) cp') (n + 1) (nats (rowT Q.data.toList (S.data.toList.take (i + 1))))) ∧ Below W.heap.size W w') := Lib.hid fun W hb him => by
            have hin : Ints W (.slice (some ⟨g, 0, none⟩) (n + 1) cp) R := by
              refine ⟨_, cp, by rw [HRR.out.2], fun t ht => ⟨g, 0, rfl, ?_⟩⟩
              rw [Nat.zero_add]
              exact HC.out W hb t (by rw [← HRR.out.2]; exact ht)
            refine (next_any (q := Q) hin (S.data.toList.getD i 0) (by have := HN.out.1; omega) (by rw [HRR.out.2, HN.out.1]) (fun t => Nat.le_trans (HRb.out t) (by omega))).mono fun e w' h => ?_
            obtain ⟨v, rfl, h1, h2⟩ := h
            rw [HRR.out.1, nextT_row, ← take_next S.data.toList i (by rw [ba_length, ← HN.out.2]; exact him), ← HN.out.1] at h1
            obtain ⟨ad', cp', rfl⟩ := owns_slice h1
            exact ⟨ad', cp', rfl, Lib.hid (owns_mono h1 (by have := HB.out.size; have := hb.size; omega)), h2⟩
          by_cases hi0 : 0 < i
          · have d6 : decide ((0 : Int) < (i : Int)) = true := decide_eq_true (by omega)
            have d7 : decide (0 < i) = true := decide_eq_true hi0
            obtain ⟨ws1, ws2⟩ := hwas hi0
            have d8 : decide (ml < wa) = false := decide_eq_false (by omega)
            have d8' : decide ((ml : Int) < (wa : Int)) = false := decide_eq_false (by omega)
            have d9 : decide (wa + 1 < ml) = false := decide_eq_false (by omega)
            have d9' : decide ((wa : Int) + 1 < (ml : Int)) = false := decide_eq_false (by omega)
            clear hwas ws1 ws2 hi0
            go_upto_region 16 with fail
            refine Said.region (by kernel_rfl) (by kernel_rfl) (by kernel_rfl) [.is (.int .i64 (i : Int)), .is (.bool true), .is (.bool true), .is (.int .i64 (ml : Int)), .is (.int .i64 (wa : Int)), .is (.bool false), .is (.bool false), .is (.int .i64 (ml : Int)), .is (.int .i64 (wa : Int)), .is (.int .i64 ((wa : Int) + 1)), .is (.bool false), .is (.bool false), .is (.bool false), .is (.bool false), .is (.slice (some ⟨g, 0, none⟩) (n + 1) cp), .is (.slice (some ⟨g, 0, none⟩) (n + 1) cp), .is (.int .i64 ((n : Int) + 1)), .is (.int .i64 (n : Int)), .is (.pointer (some ⟨g, n, none⟩)), .is (.int .i64 (V : Int)), .is (.string Q), .is (.string S), .is (.int .i64 (i : Int)), .is (.string (S.extract 0 i)), .is (.int .i64 (V : Int)), .is (.bool false), .is (.bool false)] ?_
            simp only [List.toList_toArray]
            iterate 24 (
              refine sq_pure (by rfl) (fun W hb _ => ?_) ?_
              · have y1 := HCV.out W hb
                go_simp
                all_goals first | done | omega
              simp only [Act.put, List.setIfInBounds_toArray, List.set_cons_zero, List.set_cons_succ])
            refine sq_call (f := 9) (args := #[.string Q, .string (S.extract 0 i)]) (by rfl) (fun W => by go_simp) (fun W hb _ => QO.out W) ?_
            simp only [Act.put, List.setIfInBounds_toArray, List.set_cons_zero, List.set_cons_succ]
            iterate 2 (
              refine sq_pure (by rfl) (fun W hb _ => ?_) ?_
              · have y1 := HCV.out W hb
                go_simp
                all_goals first | done | omega
              simp only [Act.put, List.setIfInBounds_toArray, List.set_cons_zero, List.set_cons_succ])
            refine sq_end (fun w5 hb5 hK5 => ?_)
            have HB5 := Lib.hid (HB3.out.trans (hb5.mono HB3.out.size))
            clear hK5 hb5
            clear d6 d7 d8 d8' d9 d9' ww wn wn2 nn ee
            have hcs : (V ≤ kk ∧ ov = false ∧ ¬ kk < ml) ∨ (kk < V ∧ ov = true) ∨ (kk < V ∧ ov = false ∧ kk < ml) ∨ (kk < V ∧ ov = false ∧ ¬ kk < ml) := by
              obtain ⟨a1, a2, -⟩ := HMORE.out
              by_cases h1 : V ≤ kk
              · refine .inl ⟨h1, ?_, by omega⟩
                cases ov with
                | false => rfl
                | true => have := a2 rfl; omega
              · cases ov with
                | true => exact .inr (.inl ⟨by omega, rfl⟩)
                | false =>
                  by_cases h2 : kk < ml
                  · exact .inr (.inr (.inl ⟨by omega, rfl, h2⟩))
                  · exact .inr (.inr (.inr ⟨by omega, rfl, h2⟩))
            have fin7 : Hid (∀ W, Below w5.heap.size w5 W → Below w.heap.size w W) := Lib.hid fun W hb => HB.out.trans ((HB5.out.trans (hb.mono HB5.out.size)).mono HB.out.size)
            have q1 : V ≤ kk → Hid (∀ W, Calls Try.prog 12 #[.string Q, .string (S.extract 0 i), .int .i64 (kk : Int)] W fun e w' => e = .returned (.tuple #[.int .i64 (V : Int), .bool true]) ∧ Below W.heap.size W w') := fun h => Lib.hid fun W => by
              have h2 := QI0.out W
              rw [if_pos (by omega), decide_eq_true (by omega)] at h2
              exact h2
            have q2 : kk < V → Hid (∀ W, Calls Try.prog 12 #[.string Q, .string (S.extract 0 i), .int .i64 (kk : Int)] W fun e w' => e = .returned (.tuple #[.int .i64 0, .bool false]) ∧ Below W.heap.size W w') := fun h => Lib.hid fun W => by
              have h2 := QI0.out W
              rw [if_neg (by omega), decide_eq_false (by omega)] at h2
              exact h2
            by_cases him : i < m
            · have d6 : decide ((i : Int) < (m : Int)) = true := decide_eq_true (by omega)
              have d7 : decide (i < m) = true := decide_eq_true him
              have hiS : i < S.size := by rw [← HN.out.2]; exact him
              obtain ⟨xs, hxs⟩ : ∃ x, S[i] = x := ⟨_, rfl⟩
              have hxs' : S.data.toList.getD i 0 = xs := by rw [byte_getD S i hiS]; exact hxs
              have iS : (i : Int) < (m : Int) := by omega
              have QY := Lib.hid (fun W (hb : Below w5.heap.size w5 W) => QX.out W (HB5.out.trans (hb.mono HB5.out.size)) him)
              rw [hxs'] at QY
              have HXS := Lib.hid hxs
              clear hxs hxs' him
              rcases hcs with ⟨hv, rfl, hp⟩ | ⟨hv, rfl⟩ | ⟨hv, rfl, hp⟩ | ⟨hv, rfl, hp⟩
              · have QI := q1 hv
                have p1 : decide ((kk : Int) < (ml : Int)) = false := decide_eq_false (by omega)
                have p2 : decide (kk < ml) = false := decide_eq_false hp
                clear hv hp q1 q2
                go_wp2_with (first
                  | (go_at_call 12; (with_reducible refine (QI.out _).mono ?_); rintro e w6 ⟨rfl, hb6⟩)
                  | (go_at_call 16; rw [HXS.out]; (with_reducible refine (QY.out _ hb6).mono ?_); rintro e w7 ⟨ad7, cp7, rfl, HO7, hb7⟩))
                exact ⟨⟨i + 1, ad7, cp7, by omega, by go_num, rfl, by rw [HNX.out.1], by rw [HNX.out.2, p2]; rfl, Lib.hid fun _ => HO7.out, Lib.hid (fin7.out _ (hb6.trans (hb7.mono hb6.size)))⟩, by simp [intOf]; omega⟩
              · have QI := q2 hv
                clear hv q1 q2
                go_wp2_with (first
                  | (go_at_call 12; (with_reducible refine (QI.out _).mono ?_); rintro e w6 ⟨rfl, hb6⟩)
                  | (go_at_call 16; rw [HXS.out]; (with_reducible refine (QY.out _ hb6).mono ?_); rintro e w7 ⟨ad7, cp7, rfl, HO7, hb7⟩))
                exact ⟨⟨i + 1, ad7, cp7, by omega, by go_num, rfl, by rw [HNX.out.1], by rw [HNX.out.2]; rfl, Lib.hid fun _ => HO7.out, Lib.hid (fin7.out _ (hb6.trans (hb7.mono hb6.size)))⟩, by simp [intOf]; omega⟩
              · have QI := q2 hv
                have p1 : decide ((kk : Int) < (ml : Int)) = true := decide_eq_true (by omega)
                have p2 : decide (kk < ml) = true := decide_eq_true hp
                clear hv hp q1 q2
                go_wp2_with (first
                  | (go_at_call 12; (with_reducible refine (QI.out _).mono ?_); rintro e w6 ⟨rfl, hb6⟩)
                  | (go_at_call 16; rw [HXS.out]; (with_reducible refine (QY.out _ hb6).mono ?_); rintro e w7 ⟨ad7, cp7, rfl, HO7, hb7⟩))
                exact ⟨⟨i + 1, ad7, cp7, by omega, by go_num, rfl, by rw [HNX.out.1], by rw [HNX.out.2, p2]; rfl, Lib.hid fun _ => HO7.out, Lib.hid (fin7.out _ (hb6.trans (hb7.mono hb6.size)))⟩, by simp [intOf]; omega⟩
              · have QI := q2 hv
                have p1 : decide ((kk : Int) < (ml : Int)) = false := decide_eq_false (by omega)
                have p2 : decide (kk < ml) = false := decide_eq_false hp
                clear hv hp q1 q2
                go_wp2_with (first
                  | (go_at_call 12; (with_reducible refine (QI.out _).mono ?_); rintro e w6 ⟨rfl, hb6⟩)
                  | (go_at_call 16; rw [HXS.out]; (with_reducible refine (QY.out _ hb6).mono ?_); rintro e w7 ⟨ad7, cp7, rfl, HO7, hb7⟩))
                exact ⟨⟨i + 1, ad7, cp7, by omega, by go_num, rfl, by rw [HNX.out.1], by rw [HNX.out.2, p2]; rfl, Lib.hid fun _ => HO7.out, Lib.hid (fin7.out _ (hb6.trans (hb7.mono hb6.size)))⟩, by simp [intOf]; omega⟩
            · have d6 : decide ((i : Int) < (m : Int)) = false := decide_eq_false (by omega)
              have d7 : decide (i < m) = false := decide_eq_false him
              have hno : Hid (¬ i + 1 ≤ m) := Lib.hid (by omega)
              clear him
              rcases hcs with ⟨hv, rfl, hp⟩ | ⟨hv, rfl⟩ | ⟨hv, rfl, hp⟩ | ⟨hv, rfl, hp⟩
              · have QI := q1 hv
                have p1 : decide ((kk : Int) < (ml : Int)) = false := decide_eq_false (by omega)
                have p2 : decide (kk < ml) = false := decide_eq_false hp
                clear hv hp q1 q2
                go_wp2_with (go_at_call 12; (with_reducible refine (QI.out _).mono ?_); rintro e w6 ⟨rfl, hb6⟩)
                exact ⟨⟨i + 1, _, _, by omega, by go_num, rfl, by rw [HNX.out.1], by rw [HNX.out.2, p2]; rfl, Lib.hid fun h => (hno.out h).elim, Lib.hid (fin7.out _ hb6)⟩, by simp [intOf]; omega⟩
              · have QI := q2 hv
                clear hv q1 q2
                go_wp2_with (go_at_call 12; (with_reducible refine (QI.out _).mono ?_); rintro e w6 ⟨rfl, hb6⟩)
                exact ⟨⟨i + 1, _, _, by omega, by go_num, rfl, by rw [HNX.out.1], by rw [HNX.out.2]; rfl, Lib.hid fun h => (hno.out h).elim, Lib.hid (fin7.out _ hb6)⟩, by simp [intOf]; omega⟩
              · have QI := q2 hv
                have p1 : decide ((kk : Int) < (ml : Int)) = true := decide_eq_true (by omega)
                have p2 : decide (kk < ml) = true := decide_eq_true hp
                clear hv hp q1 q2
                go_wp2_with (go_at_call 12; (with_reducible refine (QI.out _).mono ?_); rintro e w6 ⟨rfl, hb6⟩)
                exact ⟨⟨i + 1, _, _, by omega, by go_num, rfl, by rw [HNX.out.1], by rw [HNX.out.2, p2]; rfl, Lib.hid fun h => (hno.out h).elim, Lib.hid (fin7.out _ hb6)⟩, by simp [intOf]; omega⟩
              · have QI := q2 hv
                have p1 : decide ((kk : Int) < (ml : Int)) = false := decide_eq_false (by omega)
                have p2 : decide (kk < ml) = false := decide_eq_false hp
                clear hv hp q1 q2
                go_wp2_with (go_at_call 12; (with_reducible refine (QI.out _).mono ?_); rintro e w6 ⟨rfl, hb6⟩)
                exact ⟨⟨i + 1, _, _, by omega, by go_num, rfl, by rw [HNX.out.1], by rw [HNX.out.2, p2]; rfl, Lib.hid fun h => (hno.out h).elim, Lib.hid (fin7.out _ hb6)⟩, by simp [intOf]; omega⟩
          · have d6 : decide ((0 : Int) < (i : Int)) = false := decide_eq_false (by omega)
            have d7 : decide (0 < i) = false := decide_eq_false (by omega)
            clear hwas hi0
            go_upto_region 16 with fail
            refine Said.region (by kernel_rfl) (by kernel_rfl) (by kernel_rfl) [.is (.int .i64 (i : Int)), .is (.bool false), .is (.bool false), .is undef, .is undef, .is undef, .is undef, .is undef, .is undef, .is undef, .is undef, .is undef, .is (.bool false), .is (.bool false), .is (.slice (some ⟨g, 0, none⟩) (n + 1) cp), .is (.slice (some ⟨g, 0, none⟩) (n + 1) cp), .is (.int .i64 ((n : Int) + 1)), .is (.int .i64 (n : Int)), .is (.pointer (some ⟨g, n, none⟩)), .is (.int .i64 (V : Int)), .is (.string Q), .is (.string S), .is (.int .i64 (i : Int)), .is (.string (S.extract 0 i)), .is (.int .i64 (V : Int)), .is (.bool false), .is (.bool false)] ?_
            simp only [List.toList_toArray]
            iterate 3 (
              refine sq_pure (by rfl) (fun W hb _ => ?_) ?_
              · have y1 := HCV.out W hb
                go_simp
                all_goals first | done | omega
              simp only [Act.put, List.setIfInBounds_toArray, List.set_cons_zero, List.set_cons_succ])
            iterate 9 (
              refine sq_struck (by rfl) ?_
              simp only [Act.put, List.setIfInBounds_toArray, List.set_cons_zero, List.set_cons_succ])
            iterate 12 (
              refine sq_pure (by rfl) (fun W hb _ => ?_) ?_
              · have y1 := HCV.out W hb
                go_simp
                all_goals first | done | omega
              simp only [Act.put, List.setIfInBounds_toArray, List.set_cons_zero, List.set_cons_succ])
            refine sq_call (f := 9) (args := #[.string Q, .string (S.extract 0 i)]) (by rfl) (fun W => by go_simp) (fun W hb _ => QO.out W) ?_
            simp only [Act.put, List.setIfInBounds_toArray, List.set_cons_zero, List.set_cons_succ]
            iterate 2 (
              refine sq_pure (by rfl) (fun W hb _ => ?_) ?_
              · have y1 := HCV.out W hb
                go_simp
                all_goals first | done | omega
              simp only [Act.put, List.setIfInBounds_toArray, List.set_cons_zero, List.set_cons_succ])
            refine sq_end (fun w5 hb5 hK5 => ?_)
            have HB5 := Lib.hid (HB3.out.trans (hb5.mono HB3.out.size))
            clear hK5 hb5
            clear d6 d7 ww wn wn2 nn ee
            have hcs : (V ≤ kk ∧ ov = false ∧ ¬ kk < ml) ∨ (kk < V ∧ ov = true) ∨ (kk < V ∧ ov = false ∧ kk < ml) ∨ (kk < V ∧ ov = false ∧ ¬ kk < ml) := by
              obtain ⟨a1, a2, -⟩ := HMORE.out
              by_cases h1 : V ≤ kk
              · refine .inl ⟨h1, ?_, by omega⟩
                cases ov with
                | false => rfl
                | true => have := a2 rfl; omega
              · cases ov with
                | true => exact .inr (.inl ⟨by omega, rfl⟩)
                | false =>
                  by_cases h2 : kk < ml
                  · exact .inr (.inr (.inl ⟨by omega, rfl, h2⟩))
                  · exact .inr (.inr (.inr ⟨by omega, rfl, h2⟩))
            have fin7 : Hid (∀ W, Below w5.heap.size w5 W → Below w.heap.size w W) := Lib.hid fun W hb => HB.out.trans ((HB5.out.trans (hb.mono HB5.out.size)).mono HB.out.size)
            have q1 : V ≤ kk → Hid (∀ W, Calls Try.prog 12 #[.string Q, .string (S.extract 0 i), .int .i64 (kk : Int)] W fun e w' => e = .returned (.tuple #[.int .i64 (V : Int), .bool true]) ∧ Below W.heap.size W w') := fun h => Lib.hid fun W => by
              have h2 := QI0.out W
              rw [if_pos (by omega), decide_eq_true (by omega)] at h2
              exact h2
            have q2 : kk < V → Hid (∀ W, Calls Try.prog 12 #[.string Q, .string (S.extract 0 i), .int .i64 (kk : Int)] W fun e w' => e = .returned (.tuple #[.int .i64 0, .bool false]) ∧ Below W.heap.size W w') := fun h => Lib.hid fun W => by
              have h2 := QI0.out W
              rw [if_neg (by omega), decide_eq_false (by omega)] at h2
              exact h2
            by_cases him : i < m
            · have d6 : decide ((i : Int) < (m : Int)) = true := decide_eq_true (by omega)
              have d7 : decide (i < m) = true := decide_eq_true him
              have hiS : i < S.size := by rw [← HN.out.2]; exact him
              obtain ⟨xs, hxs⟩ : ∃ x, S[i] = x := ⟨_, rfl⟩
              have hxs' : S.data.toList.getD i 0 = xs := by rw [byte_getD S i hiS]; exact hxs
              have iS : (i : Int) < (m : Int) := by omega
              have QY := Lib.hid (fun W (hb : Below w5.heap.size w5 W) => QX.out W (HB5.out.trans (hb.mono HB5.out.size)) him)
              rw [hxs'] at QY
              have HXS := Lib.hid hxs
              clear hxs hxs' him
              rcases hcs with ⟨hv, rfl, hp⟩ | ⟨hv, rfl⟩ | ⟨hv, rfl, hp⟩ | ⟨hv, rfl, hp⟩
              · have QI := q1 hv
                have p1 : decide ((kk : Int) < (ml : Int)) = false := decide_eq_false (by omega)
                have p2 : decide (kk < ml) = false := decide_eq_false hp
                clear hv hp q1 q2
                go_wp2_with (first
                  | (go_at_call 12; (with_reducible refine (QI.out _).mono ?_); rintro e w6 ⟨rfl, hb6⟩)
                  | (go_at_call 16; rw [HXS.out]; (with_reducible refine (QY.out _ hb6).mono ?_); rintro e w7 ⟨ad7, cp7, rfl, HO7, hb7⟩))
                exact ⟨⟨i + 1, ad7, cp7, by omega, by go_num, rfl, by rw [HNX.out.1], by rw [HNX.out.2, p2]; rfl, Lib.hid fun _ => HO7.out, Lib.hid (fin7.out _ (hb6.trans (hb7.mono hb6.size)))⟩, by simp [intOf]; omega⟩
              · have QI := q2 hv
                clear hv q1 q2
                go_wp2_with (first
                  | (go_at_call 12; (with_reducible refine (QI.out _).mono ?_); rintro e w6 ⟨rfl, hb6⟩)
                  | (go_at_call 16; rw [HXS.out]; (with_reducible refine (QY.out _ hb6).mono ?_); rintro e w7 ⟨ad7, cp7, rfl, HO7, hb7⟩))
                exact ⟨⟨i + 1, ad7, cp7, by omega, by go_num, rfl, by rw [HNX.out.1], by rw [HNX.out.2]; rfl, Lib.hid fun _ => HO7.out, Lib.hid (fin7.out _ (hb6.trans (hb7.mono hb6.size)))⟩, by simp [intOf]; omega⟩
              · have QI := q2 hv
                have p1 : decide ((kk : Int) < (ml : Int)) = true := decide_eq_true (by omega)
                have p2 : decide (kk < ml) = true := decide_eq_true hp
                clear hv hp q1 q2
                go_wp2_with (first
                  | (go_at_call 12; (with_reducible refine (QI.out _).mono ?_); rintro e w6 ⟨rfl, hb6⟩)
                  | (go_at_call 16; rw [HXS.out]; (with_reducible refine (QY.out _ hb6).mono ?_); rintro e w7 ⟨ad7, cp7, rfl, HO7, hb7⟩))
                exact ⟨⟨i + 1, ad7, cp7, by omega, by go_num, rfl, by rw [HNX.out.1], by rw [HNX.out.2, p2]; rfl, Lib.hid fun _ => HO7.out, Lib.hid (fin7.out _ (hb6.trans (hb7.mono hb6.size)))⟩, by simp [intOf]; omega⟩
              · have QI := q2 hv
                have p1 : decide ((kk : Int) < (ml : Int)) = false := decide_eq_false (by omega)
                have p2 : decide (kk < ml) = false := decide_eq_false hp
                clear hv hp q1 q2
                go_wp2_with (first
                  | (go_at_call 12; (with_reducible refine (QI.out _).mono ?_); rintro e w6 ⟨rfl, hb6⟩)
                  | (go_at_call 16; rw [HXS.out]; (with_reducible refine (QY.out _ hb6).mono ?_); rintro e w7 ⟨ad7, cp7, rfl, HO7, hb7⟩))
                exact ⟨⟨i + 1, ad7, cp7, by omega, by go_num, rfl, by rw [HNX.out.1], by rw [HNX.out.2, p2]; rfl, Lib.hid fun _ => HO7.out, Lib.hid (fin7.out _ (hb6.trans (hb7.mono hb6.size)))⟩, by simp [intOf]; omega⟩
            · have d6 : decide ((i : Int) < (m : Int)) = false := decide_eq_false (by omega)
              have d7 : decide (i < m) = false := decide_eq_false him
              have hno : Hid (¬ i + 1 ≤ m) := Lib.hid (by omega)
              clear him
              rcases hcs with ⟨hv, rfl, hp⟩ | ⟨hv, rfl⟩ | ⟨hv, rfl, hp⟩ | ⟨hv, rfl, hp⟩
              · have QI := q1 hv
                have p1 : decide ((kk : Int) < (ml : Int)) = false := decide_eq_false (by omega)
                have p2 : decide (kk < ml) = false := decide_eq_false hp
                clear hv hp q1 q2
                go_wp2_with (go_at_call 12; (with_reducible refine (QI.out _).mono ?_); rintro e w6 ⟨rfl, hb6⟩)
                exact ⟨⟨i + 1, _, _, by omega, by go_num, rfl, by rw [HNX.out.1], by rw [HNX.out.2, p2]; rfl, Lib.hid fun h => (hno.out h).elim, Lib.hid (fin7.out _ hb6)⟩, by simp [intOf]; omega⟩
              · have QI := q2 hv
                clear hv q1 q2
                go_wp2_with (go_at_call 12; (with_reducible refine (QI.out _).mono ?_); rintro e w6 ⟨rfl, hb6⟩)
                exact ⟨⟨i + 1, _, _, by omega, by go_num, rfl, by rw [HNX.out.1], by rw [HNX.out.2]; rfl, Lib.hid fun h => (hno.out h).elim, Lib.hid (fin7.out _ hb6)⟩, by simp [intOf]; omega⟩
              · have QI := q2 hv
                have p1 : decide ((kk : Int) < (ml : Int)) = true := decide_eq_true (by omega)
                have p2 : decide (kk < ml) = true := decide_eq_true hp
                clear hv hp q1 q2
                go_wp2_with (go_at_call 12; (with_reducible refine (QI.out _).mono ?_); rintro e w6 ⟨rfl, hb6⟩)
                exact ⟨⟨i + 1, _, _, by omega, by go_num, rfl, by rw [HNX.out.1], by rw [HNX.out.2, p2]; rfl, Lib.hid fun h => (hno.out h).elim, Lib.hid (fin7.out _ hb6)⟩, by simp [intOf]; omega⟩
              · have QI := q2 hv
                have p1 : decide ((kk : Int) < (ml : Int)) = false := decide_eq_false (by omega)
                have p2 : decide (kk < ml) = false := decide_eq_false hp
                clear hv hp q1 q2
                go_wp2_with (go_at_call 12; (with_reducible refine (QI.out _).mono ?_); rintro e w6 ⟨rfl, hb6⟩)
                exact ⟨⟨i + 1, _, _, by omega, by go_num, rfl, by rw [HNX.out.1], by rw [HNX.out.2, p2]; rfl, Lib.hid fun h => (hno.out h).elim, Lib.hid (fin7.out _ hb6)⟩, by simp [intOf]; omega⟩
    · have d1 : decide ((i : Int) ≤ (m : Int)) = false := decide_eq_false (by omega)
      have d2 : decide (i ≤ m) = false := decide_eq_false hlt
      clear hlt
      go_wp2
      go_ret
      exact ⟨rfl, HB.out⟩
end Go.Proofs.Ytbdbcfidbapioaa
