/-
  The walks of strings.Builder's Write and of vary.Put.
-/
import Derived.Test.YtjiilmiikejnhaaDoorP08
import Derived.Shelf.Strings.BuilderK
import Derived.Lib.FrozenHead2
import Derived.RangeFuncNested
set_option linter.unusedVariables false
set_option linter.unusedSimpArgs false
namespace Go.Proofs.YtjiilmiikejnhaaDoor
open Go.RowKit

def copyNames : Go.Shelf.Ren := { f := fun k => if k = 240 then 92 else if k = 276 then 94 else k, t := fun k => if k = 70 then 143 else if k = 72 then 145 else if k = 164 then 120 else if k = 37 then 43 else k, g := fun k => k }
theorem copyLays : Lays.n240 Tryd.prog copyNames := {
  mixed := by kernel_rfl
  f240 := by kernel_rfl
  f276 := by kernel_rfl
  t0 := by kernel_rfl
  a0 := fun _ => by kernel_rfl
  z0 := fun _ => by kernel_rfl
  v0 := fun _ => by kernel_rfl
  t4 := by kernel_rfl
  a4 := fun _ => by kernel_rfl
  z4 := fun _ => by kernel_rfl
  v4 := fun _ => by kernel_rfl
  t9 := by kernel_rfl
  a9 := fun _ => by kernel_rfl
  z9 := fun _ => by kernel_rfl
  v9 := fun _ => by kernel_rfl
  t20 := by kernel_rfl
  a20 := fun _ => by kernel_rfl
  z20 := fun _ => by kernel_rfl
  v20 := fun _ => by kernel_rfl
  t70 := by kernel_rfl
  a70 := fun _ => by kernel_rfl
  z70 := fun _ => by kernel_rfl
  v70 := fun _ => by kernel_rfl
  t72 := by kernel_rfl
  a72 := fun _ => by kernel_rfl
  z72 := fun _ => by kernel_rfl
  v72 := fun _ => by kernel_rfl
  t164 := by kernel_rfl
  a164 := fun _ => by kernel_rfl
  z164 := fun _ => by kernel_rfl
  v164 := fun _ => by kernel_rfl }
theorem copyX : Builder.X72 Tryd.prog copyNames := {
  sizeBuilder := by kernel_rfl
  liesBuilder := by kernel_rfl }
theorem copy_any (B b : Nat) (bs : List Value) (w : World) (h : Lib.IsBuilderF 145 5 B b bs w) :
    Calls Tryd.prog 92 #[.pointer (some ⟨b, 0, none⟩)] w fun e w' => e = .returned (.tuple #[]) ∧ (Lib.BuilderAtF 145 5 B b (.pointer (some ⟨b, 0, none⟩)) bs w' ∧ Below B w w' ∧ Lib.OthersKept 5 (some b) w w') :=
  Any.Builder_copyCheck_k copyLays copyX B b bs w h

theorem addr_add (A j : Nat) : (⟨A, 0, none⟩ : Addr).add j = ⟨A, j, none⟩ := by
  unfold Addr.add
  split
  · rename_i h; rw [h]
  · simp

theorem byteCells_get {l : List UInt8} {j : Nat} {u : Value} (h : (Lib.byteCells l)[j]? = some u) : j < l.length ∧ u = .int .u8 ((l.getD j 0).toNat : Int) := by
  unfold Lib.byteCells at h
  rw [List.getElem?_map] at h
  cases hx : l[j]? with
  | none => rw [hx] at h; simp at h
  | some x =>
    rw [hx] at h
    simp at h
    obtain ⟨hlt, hx'⟩ := List.getElem?_eq_some_iff.1 hx
    refine ⟨hlt, ?_⟩
    rw [← h, getD_lt8 hlt, hx']

set_option maxHeartbeats 2000000 in
/-- Write of bytes that lie in an array that the call has made. -/
theorem write_any (B b A m c : Nat) (bs : List Value) (l : List UInt8) (w : World) (h : Lib.IsBuilderF 145 5 B b bs w) (hm : l.length = m) (hA : ∃ cs fz, w.heap[A]? = some (.cells cs 146 fz)) (hAb : A ≠ b)
    (hnews : ∀ i, i < l.length → w.cell? ⟨A, i, none⟩ = some (.int .u8 ((l.getD i 0).toNat : Int))) (hlen : bs.length + m ≤ 140737488355328) (hBw : B ≤ w.heap.size) :
    Calls Tryd.prog 74 #[.pointer (some ⟨b, 0, none⟩), .slice (some ⟨A, 0, none⟩) m c] w fun e w' => e = .returned (.tuple #[.int .i64 m, .nilIface]) ∧
      (Lib.BuilderAtF 145 5 B b (.pointer (some ⟨b, 0, none⟩)) (bs ++ Lib.byteCells l) w' ∧ Below B w w' ∧ Lib.OthersKept 5 (some b) w w') := by
  obtain ⟨i0, hi, hz0, hz1, hz2⟩ := info_parts i5
  go_enter Tryd.func74, Tryd.ntmps74
  go_wp2_with (go_at_call 92; refine (copy_any B b bs _ h).mono ?_)
  rintro e w1 ⟨rfl, h1, hb1, hk1⟩
  obtain ⟨hB, v, hbk, hown, hne⟩ := h1
  have c0 : w1.cell? ⟨b, 0, none⟩ = some (.pointer (some ⟨b, 0, none⟩)) := by rw [Lib.cell_of_heap hbk]; rfl
  have c1 : w1.cell? ⟨b, 1, none⟩ = some v := by rw [Lib.cell_of_heap hbk]; rfl
  have hA1 : w1.heap[A]? = w.heap[A]? := by
    obtain ⟨cs, fz, hA⟩ := hA
    rw [hA]
    exact hk1 A _ hA (by simp [hAb]) (fun c fz' e => by cases e)
  have hnews1 : ∀ j u, (Lib.byteCells l)[j]? = some u → w1.cell? ((⟨A, 0, none⟩ : Addr).add j) = some u := fun j u hj => by
    obtain ⟨hlt, rfl⟩ := byteCells_get hj
    have := hnews j hlt
    rw [addr_add, World.cell?_of_block (w' := w1) (w := w) (a := ⟨A, j, none⟩) hA1, this]
  go_wp2_with (at_builtin; refine wpList_append_ownF _ rfl _ _ 43 rfl B 5 i0 (.int .u8 0) 1 1 Tryd.underlying43 hi hz0 hz1 hz2 rfl (by decide) _ _ _ rfl hown ⟨A, 0, none⟩ m c (Lib.byteCells l) rfl (by simp [Lib.byteCells, hm]) hnews1 ?c2 ?c3 ?c4 ?c5 ?_)
  case c2 =>
    intro u hu
    obtain ⟨j, hj⟩ := List.getElem?_of_mem hu
    rw [(byteCells_get hj).2]
    rfl
  case c3 => unfold maxLen; omega
  case c4 => omega
  case c5 => have := hb1.size; omega
  intro v' w2 hown' hgrow _
  have hlt : b < w1.heap.size := (Array.getElem?_eq_some_iff.1 hbk).1
  have hb2 : w2.heap[b]? = some (.cells #[.pointer (some ⟨b, 0, none⟩), v] 145 (0, 0)) := by
    rw [hgrow.block b hlt (fun e => hne e.symm)]
    exact hbk
  have d0 : w2.cell? ⟨b, 0, none⟩ = some (.pointer (some ⟨b, 0, none⟩)) := by rw [Lib.cell_of_heap hb2]; rfl
  have d1 : w2.cell? ⟨b, 1, none⟩ = some v := by rw [Lib.cell_of_heap hb2]; rfl
  have f1 : w2.frozen? ⟨b, 1, none⟩ = false := Lib.frozen_of_heap hb2 1
  obtain ⟨ao, n', cap, rfl⟩ : ∃ ao n' cap, v' = .slice ao n' cap := by
    rcases hown'.2 with ⟨hv, _⟩ | ⟨g, cap, cur, fz, hv, _⟩
    · exact ⟨_, _, _, hv⟩
    · exact ⟨_, _, _, hv⟩
  go_wp2
  go_ret2
  refine ⟨rfl, ?_, ?_, ((hk1.grown hgrow (Lib.ownsRowF_kind hown))).setCell ⟨b, 1, none⟩ rfl _⟩
  · exact Lib.BuilderAtF.put (T := 145) (e := 5) hB hb2 (bs' := bs ++ Lib.byteCells l) (by simpa [Lib.byteCells, hm] using hown') (by decide)
  · exact (hb1.grown hgrow (by have := hb1.size; omega) (fun k hk => (hown.lt k hk).1)).setCell (p := ⟨b, 1, none⟩) hB _

theorem grown_of_below {W W' : World} (h : Below W.heap.size W W') : W.grownBy W' none := ⟨h.os, h.tape, h.output, h.size, fun k hk _ => h.block k hk⟩

theorem builder_below {T e : TypeId} {B b : Nat} {bs : List Value} {w w' : World} (h : Lib.IsBuilderF T e B b bs w) (hb : Below w.heap.size w w') : Lib.IsBuilderF T e B b bs w' := by
  have at' : ∀ {p : Value}, Lib.BuilderAtF T e B b p bs w → Lib.BuilderAtF T e B b p bs w' := fun h => by
    obtain ⟨hB, v, hbk, hown, hne⟩ := h
    refine ⟨hB, v, ?_, hown.kept (grown_of_below hb) (by cases v.ownBlock <;> simp), hne⟩
    rw [hb.block b (Array.getElem?_eq_some_iff.1 hbk).1]
    exact hbk
  exact h.elim (fun x => .inl (at' x)) (fun x => .inr (at' x))

/-- v is a slice that holds these numbers. -/
def Nums (w : World) (v : Value) (l : List Nat) : Prop :=
  ∃ ad c, v = .slice ad l.length c ∧ ∀ i, i < l.length → ∃ b o, ad = some ⟨b, o, none⟩ ∧ w.cell? ⟨b, o + i, none⟩ = some (.int .u64 ((l.getD i 0 : Nat) : Int))

theorem Nums.below {w w' : World} {v : Value} {l : List Nat} (h : Nums w v l) (hb : Below w.heap.size w w') : Nums w' v l := by
  obtain ⟨ad, c, hv, hc⟩ := h
  refine ⟨ad, c, hv, fun i hi => ?_⟩
  obtain ⟨b, o, ha, hci⟩ := hc i hi
  refine ⟨b, o, ha, ?_⟩
  rw [hb.cell (p := ⟨b, o + i, none⟩) (block_lt_of_cell hci)]
  exact hci

theorem builder_new (w : World) : Lib.IsBuilderF 145 5 w.heap.size w.heap.size (Lib.byteCells (Plain.encs [])) (w.alloc (.cells #[.pointer none, .slice none 0 0] 145)) :=
  .inl ⟨Nat.le_refl _, .slice none 0 0, World.alloc_heap_new w _, ⟨by simp [Plain.encs, Lib.byteCells], .inl ⟨rfl, by simp [Plain.encs, Lib.byteCells]⟩⟩, by simp [Value.ownBlock]⟩

theorem nine_cells (w : World) (l : List UInt8) (e : TypeId) : ∀ i, i < 9 → (w.alloc (.cells (nine l) e)).cell? ⟨w.heap.size, i, none⟩ = some (.int .u8 ((l.getD i 0).toNat : Int)) := by
  intro i hi
  unfold nine
  rcases (show i = 0 ∨ i = 1 ∨ i = 2 ∨ i = 3 ∨ i = 4 ∨ i = 5 ∨ i = 6 ∨ i = 7 ∨ i = 8 by omega) with rfl | rfl | rfl | rfl | rfl | rfl | rfl | rfl | rfl <;> simp [go_sem]

theorem enc_getD {n i : Nat} (h : n < 18446744073709551616) (hi : i < Plain.size n) : (Plain.enc n).getD i 0 = (Plain.full n).getD i 0 := by
  rw [← Plain.full_take h, take_getD _ _ _ hi]

theorem encs_length_le : ∀ (l : List Nat), (∀ n ∈ l, n < 18446744073709551616) → (Plain.encs l).length ≤ 9 * l.length
  | [], _ => by simp [Plain.encs]
  | n :: l, h => by
    have h1 := encs_length_le l (fun m hm => h m (by simp [hm]))
    have h2 := Plain.size_bounds (h n (by simp))
    rw [Plain.encs_cons, List.length_append, Plain.enc_length, List.length_cons]; omega

theorem encs_take_succ {l : List Nat} {k : Nat} (h : k < l.length) : Plain.encs (l.take (k + 1)) = Plain.encs (l.take k) ++ Plain.enc (l.getD k 0) := by
  rw [List.take_succ_eq_append_getElem h, Plain.encs_append]
  simp [Plain.encs, List.getD, h]

theorem byteCells_append (a b : List UInt8) : Lib.byteCells (a ++ b) = Lib.byteCells a ++ Lib.byteCells b := by simp [Lib.byteCells]

theorem slice_array (m : Nat) (hm : m ≤ 9) (a : Addr) (w : World) : (Instr.sliceAt 146 (.pointer (some a)) none (some (.int .i64 (m : Int))) none).run Tryd.prog w = .ok (.slice (some a) m 9) w := by
  have hL : Tryd.prog.arrayLen 146 = 9 := by kernel_rfl
  have hE : Tryd.prog.elem 146 = 5 := by kernel_rfl
  have hz : (sizeOf (Tryd.prog.elem 146)).run Tryd.prog w = .ok 1 w := by kernel_rfl
  rw [run_sliceAt_array_h w 146 a (by kernel_rfl) .i64 (m : Int) (by omega) (by rw [hL]; omega), hz]
  simp only [Result.andThen, slicedAt, Int.toNat_natCast, hL, Nat.sub_zero]
  congr 2

set_option maxHeartbeats 2000000 in
theorem put_walk (l : List Nat) (ad : Option Addr) (c : Nat) (w : World) (hl : ∀ n ∈ l, n < 18446744073709551616) (hlen : l.length ≤ 1000000)
    (hc : ∀ i, i < l.length → ∃ b o, ad = some ⟨b, o, none⟩ ∧ w.cell? ⟨b, o + i, none⟩ = some (.int .u64 ((l.getD i 0 : Nat) : Int))) :
    Calls Tryd.prog 50 #[.slice ad l.length c] w fun e w' => e = .returned (.string ⟨(Plain.encs l).toArray⟩) ∧ Below w.heap.size w w' := by
  go_enter Tryd.func50, Tryd.ntmps50
  go_wp2
  go_loopw [9] (fun i wr => ∃ k : Nat, k ≤ l.length ∧ i = .int .i64 k ∧ Lib.IsBuilderF 145 5 w.heap.size w.heap.size (Lib.byteCells (Plain.encs (l.take k))) wr ∧ Below w.heap.size w wr ∧ w.heap.size < wr.heap.size) (fun i _ => l.length - (intOf i).toNat)
  case atStart => exact ⟨0, Nat.zero_le _, rfl, builder_new w, (Below.refl _ _).alloc (Nat.le_refl _) _, by simp⟩
  case round =>
    obtain ⟨k, hk, rfl, hB, hb, hsz⟩ := hrel
    by_cases hlt : k < l.length
    · obtain ⟨b, o, rfl, hcell⟩ := hc k hlt
      have hcell' : wr.cell? ⟨b, o + k, none⟩ = some (.int .u64 ((l.getD k 0 : Nat) : Int)) := by rw [hb.cell (p := ⟨b, o + k, none⟩) (block_lt_of_cell hcell)]; exact hcell
      have hx : l.getD k 0 < 18446744073709551616 := hl _ (by simp [List.getD, hlt])
      have htk := encs_length_le (l.take k) (fun n hn => hl n (List.mem_of_mem_take hn))
      have hnext := encs_take_succ hlt
      obtain ⟨x, hxe⟩ : ∃ x, x = l.getD k 0 := ⟨_, rfl⟩
      rw [← hxe] at hcell' hx hnext
      obtain ⟨y0, y1, y2, y3, y4, y5, y6, y7, y8, hy⟩ : ∃ y0 y1 y2 y3 y4 y5 y6 y7 y8 : Int, nine (Plain.full x) = #[.int .u8 y0, .int .u8 y1, .int .u8 y2, .int .u8 y3, .int .u8 y4, .int .u8 y5, .int .u8 y6, .int .u8 y7, .int .u8 y8] := ⟨_, _, _, _, _, _, _, _, _, rfl⟩
      obtain ⟨m, hm⟩ : ∃ m, m = Plain.size x := ⟨_, rfl⟩
      have hm9 := Plain.size_bounds hx
      rw [← hm] at hm9
      have q20 : ∀ w0, Calls Tryd.prog 73 #[.int .u64 x] w0 fun e w' => e = .returned (.agg #[.int .u8 y0, .int .u8 y1, .int .u8 y2, .int .u8 y3, .int .u8 y4, .int .u8 y5, .int .u8 y6, .int .u8 y7, .int .u8 y8]) ∧ Below w0.heap.size w0 w' := fun w0 => hy ▸ laid_any x w0 hx
      have q11 : ∀ w0, Calls Tryd.prog 34 #[.int .u64 x] w0 fun e w' => e = .returned (.int .i64 (m : Int)) ∧ w0 = w' := fun w0 => hm ▸ size_any x w0 hx
      have q21 : ∀ w1, Below wr.heap.size wr w1 → Calls Tryd.prog 74 #[.pointer (some ⟨w.heap.size, 0, none⟩), .slice (some ⟨w1.heap.size, 0, none⟩) m 9] (w1.alloc (.cells #[.int .u8 y0, .int .u8 y1, .int .u8 y2, .int .u8 y3, .int .u8 y4, .int .u8 y5, .int .u8 y6, .int .u8 y7, .int .u8 y8] 146)) fun e w' =>
          e = .returned (.tuple #[.int .i64 m, .nilIface]) ∧ Lib.IsBuilderF 145 5 w.heap.size w.heap.size (Lib.byteCells (Plain.encs (l.take (k + 1)))) w' ∧ Below w.heap.size w w' := fun w1 hb1 => by
        have hs1 := hb1.size
        rw [← hy]
        refine (write_any w.heap.size w.heap.size w1.heap.size m 9 _ (Plain.enc x) _ ((builder_below hB hb1).alloc _) (by rw [Plain.enc_length, hm]) ⟨_, _, World.alloc_heap_new _ _⟩ (by omega) ?_ ?_ ?_).mono ?_
        · intro i hi
          rw [Plain.enc_length] at hi
          rw [nine_cells _ _ _ i (by omega), enc_getD hx hi]
        · have := hlen
          rw [List.length_take] at htk
          simp only [Lib.byteCells, List.length_map]; omega
        · simp; omega
        · rintro e w' ⟨rfl, h1, h2, _⟩
          refine ⟨rfl, .inr ?_, (hb.trans (hb1.mono (Nat.le_of_lt hsz))).trans (((Below.refl _ w1).alloc (by omega) _).trans h2)⟩
          rw [hnext, byteCells_append]
          exact h1
      have hsl := slice_array m hm9.2
      clear hy hm hxe hcell hB hl hnext htk hc
      go_wp2_with (first | (go_at_call 73; go_must (refine (q20 _).mono ?_); rintro e w1 ⟨rfl, hb1⟩) | (go_at_call 34; go_must (refine (q11 _).mono ?_); rintro e w1 ⟨rfl, rfl⟩) | (go_at_call 74; go_must (refine (q21 _ hb1).mono ?_); rintro e w3 ⟨rfl, hB3, hb3⟩))
      refine ⟨⟨k + 1, by omega, by go_num, hB3, hb3, ?_⟩, by simp [intOf]; omega⟩
      rcases hB3 with h3 | h3
      · exact h3.lt
      · exact h3.lt
    · obtain rfl : k = l.length := by omega
      rw [List.take_length] at hB
      go_wp2_with (go_at_call 75; go_must (refine (Tryd.Builder_String_any_k w.heap.size w.heap.size _ _ hB (by omega)).mono ?_); rintro e w1 ⟨rfl, _, hb1, _⟩)
      go_ret
      exact ⟨rfl, hb.trans hb1⟩

theorem put_any (l : List Nat) (v : Value) (w : World) (h : Nums w v l) (hl : ∀ n ∈ l, n < 18446744073709551616) (hlen : l.length ≤ 1000000) :
    Calls Tryd.prog 50 #[v] w fun e w' => e = .returned (.string ⟨(Plain.encs l).toArray⟩) ∧ Below w.heap.size w w' := by
  obtain ⟨ad, c, rfl, hc⟩ := h
  exact put_walk l ad c w hl hlen hc

end Go.Proofs.YtjiilmiikejnhaaDoor
