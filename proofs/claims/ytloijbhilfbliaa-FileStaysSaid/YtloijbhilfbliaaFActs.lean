/-
  The calls below a file's: bytes cloned, an act done, acts done one behind the other, what is settled.
-/
import Derived.Test.YtloijbhilfbliaaFFile
import Derived.Maps.AppendAt
namespace Go.Proofs.Ytloijbhilfbliaa
open Go.RowKit Go.Shelf

theorem below_alloc' {w0 w : World} {o : Obj} (h : Below w0.heap.size w0 w) : Below w0.heap.size w0 (w.alloc o) := h.alloc h.size _

/-- Behind an append's run: what a walk goes on with. -/
theorem wpList_append_brow {w : World} {ops : Array Oper} {rest : List Oper} {o : Oper} {a : Act} {Q : Exit → Act → World → Prop} (hgd : o.guard = none) (s x : Operand)
    (hop : o.op = Op.call { callee := Callee.builtin Builtin.append, args := #[s, x], argTypes := #[54, 54] }) (ht : o.type = 54) (v : Value) (l : List UInt8) (ad : Addr) (m c : Nat) (news : List UInt8)
    (hs : a.eval s = v) (hx : a.eval x = .slice (some ad) m c) (hl : news.length = m) (hnews : ∀ j u, (bys news)[j]? = some u → w.cell? (ad.add j) = some u) (hv : BRow w v l) (hlen : l.length + m ≤ 1000000)
    (h : ∀ v' w', BRow w' v' (l ++ news) → Onto w w' v v' → wpList Try.prog ops Q rest (a.put o.dst v') w') : wpList Try.prog ops Q (o :: rest) a w := by
  obtain ⟨v', w1, h1, h2, h3⟩ := run_append_brow w v l ad m c news hl hnews hv hlen
  refine wpList_plain hgd fun _ hK => ?_
  unfold Oper.wp execOp
  simp only [hop, ht, resolve, invoke, builtin, Sem.run_bind, Sem.run_pure, Result.andThen_ok, List.map_toArray, List.map_cons, List.map_nil, hs, hx, h1]
  exact hK _ _ (h v' w1 h2 h3)

theorem nil_is (w : World) : Sem.run Try.prog (binOp .eql 54 (.slice none 0 0) (.slice none 0 0)) w = .ok (.bool true) w := by kernel_rfl
theorem nil_no (w : World) (a : Addr) (n c : Nat) : Sem.run Try.prog (binOp .eql 54 (.slice (some a) n c) (.slice none 0 0)) w = .ok (.bool false) w := by kernel_rfl

/-- An empty row, just made. -/
theorem brow_made (w : World) : BRow (w.alloc (.cells #[] 5)) (.slice (some ⟨w.heap.size, 0, none⟩) 0 0) [] :=
  .inr ⟨w.heap.size, 0, #[], rfl, Nat.le_refl _, by omega, ⟨(0, 0), heap_alloc_new w _, rfl, fun j h => by omega⟩, rfl⟩

set_option maxHeartbeats 1000000 in
set_option maxRecDepth 100000 in
theorem clone_any {w : World} {v : Value} {l : List UInt8} (h : BRow w v l) (hl : l.length ≤ 900000) :
    Calls Try.prog 24 #[v] w fun e w' => ∃ v', e = .returned v' ∧ BRow w' v' l ∧ Below w.heap.size w w' ∧ (∀ g, v'.ownBlock = some g → w.heap.size ≤ g) ∧ (v'.ownBlock = none → v.ownBlock = none) := by
  rcases id h with ⟨rfl, rfl⟩ | ⟨g, cap, cs, rfl, h1, h2, hb, ht⟩
  · go_enter Try.func24, Try.ntmps24
    have hnil := nil_is w
    go_wp2
    go_ret
    exact ⟨_, rfl, brow_nil _, Below.refl _ _, (fun g hg => by cases hg), fun _ => rfl⟩
  · have hc := h.cells.2
    have hlt := hb.lt
    have HC : Hid (∀ j u, (bys l)[j]? = some u → (w.alloc (.cells #[] 5)).cell? ((⟨g, 0, none⟩ : Addr).add j) = some u) := Lib.hid fun j u hj => by
      rw [Addr.add_lit, Nat.zero_add, (below_alloc' (Below.refl _ w)).cell (p := ⟨g, j, none⟩) hlt]
      exact hc j u hj
    clear hc ht hb h
    have hnil := nil_no w ⟨g, 0, none⟩ l.length cap
    go_enter Try.func24, Try.ntmps24
    go_wp2_with (at_builtin; refine wpList_append_brow rfl _ _ rfl rfl (.slice (some ⟨w.heap.size, 0, none⟩) 0 0) [] ⟨g, 0, none⟩ l.length cap l rfl rfl rfl HC.out (brow_made w) (by simp; omega) ?_; intro v' w1 hr ho; have HR := Lib.hid hr; have HO := Lib.hid ho; clear hr ho)
    go_ret
    have hr := HR.out
    have ho := HO.out
    rw [List.nil_append] at hr
    refine ⟨v', rfl, hr, ?_, ?_, ?_⟩
    · have hg := ho.grown
      exact (below_alloc' (Below.refl _ w)).grown hg (by simp) (fun k hk => by cases hk; exact Nat.le_refl _)
    · intro k hk
      rcases ho with ⟨h1, _, _⟩ | ⟨⟨g', h1, h2⟩, _⟩
      · rw [hk] at h1; cases h1; exact Nat.le_refl _
      · rw [hk] at h1; cases h1; simp at h2; omega
    · intro hk
      rcases ho with ⟨h1, _, _⟩ | ⟨⟨g', h1, h2⟩, _⟩
      · rw [hk] at h1; cases h1
      · rw [hk] at h1; cases h1

set_option maxHeartbeats 1000000 in
set_option maxRecDepth 100000 in
theorem app_any {w : World} {v va : Value} {c : Nat} {l b : List UInt8} (h : BRow w v l) (hc : w.heap[c]? = some (.cells #[va] 54 (0, 0))) (ha : BRow w va b) (hb0 : b ≠ []) (hl : l.length + b.length ≤ 1000000) :
    Calls Try.prog 27 #[v, .pointer (some ⟨c, 0, none⟩)] w fun e w' => ∃ v', e = .returned v' ∧ BRow w' v' (l ++ b) ∧ Onto w w' v v' := by
  have k0 : w.cell? ⟨c, 0, none⟩ = some va := by rw [cell_of_row w c 0 _ _ _ hc]; rfl
  rcases id ha with ⟨_, rfl⟩ | ⟨g, cap, cs, rfl, h1, h2, hb, ht⟩
  · exact absurd rfl hb0
  · have HC : Hid (∀ j u, (bys b)[j]? = some u → w.cell? ((⟨g, 0, none⟩ : Addr).add j) = some u) := Lib.hid fun j u hj => by
      rw [Addr.add_lit, Nat.zero_add]
      exact ha.cells.2 j u hj
    have HV := Lib.hid h
    clear hc ht hb ha h
    go_enter Try.func27, Try.ntmps27
    go_wp2_with (at_builtin; refine wpList_append_brow rfl _ _ rfl rfl v l ⟨g, 0, none⟩ b.length cap b rfl rfl rfl HC.out HV.out (by omega) ?_; intro v' w1 hr ho; have HR := Lib.hid hr; have HO := Lib.hid ho; clear hr ho)
    go_ret
    exact ⟨v', rfl, HR.out, HO.out⟩

/-- A beginning of a row is a row. -/
theorem BRow.take {w : World} {ad : Option Addr} {c n : Nat} {l : List UInt8} (h : BRow w (.slice ad l.length c) l) (hn : n ≤ l.length) : BRow w (.slice ad n c) (l.take n) := by
  have hlen : (l.take n).length = n := by rw [List.length_take]; omega
  rcases id h with ⟨hv, rfl⟩ | ⟨g, cap, cs, hv, h1, h2, hb, ht⟩
  · cases hv
    obtain rfl : n = 0 := by simpa using hn
    exact .inl ⟨rfl, rfl⟩
  · cases hv
    have := h.pre (g := g) (c := c) rfl rfl (List.take_prefix n l)
    rw [hlen] at this
    exact this

theorem cut_onto {w w' : World} {v v' : Value} (hb : Below w.heap.size w w') (hg : ∀ g, v'.ownBlock = some g → w.heap.size ≤ g) (hr : ∃ g, v'.ownBlock = some g) : Onto w w' v v' := by
  obtain ⟨g, h⟩ := hr
  exact .inr ⟨⟨g, h, hg g h⟩, ⟨hb.os, hb.tape, hb.output, hb.size, fun k hk _ => hb.block k hk⟩⟩

set_option maxHeartbeats 1000000 in
set_option maxRecDepth 100000 in
theorem cut_act {w : World} {v : Value} {c n : Nat} {l : List UInt8} (h : BRow w v l) (hc : w.heap[c]? = some (.cells #[.int .i64 (n : Int)] 3 (0, 0))) (hn : n < l.length) (hl : l.length ≤ 900000) :
    Calls Try.prog 36 #[v, .pointer (some ⟨c, 0, none⟩)] w fun e w' => ∃ v', e = .returned v' ∧ BRow w' v' (l.take n) ∧ Onto w w' v v' ∧ v'.ownBlock ≠ v.ownBlock := by
  have k0 : w.cell? ⟨c, 0, none⟩ = some (.int .i64 (n : Int)) := by rw [cell_of_row w c 0 _ _ _ hc]; rfl
  obtain ⟨ad, cp, rfl, h1, h2⟩ := h.shape
  have HNIL : Hid (ad ≠ none) := Lib.hid (by
    rintro rfl
    rcases h with ⟨_, rfl⟩ | ⟨g, cap, cs, hv, _⟩
    · simp at hn
    · cases hv)
  have HLT := Lib.hid h.own_lt
  have q24 := clone_any (h.take (Nat.le_of_lt hn)) (by rw [List.length_take]; omega)
  have Q24 := Lib.hid q24
  have hnc : n ≤ cp := by omega
  clear hc h q24
  go_enter Try.func36, Try.ntmps36
  go_wp2_with (go_at_call 24; (with_reducible refine Q24.out.mono ?_); rintro e w1 ⟨v1, rfl, r1, hb1, hg1, hn1⟩; have HR := Lib.hid r1; have HG := Lib.hid (And.intro hg1 hn1); clear r1 hg1 hn1)
  go_ret
  have hsome : ∃ g, v1.ownBlock = some g := by
    cases hob : v1.ownBlock with
    | some g => exact ⟨g, rfl⟩
    | none =>
      have := HG.out.2 hob
      cases ad with
      | none => exact absurd rfl HNIL.out
      | some a => cases this
  refine ⟨v1, rfl, HR.out, cut_onto hb1 HG.out.1 hsome, fun e => ?_⟩
  obtain ⟨g, hg⟩ := hsome
  have h1 := HG.out.1 g hg
  have h2 := HLT.out g (by rw [← e]; exact hg)
  omega

/-- What an act leaves of a row, as a call. -/
def Acted (w : World) (v : Value) (r : List UInt8) (e : Ending) (w' : World) : Prop := ∃ v', e = .returned v' ∧ BRow w' v' r ∧ Onto w w' v v'

/-- Block p holds a file's three cells. -/
def Trio (w : World) (p : Nat) (a b c : Value) : Prop := w.heap[p]? = some (.cells #[a, b, c] 57 (0, 0))
theorem Trio.at0 {w : World} {p : Nat} {a b c : Value} (h : Trio w p a b c) : w.cell? ⟨p, 0, none⟩ = some a := by rw [cell_of_row w p 0 _ _ _ h]; rfl
theorem Trio.at1 {w : World} {p : Nat} {a b c : Value} (h : Trio w p a b c) : w.cell? ⟨p, 1, none⟩ = some b := by rw [cell_of_row w p 1 _ _ _ h]; rfl
theorem Trio.at2 {w : World} {p : Nat} {a b c : Value} (h : Trio w p a b c) : w.cell? ⟨p, 2, none⟩ = some c := by rw [cell_of_row w p 2 _ _ _ h]; rfl
theorem Trio.free {w : World} {p : Nat} {a b c : Value} (h : Trio w p a b c) (o : Nat) : w.frozen? ⟨p, o, none⟩ = false := by
  unfold Trio at h
  simp [World.frozen?, h]
theorem Trio.lt {w : World} {p : Nat} {a b c : Value} (h : Trio w p a b c) : p < w.heap.size := (Array.getElem?_eq_some_iff.1 h).1
theorem Trio.set0 {w : World} {p : Nat} {a b c : Value} (h : Trio w p a b c) (v : Value) : Trio (w.setCell ⟨p, 0, none⟩ v) p v b c := cells_setCell h 0 v
theorem Trio.set1 {w : World} {p : Nat} {a b c : Value} (h : Trio w p a b c) (v : Value) : Trio (w.setCell ⟨p, 1, none⟩ v) p a v c := cells_setCell h 1 v
theorem Trio.set2 {w : World} {p : Nat} {a b c : Value} (h : Trio w p a b c) (v : Value) : Trio (w.setCell ⟨p, 2, none⟩ v) p a b v := cells_setCell h 2 v

theorem grownBy_trans {w a b : World} {row : Option Nat} (h : w.grownBy a row) (k : a.grownBy b row) : w.grownBy b row :=
  ⟨k.os.trans h.os, k.tape.trans h.tape, k.output.trans h.output, Nat.le_trans h.size k.size, fun g hg hn => (k.block g (Nat.lt_of_lt_of_le hg h.size) hn).trans (h.block g hg hn)⟩

set_option maxHeartbeats 1000000 in
set_option maxRecDepth 100000 in
theorem settle_any {w : World} {p : Nat} {a b c : Value} {ad : Option Addr} {n m : Nat} (h : Trio w p a b c) :
    Calls Try.prog 23 #[.pointer (some ⟨p, 0, none⟩), .slice ad n m] w fun e w' => e = .returned (.tuple #[]) ∧ Trio w' p (.slice ad n m) (.slice none 0 0) (.slice ad n m) ∧ w.grownBy w' (some p) := by
  have k0 := h.at0
  have k1 := h.at1
  have k2 := h.at2
  have f0 := h.free 0
  have f1 := h.free 1
  have f2 := h.free 2
  have H := Lib.hid h
  clear h
  go_enter Try.func23, Try.ntmps23
  go_wp2
  refine bodyPost_end (v := .tuple #[]) (by simp [results, Try.results23, go_sem]) rfl ⟨rfl, ((H.out.set0 _).set1 _).set2 _, ?_⟩
  exact grownBy_trans (grownBy_trans (grown_setCell _ _ _ _) (grown_setCell _ _ _ _)) (grown_setCell _ _ _ _)

/-- A closure in a row of acts. -/
theorem i61 : (Try.prog.info? 61).map (fun i => (i.zero, i.size, i.bytes)) = some (some .nilFunc, 1, 8) := by kernel_rfl

theorem wpList_append_act {w : World} {ops : Array Oper} {rest : List Oper} {o : Oper} {a : Act} {Q : Exit → Act → World → Prop} (hgd : o.guard = none) (s x : Operand)
    (hop : o.op = Op.call { callee := Callee.builtin Builtin.append, args := #[s, x], argTypes := #[55, 55] }) (ht : o.type = 55) (v : Value) (n : Nat) (fs : List Value) (g : Nat) (f : Value)
    (hs : a.eval s = v) (hx : a.eval x = .slice (some ⟨g, 0, none⟩) 1 1) (hc : w.cell? ⟨g, 0, none⟩ = some f) (hf : f.oneCell' = true) (hv : w.ownsRow 0 61 1 v n fs) (hlen : n ≤ 1000000)
    (h : ∀ v' w', w'.ownsRow 0 61 1 v' (n + 1) (fs ++ [f]) → w.grownBy w' v.ownBlock → (v'.ownBlock = v.ownBlock ∨ v'.ownBlock = some w.heap.size) → wpList Try.prog ops Q rest (a.put o.dst v') w') : wpList Try.prog ops Q (o :: rest) a w := by
  obtain ⟨i0, hi, hz0, hz1, hz2⟩ := info_parts i61
  obtain ⟨v', w1, h1, h2, h3, _, h5⟩ := run_append_own_at (P := Try.prog) w 0 55 55 61 i0 .nilFunc 1 8 Try.underlying55 hi hz0 hz1 hz2 rfl (by decide) v n fs hv ⟨g, 0, none⟩ 1 1 [f] rfl
    (fun j u hj => by
      have : j = 0 := by have := (List.getElem?_eq_some_iff.1 hj).1; simpa using this
      subst this
      cases hj
      exact hc) (by simpa using hf) (by unfold maxLen; omega) (by omega) (Nat.zero_le _)
  refine wpList_plain hgd fun _ hK => ?_
  unfold Oper.wp execOp
  simp only [hop, ht, resolve, invoke, builtin, Sem.run_bind, Sem.run_pure, Result.andThen_ok, List.map_toArray, List.map_cons, List.map_nil, hs, hx, h1]
  exact hK _ _ (h v' w1 h2 h3 h5)

theorem owns_mem {w : World} {base size n : Nat} {e : TypeId} {v : Value} {xs : List Value} (h : w.ownsRow base e size v n xs) {g : Nat} (hg : v.ownBlock = some g) : ∃ cs, w.heap[g]? = some (.cells cs e (0, 0)) := by
  rcases h.2 with ⟨rfl, _⟩ | ⟨g', cap, cur, rfl, _, hh, _⟩
  · cases hg
  · cases hg; exact ⟨cur, hh⟩

/-- Blocks of two types are two. -/
theorem two_types {w : World} {g k : Nat} {cs ds : Array Value} {S T : TypeId} {fz gz : Nat × Nat} (h : w.heap[g]? = some (.cells cs S fz)) (k' : w.heap[k]? = some (.cells ds T gz)) (hne : S ≠ T) : g ≠ k := fun e => by
  subst e
  rw [h] at k'
  cases k'
  exact hne rfl
end Go.Proofs.Ytloijbhilfbliaa
