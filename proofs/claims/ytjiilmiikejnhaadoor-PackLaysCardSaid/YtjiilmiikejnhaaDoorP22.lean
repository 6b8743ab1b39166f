/-
  told: an error that is this one. fails: sealed bytes that are refused.
-/
import Derived.Test.YtjiilmiikejnhaaDoorP17
import Derived.Test.YtjiilmiikejnhaaDoorP21
import Derived.Laws.StructEq
set_option linter.unusedVariables false
set_option linter.unusedSimpArgs false
namespace Go.Proofs.YtjiilmiikejnhaaDoor
open Go.RowKit Go.Shelf

def ErrT (w : World) : Prop := w.cell? ⟨0, 0, none⟩ = some (.iface 157 (.agg #[.pointer (some ⟨2, 52, none⟩)]))
theorem ErrT.lt {w : World} (h : ErrT w) : 0 < w.heap.size := block_lt_of_cell h
theorem ErrT.below {w w' : World} (h : ErrT w) (hb : Below w.heap.size w w') : ErrT w' := (cell_same (p := ⟨0, 0, none⟩) (hb.block 0 h.lt)).trans h
theorem ErrT.kp {w w' : World} {M : Nat → Prop} (h : ErrT w) (hk : Kp M w w') (hm : ¬ M 0) : ErrT w' := (cell_same (p := ⟨0, 0, none⟩) (hk.block 0 h.lt hm)).trans h
def FltB (w : World) (b : Nat) (c p : Int) : Prop := w.heap[b]? = some (.cells #[.int .i64 c, .int .i64 p] 60 (0, 0))
theorem FltB.lt {w : World} {b : Nat} {c p : Int} (h : FltB w b c p) : b < w.heap.size := (Array.getElem?_eq_some_iff.1 h).1
theorem FltB.at0 {w : World} {b : Nat} {c p : Int} (h : FltB w b c p) : w.cell? ⟨b, 0, none⟩ = some (.int .i64 c) := by rw [cell_of_row w b 0 _ _ _ h]; rfl
theorem FltB.at1 {w : World} {b : Nat} {c p : Int} (h : FltB w b c p) : w.cell? ⟨b, 1, none⟩ = some (.int .i64 p) := by rw [cell_of_row w b 1 _ _ _ h]; rfl
theorem FltB.below {w w' : World} {b : Nat} {c p : Int} (h : FltB w b c p) (hb : Below w.heap.size w w') : FltB w' b c p := (hb.block b h.lt).trans h
theorem FltB.kp {w w' : World} {M : Nat → Prop} {b : Nat} {c p : Int} (h : FltB w b c p) (hk : Kp M w w') (hm : ¬ M b) : FltB w' b c p := (hk.block b h.lt hm).trans h
def PtrB (w : World) (g : Nat) (v : Value) : Prop := w.heap[g]? = some (.cells #[v] 88 (0, 0))
theorem PtrB.at0 {w : World} {g : Nat} {v : Value} (h : PtrB w g v) : w.cell? ⟨g, 0, none⟩ = some v := by rw [cell_of_row w g 0 _ _ _ h]; rfl
theorem PtrB.free {w : World} {g : Nat} {v : Value} (h : PtrB w g v) (o : Nat) : w.frozen? ⟨g, o, none⟩ = false := by
  unfold PtrB at h
  simp [World.frozen?, h]
theorem PtrB.lt {w : World} {g : Nat} {v : Value} (h : PtrB w g v) : g < w.heap.size := (Array.getElem?_eq_some_iff.1 h).1

theorem as_kp {w : World} {e : Addr} {g : Nat} {old : Value} (hE : ErrT w) (hg : PtrB w g old) :
    Calls Tryd.prog 43 #[.iface 88 (.pointer (some e)), .iface 93 (.pointer (some ⟨g, 0, none⟩))] w fun ev w' => ev = .returned (.bool true) ∧ PtrB w' g (.pointer (some e)) ∧ Kp (fun k => k = g) w w' := by
  refine (as_hit e ⟨g, 0, none⟩ old w hE hg.at0 (hg.free 0)).mono ?_
  rintro ev w' ⟨rfl, rfl⟩
  refine ⟨rfl, ?_⟩
  have hb := (((below_alloc w (.cells #[.pointer (some ⟨g, 0, none⟩)] 93)).alloc (by simp) (.cells #[.pointer (some ⟨2, 93, none⟩), .pointer (some ⟨w.heap.size, 0, none⟩), .int .u64 150] 123)).alloc (by simp; omega) (.cells #[.pointer (some ⟨2, 93, none⟩), .pointer (some ⟨w.heap.size, 0, none⟩), .int .u64 150] 123)).alloc (by simp; omega) (.cells #[.pointer (some e)] 88)
  generalize (((w.alloc _).alloc _).alloc _).alloc _ = W at hb ⊢
  have h1 : PtrB W g old := (hb.block g hg.lt).trans hg
  exact ⟨cells_setCell h1 0 _, ((Kp.below (M := fun _ => False) hb).mono fun k h => absurd h (fun h => h)).trans (kp_set W g 0 _) fun k h => .inl h⟩

theorem run_eqF (c p : Int) (w : World) : Sem.run Tryd.prog (binOp .eql 60 (.agg #[.int .i64 c, .int .i64 p]) (.agg #[.int .i64 c, .int .i64 p])) w = .ok (.bool true) w := by
  have u4 := Tryd.underlying3
  have a4 := Tryd.isAgg3
  have z4 := Tryd.sizeOf3
  have u5 := Tryd.underlying32
  have a5 := Tryd.isAgg32
  have z5 := Tryd.sizeOf32
  have hS : Tryd.prog.underlying 60 = some (.struct (Tryd.prog.fieldsOf 60)) := by kernel_rfl
  have hp : Tryd.prog.stoodInHeld 60 = false := by kernel_rfl
  rw [run_eql_struct, show (10000 : Nat) = 9999 + 1 from rfl, run_equalIn_agg w 9999 60 _ _ hS hp]
  simp only [Program.fieldsOf, Tryd.underlying60]
  go_simp

set_option maxHeartbeats 2000000 in
set_option maxRecDepth 100000 in
theorem told_none {w : World} {p : Int} :
    Calls Tryd.prog 21 #[.nilIface, .agg #[.int .i64 0, .int .i64 p]] w fun e w' => e = .returned (.bool true) ∧ Below w.heap.size w w' := by
  have hb := below_alloc w (.cells #[.int .i64 0, .int .i64 p] 60)
  have HB := Lib.hid hb
  clear hb
  go_enter Tryd.func21, Tryd.ntmps21
  go_wp2
  go_ret
  exact ⟨rfl, HB.out⟩

set_option maxHeartbeats 2000000 in
set_option maxRecDepth 100000 in
theorem told_yes {w : World} {b : Nat} {c p : Int} (hE : ErrT w) (hF : FltB w b c p) (hc : (c == 0) = false) :
    Calls Tryd.prog 21 #[.iface 88 (.pointer (some ⟨b, 0, none⟩)), .agg #[.int .i64 c, .int .i64 p]] w fun e w' => e = .returned (.bool true) ∧ Below w.heap.size w w' := by
  obtain ⟨w0, hw0⟩ : ∃ w0, w0 = (w.alloc (.cells #[.int .i64 c, .int .i64 p] 60)).alloc (.cells #[.pointer none] 88) := ⟨_, rfl⟩
  have hb0 : Below w.heap.size w w0 := by rw [hw0]; exact (below_alloc w _).alloc (by simp) _
  have f1 : FltB w0 w.heap.size c p := by rw [hw0]; exact (alloc_old _ _ (by simp)).trans (heap_alloc_new w _)
  have g1 : PtrB w0 (w.heap.size + 1) (.pointer none) := by rw [hw0]; exact alloc_at _ _ (by simp)
  have e1 := hE.below hb0
  have b1 := hF.below hb0
  have HQ : Hid (∀ W, Kp (fun _ => False) w0 W → Calls Tryd.prog 43 #[.iface 88 (.pointer (some ⟨b, 0, none⟩)), .iface 93 (.pointer (some ⟨w.heap.size + 1, 0, none⟩))] W fun e w' => e = .returned (.bool true) ∧ PtrB w' (w.heap.size + 1) (.pointer (some ⟨b, 0, none⟩)) ∧ FltB w' w.heap.size c p ∧ FltB w' b c p ∧ Below w.heap.size w w') := Lib.hid fun W hk => by
    have hg : PtrB W (w.heap.size + 1) (.pointer none) := (hk.block _ g1.lt (fun h => h)).trans g1
    refine (as_kp (e := ⟨b, 0, none⟩) (e1.kp hk (fun h => h)) hg).mono ?_
    rintro e w' ⟨rfl, h1, h2⟩
    have hl := hF.lt
    exact ⟨rfl, h1, (f1.kp hk (fun h => h)).kp h2 (by omega), (b1.kp hk (fun h => h)).kp h2 (by omega), ((Kp.below (M := fun g => w.heap.size ≤ g) hb0).trans ((hk.mono (N := fun g => w.heap.size ≤ g) (fun g e => absurd e (fun h => h))).trans h2 (fun g e => .inl (by omega))) fun g e => .inl e).to (Nat.le_refl _) fun g e => e⟩
  have hb0s := hb0.size
  have heq := run_eqF c p
  have hne : ∀ W, (binOp .eql 52 (.iface 88 (.pointer (some ⟨b, 0, none⟩))) .nilIface).run Tryd.prog W = .ok (.bool false) W := fun W => by go_simp
  have HB := Lib.hid hb0
  have fa := f1.at0
  have fb := f1.at1
  have ga := g1.at0
  have HS : Hid (∀ W x, W.cell? ⟨b, 0, none⟩ = some (.int .i64 c) → x = c → Calls Tryd.prog 44 #[.iface 88 (.pointer (some ⟨b, 0, none⟩)), .iface 32 (.int .i64 x)] W fun e w' => e = .returned (.bool true) ∧ w' = W) := Lib.hid fun W x h e => by rw [e]; exact is_fault b 0 c W h
  clear hb0 f1 g1 e1 b1 hF hE hb0s
  go_enter Tryd.func21, Tryd.ntmps21
  go_upto_region 4 with fail
  rw [← hw0]
  clear hw0
  go_region_with (first
    | (go_at_call 43
       (with_reducible refine (HQ.out _ (by repeat (first | with_reducible exact Kp.refl _ _ | (with_reducible apply Kp.drew)))).mono ?_)
       go_loud (
       rintro e' w1 ⟨rfl, m1, m2, m3, m4⟩
       have n1 := m1.at0
       have n2 := m2.at0
       have n3 := m2.at1
       have n4 := m3.at0
       have n5 := m3.at1
       have HM := Lib.hid m4
       clear m1 m2 m3 m4))
    | (go_at_call 44
       (with_reducible refine (HS.out _ _ n4 rfl).mono ?_)
       go_loud (
       rintro e' w2 ⟨rfl, rfl⟩)))
  all_goals (
    go_wp2
    go_ret
    exact ⟨rfl, by repeat (first | with_reducible exact HM.out | (with_reducible apply below_drew''))⟩)
end Go.Proofs.YtjiilmiikejnhaaDoor
namespace Go.Proofs.YtjiilmiikejnhaaDoor
open Go.RowKit Go.Shelf Said

theorem readR_sealed (s : ByteArray) : readR (sealed s) = bodyR s.data.toList := by
  unfold readR
  rw [isSeal_sealed, opened_sealed]
  simp

set_option maxHeartbeats 2000000 in
set_option maxRecDepth 100000 in
theorem fails_any {w : World} {s : ByteArray} {c p : Nat} (hF : Fours w) (hE : ErrT w) (hs : s.size ≤ 1000000) (hr : bodyR s.data.toList = .error (c, p)) (hc : c ≠ 0) {x y : Int} (hx : x = (c : Int)) (hy : y = (p : Int)) :
    Calls Tryd.prog 22 #[.string s, .int .i64 x, .int .i64 y] w fun e w' => e = .returned (.bool true) ∧ Below w.heap.size w w' := by
  have HQ1 : Hid (Calls Tryd.prog 20 #[.string s] w fun e w' => e = .returned (.string (sealed s)) ∧ Below w.heap.size w w') := Lib.hid (seal_any s w hF (by omega))
  have HQ2 : Hid (∀ W, Below w.heap.size w W → Calls Tryd.prog 18 #[.string (sealed s)] W fun e w' => ∃ bf, e = .returned (.tuple #[.int .i64 0, .agg #[.slice none 0 0, .int .u64 0], .iface 88 (.pointer (some ⟨bf, 0, none⟩))]) ∧ FltB w' bf x y ∧ Below w.heap.size w w') := Lib.hid fun W hb => by
    have q := packGet_any (hF.below hb) (s := sealed s) (by rw [sealed_size]; omega)
    rw [readR_sealed, hr] at q
    refine q.mono ?_
    rintro e w' ⟨⟨bf, rfl, h1, h2⟩, h3⟩
    rw [hx, hy]
    exact ⟨bf, rfl, h2, hb.trans (h3.mono hb.size)⟩
  have HQ3 : Hid (∀ W bf, FltB W bf x y → Below w.heap.size w W → Calls Tryd.prog 21 #[.iface 88 (.pointer (some ⟨bf, 0, none⟩)), .agg #[.int .i64 x, .int .i64 y]] W fun e w' => e = .returned (.bool true) ∧ Below w.heap.size w w') := Lib.hid fun W bf h hb => by
    refine (told_yes (hE.below hb) h (by rw [beq_eq_false_iff_ne]; omega)).mono ?_
    rintro e w' ⟨rfl, h2⟩
    exact ⟨rfl, hb.trans (h2.mono hb.size)⟩
  clear hF hE hr hx hy hc
  go_enter Tryd.func22, Tryd.ntmps22
  go_wp2_with (first
    | (go_at_call 20
       (with_reducible refine HQ1.out.mono ?_)
       rintro e' w1 ⟨rfl, hb1⟩
       have HB1 := Lib.hid hb1
       clear hb1)
    | (go_at_call 18
       (with_reducible refine (HQ2.out _ HB1.out).mono ?_)
       go_loud (
       rintro e' w2 ⟨bf, rfl, hf2, hb2⟩
       have HB2 := Lib.hid (And.intro hf2 hb2)
       clear hf2 hb2))
    | (go_at_call 21
       (with_reducible refine Calls.mono (HQ3.out _ bf ?_ ?_) ?_)
       rotate_left 2
       go_loud (
       rintro e' w3 ⟨rfl, hb3⟩
       have HB3 := Lib.hid hb3
       clear hb3)))
  · go_ret
    exact ⟨rfl, HB3.out⟩
  · exact HB2.out.1.below (below_alloc _ _)
  · exact below_alloc' HB2.out.2
end Go.Proofs.YtjiilmiikejnhaaDoor
