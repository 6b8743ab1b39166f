/-
  Get: a fault that was given up is handed back.
-/
import Derived.Test.YtjiilmiikejnhaaDoorP20
import Derived.Tactics2
import Derived.Defers
import Derived.Recover
import Derived.Stop.Asserts
set_option linter.unusedVariables false
set_option linter.unusedSimpArgs false
namespace Go.Proofs.YtjiilmiikejnhaaDoor
open Go.RowKit Go.Shelf Said

theorem isFault (xT : TypeId) (v : Value) (w : World) : (Instr.typeAssert (.iface 88 v) xT 88 true).run Tryd.prog w = .ok (.tuple #[v, .bool true]) w := by
  simp [Instr.typeAssert, run_underlying Tryd.underlying88]

set_option maxHeartbeats 1000000 in
set_option maxRecDepth 100000 in
theorem catch_fault (p : Addr) (u : Value) (bf : Nat) (w : World) (hc : w.cell? p = some u) (hz : w.frozen? p = false) :
    CallsD Tryd.prog 38 #[.pointer (some p)] (.panicking [{ v := .iface 88 (.pointer (some ⟨bf, 0, none⟩)), recovered := false }]) w fun e u' w' =>
      e = .returned (.tuple #[]) ∧ u' = .panicking [{ v := .iface 88 (.pointer (some ⟨bf, 0, none⟩)), recovered := true }] ∧ w' = w.setCell p (.iface 88 (.pointer (some ⟨bf, 0, none⟩))) := by
  refine callsD_of_wpS Tryd.func38 rfl fun c₀ cs hu => ?_
  have et : #[Value.pointer (some p)] ++ Array.replicate (Tryd.f38.ntmps - #[Value.pointer (some p)].size) undef = #[.pointer (some p), undef, undef, undef, undef, undef, undef, undef, undef, undef, undef, undef] := rfl
  rw [et]
  have hta := isFault
  apply wpS_seq
  apply wpS_region
  simp [wpOpsS, go_sem, recoverD, hu, Tryd.ntmps38, Exit.thenS]
  refine wpS_of_wp ?_
  go_wp2
  simp [bodyPostS, results, Tryd.results38]

set_option maxHeartbeats 1000000 in
set_option maxRecDepth 100000 in
theorem catch_none (p : Addr) (w : World) :
    CallsD Tryd.prog 38 #[.pointer (some p)] .returning w fun e u' w' => e = .returned (.tuple #[]) ∧ u' = .returning ∧ w' = w := by
  refine callsD_of_wpS Tryd.func38 rfl fun c₀ cs hu => ?_
  have et : #[Value.pointer (some p)] ++ Array.replicate (Tryd.f38.ntmps - #[Value.pointer (some p)].size) undef = #[.pointer (some p), undef, undef, undef, undef, undef, undef, undef, undef, undef, undef, undef] := rfl
  rw [et]
  apply wpS_seq
  apply wpS_region
  simp [wpOpsS, go_sem, recoverD, hu, Tryd.ntmps38, Exit.thenS]
  refine wpS_of_wp ?_
  go_wp2
  cases c₀
  simp_all [bodyPostS, results, Tryd.results38]

def ErrB (w : World) (p : Nat) (v : Value) : Prop := w.heap[p]? = some (.cells #[v] 52 (0, 0))
theorem ErrB.at0 {w : World} {p : Nat} {v : Value} (h : ErrB w p v) : w.cell? ⟨p, 0, none⟩ = some v := by rw [cell_of_row w p 0 _ _ _ h]; rfl
theorem ErrB.lt {w : World} {p : Nat} {v : Value} (h : ErrB w p v) : p < w.heap.size := (Array.getElem?_eq_some_iff.1 h).1
theorem ErrB.free {w : World} {p : Nat} {v : Value} (h : ErrB w p v) (o : Nat) : w.frozen? ⟨p, o, none⟩ = false := by
  unfold ErrB at h
  simp [World.frozen?, h]
theorem ErrB.set {w : World} {p : Nat} {v : Value} (h : ErrB w p v) (u : Value) : ErrB (w.setCell ⟨p, 0, none⟩ u) p u := cells_setCell h 0 _

/-- What Get hands back. -/
def Got (w : World) (r : Except (Nat × Nat) (Nat × List DSt × Nat)) (e : Ending) (w' : World) : Prop :=
  match r with
  | .ok (n, l, i) => (∃ v xs, e = .returned (.tuple #[.int .i64 (n : Int), .agg #[v, .int .u64 (i : Int)], .nilIface]) ∧ RowsI w' w.heap.size v xs ∧ xs.map (·.2) = l) ∧ Below w.heap.size w w'
  | .error (c, p) => (∃ bf, e = .returned (.tuple #[.int .i64 0, .agg #[.slice none 0 0, .int .u64 0], .iface 88 (.pointer (some ⟨bf, 0, none⟩))]) ∧ w.heap.size ≤ bf ∧ w'.heap[bf]? = some (.cells #[.int .i64 (c : Int), .int .i64 (p : Int)] 60 (0, 0))) ∧ Below w.heap.size w w'

set_option maxHeartbeats 1000000 in
set_option maxRecDepth 100000 in
theorem get_no {w : World} {s : ByteArray} (hF : Fours w) (hs : s.size ≤ 1000000000) {c1 p1 : Nat} (hr : readR s = .error (c1, p1)) : Calls Tryd.prog 18 #[.string s] w (Got w (.error (c1, p1))) := by
  obtain ⟨w0, hw0⟩ : ∃ w0, w0 = (w.alloc (.cells #[.slice none 0 0, .int .u64 0] 25)).alloc (.cells #[.nilIface] 52) := ⟨_, rfl⟩
  have hb0 : Below w.heap.size w w0 := by rw [hw0]; exact (below_alloc w _).trans ((below_alloc _ _).mono (by simp))
  have hfb : FstB w0 w.heap.size (.slice none 0 0) 0 := by rw [hw0]; exact (alloc_old _ _ (by simp)).trans (heap_alloc_new w _)
  have heb : ErrB w0 (w.heap.size + 1) .nilIface := by rw [hw0]; exact alloc_at _ _ (by simp)
  have qr := read_any (hF.below hb0) hs
  rw [hr] at qr
  have QR := Lib.hid qr
  have HB0 := Lib.hid (And.intro hb0 (And.intro hfb heb))
  clear hb0 hfb heb hF
  have hmf : ∀ (fn : Fn) (first cap : Array Value) (w : World), (Instr.makeFunc fn first cap).run Tryd.prog w = .ok (.func fn first cap) w := fun _ _ _ _ => rfl
  clear qr
  go_enter_defers Tryd.func18, Tryd.ntmps18
  go_upto_region 1 with fail
  rw [← hw0]
  clear hw0
  go_wp2_with (go_at_call 39; (with_reducible refine QR.out.mono ?_); rintro e' w1 h; have HF := Lib.hid h; obtain ⟨bf, rfl, h1, h2, h3⟩ := h)
  refine leaves_cons (f := 38) (args := #[.pointer (some ⟨w.heap.size + 1, 0, none⟩)]) (by simp) (by simp [go_sem]) ?_
  have he1 : ErrB w1 (w.heap.size + 1) .nilIface := (h3.block _ HB0.out.2.2.lt).trans HB0.out.2.2
  have hf1 : FstB w1 w.heap.size (.slice none 0 0) 0 := (h3.block _ HB0.out.2.1.lt).trans HB0.out.2.1
  refine (catch_fault ⟨w.heap.size + 1, 0, none⟩ .nilIface bf w1 he1.at0 (he1.free 0)).mono ?_
  rintro e u' w'' ⟨rfl, rfl, rfl⟩
  have hk := kp_set w1 (w.heap.size + 1) 0 (.iface 88 (.pointer (some ⟨bf, 0, none⟩)))
  have m1 := (he1.set (.iface 88 (.pointer (some ⟨bf, 0, none⟩)))).at0
  have m2 := hf1.kp hk (by omega)
  have m3 := m2.at0
  have m4 := m2.at1
  simp [Leaves, settle, results, Tryd.results18, go_sem, m1, m3, m4]
  have l1 := HB0.out.2.2.lt
  have l2 := (Array.getElem?_eq_some_iff.1 h2).1
  refine ⟨⟨bf, rfl, Nat.le_trans HB0.out.1.size h1, (hk.block bf l2 (by omega)).trans h2⟩, ?_⟩
  exact (((Kp.below HB0.out.1).trans (Kp.below (M := fun g => w.heap.size ≤ g) h3) (fun g e => .inl e)).trans hk (fun g e => .inl (by omega))).to (Nat.le_refl _) fun g e => e

theorem get_end {w1 : World} {pf pe i k : Nat} {u0 u1 v : Value} (hf1 : FstB w1 pf u0 k) (he1 : ErrB w1 pe u1) (hne : pf ≠ pe) :
    FstB (((((w1.setCell ⟨pf, 0, none⟩ v).setCell ⟨pf, 1, none⟩ (.int .u64 (i : Int))).setCell ⟨pf, 0, none⟩ v).setCell ⟨pf, 1, none⟩ (.int .u64 (i : Int))).setCell ⟨pe, 0, none⟩ .nilIface).drew pf v i ∧ ErrB (((((w1.setCell ⟨pf, 0, none⟩ v).setCell ⟨pf, 1, none⟩ (.int .u64 (i : Int))).setCell ⟨pf, 0, none⟩ v).setCell ⟨pf, 1, none⟩ (.int .u64 (i : Int))).setCell ⟨pe, 0, none⟩ .nilIface).drew pe .nilIface ∧
    Kp (fun g => g = pf ∨ g = pe) w1 (((((w1.setCell ⟨pf, 0, none⟩ v).setCell ⟨pf, 1, none⟩ (.int .u64 (i : Int))).setCell ⟨pf, 0, none⟩ v).setCell ⟨pf, 1, none⟩ (.int .u64 (i : Int))).setCell ⟨pe, 0, none⟩ .nilIface).drew := by
  have a1 := hf1.set0 v
  have k1 := kp_set w1 pf 0 v
  generalize w1.setCell ⟨pf, 0, none⟩ v = W1 at a1 k1 ⊢
  have a2 := a1.set1 i
  have k2 := k1.trans (kp_set W1 pf 1 (.int .u64 (i : Int))) (fun g e => .inl e)
  generalize W1.setCell ⟨pf, 1, none⟩ (.int .u64 (i : Int)) = W2 at a2 k2 ⊢
  have a3 := a2.set0 v
  have k3 := k2.trans (kp_set W2 pf 0 v) (fun g e => .inl e)
  generalize W2.setCell ⟨pf, 0, none⟩ v = W3 at a3 k3 ⊢
  have a4 := a3.set1 i
  have k4 := k3.trans (kp_set W3 pf 1 (.int .u64 (i : Int))) (fun g e => .inl e)
  generalize W3.setCell ⟨pf, 1, none⟩ (.int .u64 (i : Int)) = W4 at a4 k4 ⊢
  have e4 : ErrB W4 pe u1 := (k4.block _ he1.lt (fun e => hne e.symm)).trans he1
  have k5 := kp_set W4 pe 0 .nilIface
  have h1 : FstB (W4.setCell ⟨pe, 0, none⟩ .nilIface) pf v i := a4.kp k5 hne
  exact ⟨h1, e4.set .nilIface, ((k4.mono (fun g e => .inl (.inl e))).trans k5 (fun g e => .inl (.inr e))).drew⟩

set_option maxHeartbeats 1000000 in
set_option maxRecDepth 100000 in
theorem get_yes {w : World} {s : ByteArray} (hF : Fours w) (hs : s.size ≤ 1000000000) {n i : Nat} {l : List DSt} (hr : readR s = .ok (n, l, i)) : Calls Tryd.prog 18 #[.string s] w (Got w (.ok (n, l, i))) := by
  obtain ⟨w0, hw0⟩ : ∃ w0, w0 = (w.alloc (.cells #[.slice none 0 0, .int .u64 0] 25)).alloc (.cells #[.nilIface] 52) := ⟨_, rfl⟩
  have hb0 : Below w.heap.size w w0 := by rw [hw0]; exact (below_alloc w _).trans ((below_alloc _ _).mono (by simp))
  have hfb : FstB w0 w.heap.size (.slice none 0 0) 0 := by rw [hw0]; exact (alloc_old _ _ (by simp)).trans (heap_alloc_new w _)
  have heb : ErrB w0 (w.heap.size + 1) .nilIface := by rw [hw0]; exact alloc_at _ _ (by simp)
  have qr := read_any (hF.below hb0) hs
  rw [hr] at qr
  have QR := Lib.hid qr
  have HB0 := Lib.hid (And.intro hb0 (And.intro hfb heb))
  clear hb0 hfb heb hF
  have hmf : ∀ (fn : Fn) (first cap : Array Value) (w : World), (Instr.makeFunc fn first cap).run Tryd.prog w = .ok (.func fn first cap) w := fun _ _ _ _ => rfl
  clear qr
  go_enter_defers Tryd.func18, Tryd.ntmps18
  go_upto_region 1 with fail
  rw [← hw0]
  clear hw0
  go_wp2_with (go_at_call 39
               (with_reducible refine QR.out.mono ?_)
               rintro e' w1 ⟨⟨v, xs, rfl, hrows, hl⟩, hb1⟩
               obtain ⟨adv, cv, rfl⟩ := hrows.1.form
               have hf1 : FstB w1 w.heap.size (.slice none 0 0) 0 := (hb1.block _ HB0.out.2.1.lt).trans HB0.out.2.1
               have he1 : ErrB w1 (w.heap.size + 1) .nilIface := (hb1.block _ HB0.out.2.2.lt).trans HB0.out.2.2
               have f1 := hf1.free 0
               have f2 := hf1.free 1
               have c1 := hf1.at0
               have c2 := hf1.at1
               have y0 := kp_set w1 w.heap.size 0 (.slice adv xs.length cv)
               have y1 := kp_set (w1.setCell ⟨w.heap.size, 0, none⟩ (.slice adv xs.length cv)) w.heap.size 1 (.int .u64 (i : Int))
               have hk2 := (y0.trans y1 (fun g e => .inl e))
               have hf2 := (hf1.set0 (.slice adv xs.length cv)).set1 i
               have he2 : ErrB _ (w.heap.size + 1) .nilIface := (hk2.block _ he1.lt (by omega)).trans he1
               have g1 := hf2.free 0
               have g2 := hf2.free 1
               have d1 := hf2.at0
               have d2 := hf2.at1
               have g3 := he2.free 0
               have d3 := he2.at0
               have H2 := Lib.hid (And.intro hf1 (And.intro he1 (And.intro hk2 (And.intro hrows (And.intro hl hb1)))))
               clear hf1 he1 y0 y1 hk2 hf2 he2 hrows hl hb1)
  go_region
  go_wp2
  refine leaves_cons (f := 38) (args := #[.pointer (some ⟨w.heap.size + 1, 0, none⟩)]) (by simp) (by simp [go_sem]) ?_
  refine (catch_none ⟨w.heap.size + 1, 0, none⟩ _).mono ?_
  rintro e u' w'' ⟨rfl, rfl, rfl⟩
  obtain ⟨W, hW⟩ : ∃ W, W = (((((w1.setCell ⟨w.heap.size, 0, none⟩ (.slice adv xs.length cv)).setCell ⟨w.heap.size, 1, none⟩ (.int .u64 (i : Int))).setCell ⟨w.heap.size, 0, none⟩ (.slice adv xs.length cv)).setCell ⟨w.heap.size, 1, none⟩ (.int .u64 (i : Int))).setCell ⟨w.heap.size + 1, 0, none⟩ .nilIface).drew := ⟨_, rfl⟩
  obtain ⟨hf3, he3, hkk⟩ := get_end (v := .slice adv xs.length cv) (i := i) H2.out.1 H2.out.2.1 (by omega)
  rw [← hW] at hf3 he3 hkk ⊢
  clear hW d1 d2 d3 g1 g2 g3 c1 c2 f1 f2
  have q1 := hf3.at0
  have q2 := hf3.at1
  have q3 := he3.at0
  simp [Leaves, settle, results, Tryd.results18, go_sem, q1, q2, q3]
  have l1 := HB0.out.2.2.lt
  refine ⟨⟨.slice adv xs.length cv, xs, rfl, ⟨owns_base (owns_same H2.out.2.2.2.1.1 fun g hg => ?_) HB0.out.1.size, fun x hx => owns_base (owns_same (H2.out.2.2.2.1.2 x hx) fun g hg => ?_) HB0.out.1.size⟩, H2.out.2.2.2.2.1⟩, ?_⟩
  · have := (H2.out.2.2.2.1.1.lt g hg)
    exact hkk.block g this.2 (by omega)
  · have := ((H2.out.2.2.2.1.2 x hx).lt g hg)
    exact hkk.block g this.2 (by omega)
  · exact (((Kp.below HB0.out.1).trans (Kp.below (M := fun g => w.heap.size ≤ g) H2.out.2.2.2.2.2) (fun g e => .inl e)).trans hkk (fun g e => .inl (by omega))).to (Nat.le_refl _) fun g e => e

theorem packGet_any {w : World} {s : ByteArray} (hF : Fours w) (hs : s.size ≤ 1000000000) : Calls Tryd.prog 18 #[.string s] w (Got w (readR s)) := by
  cases hr : readR s with
  | error e =>
    obtain ⟨c, p⟩ := e
    exact get_no hF hs hr
  | ok r =>
    obtain ⟨n, l, i⟩ := r
    exact get_yes hF hs hr

end Go.Proofs.YtjiilmiikejnhaaDoor
