/-
  The chapter's examples.
-/
import Derived.Test.YtfnmmnbndfdpiaaELaw
import Derived.Test.YtfnmmnbndfdpiaaEPut
import Derived.Test.YtfnmmnbndfdpiaaECheck
import Derived.Test.YtfnmmnbndfdpiaaEWith
namespace Go.Proofs.Ytfnmmnbndfdpiaa
open Go.RowKit Go.Sort

def exA : ByteArray := ⟨#[97]⟩
def exB : ByteArray := ⟨#[98]⟩
def exC : ByteArray := ⟨#[99]⟩
def exAB : ByteArray := ⟨#[97, 98]⟩

theorem below_lit {w w' : World} {o : Obj} (h : RowKit.Below (w.alloc o).heap.size (w.alloc o) w') : RowKit.Below w.heap.size w w' := Below.next (below_alloc w o) h

theorem check_lit (l : List Ent) (hs : ShortE l) (hl : l.length ≤ 1000) (r : Int × Nat) (hr : checkE l = r) (vs : Array Value) (hv : (ents l).toArray = vs) (n : Nat) (hn : l.length = n) (w : World) (g : Nat) (hg : g = w.heap.size) :
    Calls Try.prog 19 #[.slice (some ⟨g, 0, none⟩) n n] (w.alloc (.cells vs 24)) fun e w' => e = .returned (.tuple #[.int .i64 r.1, .int .i64 (r.2 : Nat)]) ∧ RowKit.Below w.heap.size w w' := by
  subst hr hv hn hg
  exact (entCheck_any l _ _ (ents_lit l w) hs (by omega)).mono fun e w' ⟨h1, h2⟩ => ⟨h1, below_lit h2⟩

theorem with_lit (l es M : List Ent) (hr : risingE l = true) (hba : Bared l) (hl : l.length ≤ 1000) (hle : es.length ≤ 1000) (hM : withT l es = M) (vl ve : Array Value) (h1 : (ents l).toArray = vl) (h2 : (ents es).toArray = ve) (n m : Nat) (hn : l.length = n) (hm : es.length = m) (w : World) (g g2 : Nat) (hg : g = w.heap.size) (hg2 : g2 = w.heap.size + 1) :
    Calls Try.prog 24 #[.slice (some ⟨g, 0, none⟩) n n, .slice (some ⟨g2, 0, none⟩) m m] ((w.alloc (.cells vl 24)).alloc (.cells ve 24)) fun e w' => ∃ v', e = .returned v' ∧ RowE w' v' M ∧ RowKit.Below w.heap.size w w' := by
  subst hM h1 h2 hn hm hg hg2
  have e1 := (rowE_lit l hl w).below (below_alloc _ (.cells (ents es).toArray 24))
  have e2 := ents_lit es (w.alloc (.cells (ents l).toArray 24))
  rw [World.size_alloc] at e2
  exact (with_any l es _ _ _ hr hba e1 e2 hl hle).mono fun e w' ⟨v', h1, h2, h3⟩ => ⟨v', h1, h2, below_lit (below_lit h3)⟩

theorem same_lit (l : List Ent) (v : Value) (w : World) (h : Ents w v l) (hl : l.length ≤ 1000) (vs : Array Value) (hv : (ents l).toArray = vs) (n : Nat) (hn : l.length = n) (g : Nat) (hg : g = w.heap.size) :
    Calls Try.prog 21 #[v, .slice (some ⟨g, 0, none⟩) n n] (w.alloc (.cells vs 24)) fun e w' => e = .returned (.bool true) ∧ RowKit.Below w.heap.size w w' := by
  subst hv hn hg
  exact (same_true l _ _ _ (ents_alloc' h) (ents_lit l w) (by omega)).mono fun e w' ⟨h1, h2⟩ => ⟨h1, below_lit h2⟩

set_option maxHeartbeats 2000000 in
set_option maxRecDepth 100000 in
theorem works_any (w : World) : Calls Try.prog 16 #[] w fun e w' => e = .returned (.bool true) ∧ RowKit.Below w.heap.size w w' := by
  have p1 : ∀ W, Calls Try.prog 8 #[.agg #[.string ⟨#[97, 98]⟩, .int .u32 5, .bool false]] W fun e w' => e = .returned (.tuple #[.string ⟨#[1, 5, 97, 98]⟩, .int .i64 0]) ∧ RowKit.Below W.heap.size W w' := fun W => eput_any ⟨⟨#[97, 98]⟩, 5, false⟩ W (by decide) (by decide)
  have p2 : ∀ W, Calls Try.prog 8 #[.agg #[.string ⟨#[97, 98]⟩, .int .u32 0, .bool true]] W fun e w' => e = .returned (.tuple #[.string ⟨#[2, 97, 98]⟩, .int .i64 0]) ∧ RowKit.Below W.heap.size W w' := fun W => eput_any ⟨⟨#[97, 98]⟩, 0, true⟩ W (by decide) (by decide)
  have p3 : ∀ W, Calls Try.prog 14 #[.string ⟨#[97, 98]⟩, .int .u64 0] W fun e w' => e = .returned (.tuple #[.agg #[.string ⟨#[97, 98]⟩, .int .u32 0, .bool true], .bool true]) ∧ RowKit.Below W.heap.size W w' := fun W => of_any ⟨#[97, 98]⟩ 0 W (by decide)
  have p4 : ∀ W g, g = W.heap.size → Calls Try.prog 19 #[.slice (some ⟨g, 0, none⟩) 3 3] (W.alloc (.cells #[.string ⟨#[97]⟩, .int .u32 0, .bool false, .string ⟨#[99]⟩, .int .u32 0, .bool false, .string ⟨#[98]⟩, .int .u32 0, .bool false] 24)) fun e w' => e = .returned (.tuple #[.int .i64 2, .int .i64 15]) ∧ RowKit.Below W.heap.size W w' := fun W g hg =>
    check_lit [⟨⟨#[97]⟩, 0, false⟩, ⟨⟨#[99]⟩, 0, false⟩, ⟨⟨#[98]⟩, 0, false⟩] (by intro x hx; simp at hx; rcases hx with rfl | rfl | rfl <;> decide) (by decide) (2, 15) rfl _ rfl 3 rfl W g hg
  have p5 : ∀ W g g2, g = W.heap.size → g2 = W.heap.size + 1 → Calls Try.prog 24 #[.slice (some ⟨g, 0, none⟩) 2 2, .slice (some ⟨g2, 0, none⟩) 2 2] ((W.alloc (.cells #[.string ⟨#[97]⟩, .int .u32 1, .bool false, .string ⟨#[99]⟩, .int .u32 2, .bool false] 24)).alloc (.cells #[.string ⟨#[98]⟩, .int .u32 3, .bool false, .string ⟨#[99]⟩, .int .u32 0, .bool true] 24))
      fun e w' => ∃ v', e = .returned v' ∧ RowE w' v' [⟨⟨#[97]⟩, 1, false⟩, ⟨⟨#[98]⟩, 3, false⟩, ⟨⟨#[99]⟩, 0, true⟩] ∧ RowKit.Below W.heap.size W w' := fun W g g2 hg hg2 =>
    with_lit [⟨⟨#[97]⟩, 1, false⟩, ⟨⟨#[99]⟩, 2, false⟩] [⟨⟨#[98]⟩, 3, false⟩, ⟨⟨#[99]⟩, 0, true⟩] [⟨⟨#[97]⟩, 1, false⟩, ⟨⟨#[98]⟩, 3, false⟩, ⟨⟨#[99]⟩, 0, true⟩] (by decide) (by intro x hx; simp at hx; rcases hx with rfl | rfl <;> first | decide | rfl | (intro h; cases h) | (intro _; rfl)) (by decide) (by decide) rfl _ _ rfl rfl 2 2 rfl rfl W g g2 hg hg2
  have g1 : ∀ W, Calls Try.prog 29 #[.string ⟨#[]⟩, .agg #[.string ⟨#[]⟩, .int .u32 0, .bool false], .int .i64 3] W fun e w' => e = .returned (.bool true) ∧ RowKit.Below W.heap.size W w' := fun W => getLaw_any ⟨#[]⟩ noE 3 W (by decide) rfl
  have g2 : ∀ W, Calls Try.prog 29 #[.string ⟨#[3]⟩, .agg #[.string ⟨#[]⟩, .int .u32 0, .bool false], .int .i64 6] W fun e w' => e = .returned (.bool true) ∧ RowKit.Below W.heap.size W w' := fun W => getLaw_any ⟨#[3]⟩ noE 6 W (by decide) rfl
  have g3 : ∀ W, Calls Try.prog 29 #[.string ⟨#[1]⟩, .agg #[.string ⟨#[]⟩, .int .u32 0, .bool false], .int .i64 3] W fun e w' => e = .returned (.bool true) ∧ RowKit.Below W.heap.size W w' := fun W => getLaw_any ⟨#[1]⟩ noE 3 W (by decide) rfl
  have g4 : ∀ W, Calls Try.prog 29 #[.string ⟨#[2]⟩, .agg #[.string ⟨#[]⟩, .int .u32 0, .bool false], .int .i64 7] W fun e w' => e = .returned (.bool true) ∧ RowKit.Below W.heap.size W w' := fun W => getLaw_any ⟨#[2]⟩ noE 7 W (by decide) rfl
  have p6 : ∀ W, Calls Try.prog 10 #[.agg #[.string ⟨#[97, 98]⟩, .int .u32 5, .bool false]] W fun e w' => e = .returned (.int .u64 6) ∧ RowKit.Below W.heap.size W w' := fun W => value_any ⟨⟨#[97, 98]⟩, 5, false⟩ W (by decide)
  have p7 : ∀ W v g, Ents W v [⟨⟨#[97]⟩, 1, false⟩, ⟨⟨#[98]⟩, 3, false⟩, ⟨⟨#[99]⟩, 0, true⟩] → g = W.heap.size → Calls Try.prog 21 #[v, .slice (some ⟨g, 0, none⟩) 3 3] (W.alloc (.cells #[.string ⟨#[97]⟩, .int .u32 1, .bool false, .string ⟨#[98]⟩, .int .u32 3, .bool false, .string ⟨#[99]⟩, .int .u32 0, .bool true] 24)) fun e w' => e = .returned (.bool true) ∧ RowKit.Below W.heap.size W w' := fun W v g h hg =>
    same_lit [⟨⟨#[97]⟩, 1, false⟩, ⟨⟨#[98]⟩, 3, false⟩, ⟨⟨#[99]⟩, 0, true⟩] v W h (by decide) _ rfl 3 rfl g hg
  go_enter Try.func16, Try.ntmps16
  go_wp2_with (first
    | (go_at_call 8; (with_reducible refine (p1 _).mono ?_); rintro e w1 ⟨rfl, hb⟩)
    | (go_at_call 8; (with_reducible refine (p2 _).mono ?_); rintro e w2 ⟨rfl, hb'⟩; have hb := Below.next hb hb')
    | (go_at_call 14; (with_reducible refine (p3 _).mono ?_); rintro e w3 ⟨rfl, hb'⟩; have hb := Below.next hb hb'; have hc := RowKit.Below.refl (w3.alloc (.cells #[.string ⟨#[97, 98]⟩, .int .u32 0, .bool true] 24)).heap.size (w3.alloc (.cells #[.string ⟨#[97, 98]⟩, .int .u32 0, .bool true] 24)))
    | (go_at_call 19; (with_reducible refine (p4 _ _ (by simp)).mono ?_); rintro e w4 ⟨rfl, hb'⟩; have hc := Below.next hc hb'; clear hb')
    | (go_at_call 24; (with_reducible refine (p5 _ _ _ (by simp) (by simp)).mono ?_); rintro e w5 ⟨v', rfl, hr, hb'⟩; have hc := Below.next hc hb'; have hd := RowKit.Below.refl w5.heap.size w5; clear hb')
    | (go_at_call 29; (with_reducible refine (g1 _).mono ?_); rintro e w6 ⟨rfl, hb'⟩; have hc := Below.next hc hb'; have hd := Below.next hd hb'; clear hb')
    | (go_at_call 29; (with_reducible refine (g2 _).mono ?_); rintro e w7 ⟨rfl, hb'⟩; have hc := Below.next hc hb'; have hd := Below.next hd hb'; clear hb')
    | (go_at_call 29; (with_reducible refine (g3 _).mono ?_); rintro e w8 ⟨rfl, hb'⟩; have hc := Below.next hc hb'; have hd := Below.next hd hb'; clear hb')
    | (go_at_call 29; (with_reducible refine (g4 _).mono ?_); rintro e w9 ⟨rfl, hb'⟩; have hc := Below.next hc hb'; have hd := Below.next hd hb'; clear hb')
    | (go_at_call 10; (with_reducible refine (p6 _).mono ?_); rintro e w10 ⟨rfl, hb'⟩; have hc := Below.next hc hb'; have hd := Below.next hd hb'; clear hb'; obtain ⟨k0, k1, k2⟩ := box_kept hc)
    | (go_at_call 21; (with_reducible refine (p7 _ _ _ (hr.ents.below hd) (by simp)).mono ?_); rintro e w11 ⟨rfl, hb'⟩; have hc := Below.next hc hb'))
  go_ret
  exact ⟨rfl, Below.next hb (below_lit hc)⟩
end Go.Proofs.Ytfnmmnbndfdpiaa
