/-
  The chapter's examples.
-/
import Derived.Test.YtjiilmiikejnhaaDoorP22
import Derived.Test.YtjiilmiikejnhaaDoorP06
import Derived.Test.YtjiilmiikejnhaaDoorP26
import Derived.Test.YtjiilmiikejnhaaDoorP01
set_option linter.unusedVariables false
set_option linter.unusedSimpArgs false
namespace Go.Proofs.YtjiilmiikejnhaaDoor
open Go.RowKit Go.Shelf

def noneS : DSt := ⟨[], false, 0⟩
def endS : DSt := ⟨[], true, 0⟩
def exS : List DSt := [endS, ⟨[⟨97, 0, 0⟩], false, 0⟩]
theorem kn_l0 : (layT 0 [noneS] 0).toArray = #[67, 83, 1, 0, 1, 0, 0] := by decide +kernel
theorem kn_l1 : (layT 1 exS 5).toArray = #[67, 83, 1, 1, 2, 1, 0, 2, 97, 0, 1, 5] := by decide +kernel
theorem kn_r0 : readR ⟨#[]⟩ = .error (16, 0) := by kernel_rfl
theorem kn_f0 : bodyR [] = .error (3, 0) := by rfl
theorem kn_f1 : bodyR [67, 83, 2] = .error (6, 2) := by rfl

theorem put_lit {w : World} {n : Nat} {l : List DSt} {init : Nat} {a : Array UInt8} (hF : Fours w) (ha : (layT n l init).toArray = a) (hz : a.size ≤ 1000000) (hl : l.length ≤ 100000) (hal : ∀ s ∈ l, s.arcs.length ≤ 100000) (hm : mayT (n : Int) l = true) (hn : n ≤ 100000) (hi : init < 18446744073709551616) (hms : maySs 0 l = true) (hok : ∀ s ∈ l, s.ok) {x y : Int} (hx : x = (n : Int)) (hy : y = (init : Int)) {W : World} {v : Value} (hb : Below w.heap.size w W) (h : Sts W v l) :
    Calls Tryd.prog 11 #[.int .i64 x, .agg #[v, .int .u64 y]] W fun e w' => e = .returned (.tuple #[.string (sealed ⟨a⟩), .int .i64 0]) ∧ Below w.heap.size w w' := by
  rw [hx, hy]
  have hB : (layT n l init).length ≤ 1000000000 := by
    have := congrArg Array.size ha
    simp at this
    omega
  refine (packPut_yes (hF.below hb) h hl hal hm hn hi hms hok hB).mono ?_
  rintro e w' ⟨rfl, h2⟩
  rw [ha]
  exact ⟨rfl, hb.trans (h2.mono hb.size)⟩

set_option maxHeartbeats 2000000 in
set_option maxRecDepth 100000 in
theorem works_any {w : World} (hF : Fours w) (hE : ErrT w) : Calls Tryd.prog 14 #[] w fun e w' => e = .returned (.bool true) ∧ Below w.heap.size w w' := by
  obtain ⟨t0, ht0⟩ : ∃ t, sealed ⟨#[67, 83, 1, 0, 1, 0, 0]⟩ = t := ⟨_, rfl⟩
  obtain ⟨t1, ht1⟩ : ∃ t, sealed ⟨#[67, 83, 1, 1, 2, 1, 0, 2, 97, 0, 1, 5]⟩ = t := ⟨_, rfl⟩
  have P0 : Hid (∀ (W : World) (v : Value), Below w.heap.size w W → Sts W v [noneS] → Calls Tryd.prog 11 #[.int .i64 0, .agg #[v, .int .u64 0]] W fun e w' => e = .returned (.tuple #[.string t0, .int .i64 0]) ∧ Below w.heap.size w w') := Lib.hid fun W v hb h => by
    have := put_lit (n := 0) (init := 0) hF kn_l0 (by decide) (by decide) (by decide) (by decide) (by decide) (by decide) (by decide) (by decide) (x := 0) (y := 0) rfl rfl hb h
    rwa [ht0] at this
  have P1 : Hid (∀ (W : World) (v : Value), Below w.heap.size w W → Sts W v exS → Calls Tryd.prog 11 #[.int .i64 1, .agg #[v, .int .u64 5]] W fun e w' => e = .returned (.tuple #[.string t1, .int .i64 0]) ∧ Below w.heap.size w w') := Lib.hid fun W v hb h => by
    have := put_lit (n := 1) (init := 5) hF kn_l1 (by decide) (by decide) (by decide) (by decide) (by decide) (by decide) (by decide) (by decide) (x := 1) (y := 5) rfl rfl hb h
    rwa [ht1] at this
  have G0 : Hid (∀ W, Below w.heap.size w W → Calls Tryd.prog 18 #[.string ⟨#[]⟩] W fun e w' => ∃ bf, e = .returned (.tuple #[.int .i64 0, .agg #[.slice none 0 0, .int .u64 0], .iface 88 (.pointer (some ⟨bf, 0, none⟩))]) ∧ FltB w' bf 16 0 ∧ Below w.heap.size w w') := Lib.hid fun W hb => by
    have q := packGet_any (hF.below hb) (s := ⟨#[]⟩) (by decide)
    rw [kn_r0] at q
    refine q.mono ?_
    rintro e w' ⟨⟨bf, rfl, h1, h2⟩, h3⟩
    exact ⟨bf, rfl, h2, hb.trans (h3.mono hb.size)⟩
  have T0 : Hid (∀ W bf, FltB W bf 16 0 → Below w.heap.size w W → Calls Tryd.prog 21 #[.iface 88 (.pointer (some ⟨bf, 0, none⟩)), .agg #[.int .i64 16, .int .i64 0]] W fun e w' => e = .returned (.bool true) ∧ Below w.heap.size w w') := Lib.hid fun W bf h hb => by
    refine (told_yes (hE.below hb) h (by rfl)).mono ?_
    rintro e w' ⟨rfl, h2⟩
    exact ⟨rfl, hb.trans (h2.mono hb.size)⟩
  have S0 : Hid (∀ W, Below w.heap.size w W → Calls Tryd.prog 20 #[.string ⟨#[67, 83, 1, 0, 1, 0, 0]⟩] W fun e w' => e = .returned (.string t0) ∧ Below W.heap.size W w') := Lib.hid fun W hb => by
    refine (seal_any ⟨#[67, 83, 1, 0, 1, 0, 0]⟩ W (hF.below hb) (by decide)).mono ?_
    rintro e w' ⟨rfl, h2⟩
    exact ⟨by rw [ht0], h2⟩
  have S1 : Hid (∀ W, Below w.heap.size w W → Calls Tryd.prog 20 #[.string ⟨#[67, 83, 1, 1, 2, 1, 0, 2, 97, 0, 1, 5]⟩] W fun e w' => e = .returned (.string t1) ∧ Below W.heap.size W w') := Lib.hid fun W hb => by
    refine (seal_any ⟨#[67, 83, 1, 1, 2, 1, 0, 2, 97, 0, 1, 5]⟩ W (hF.below hb) (by decide)).mono ?_
    rintro e w' ⟨rfl, h2⟩
    exact ⟨by rw [ht1], h2⟩
  have F0 : Hid (∀ W, Below w.heap.size w W → Calls Tryd.prog 22 #[.string ⟨#[]⟩, .int .i64 3, .int .i64 0] W fun e w' => e = .returned (.bool true) ∧ Below w.heap.size w w') := Lib.hid fun W hb => by
    refine (fails_any (hF.below hb) (hE.below hb) (s := ⟨#[]⟩) (by decide) kn_f0 (by decide) rfl rfl).mono ?_
    rintro e w' ⟨rfl, h2⟩
    exact ⟨rfl, hb.trans (h2.mono hb.size)⟩
  have F1 : Hid (∀ W, Below w.heap.size w W → Calls Tryd.prog 22 #[.string ⟨#[67, 83, 2]⟩, .int .i64 6, .int .i64 2] W fun e w' => e = .returned (.bool true) ∧ Below w.heap.size w w') := Lib.hid fun W hb => by
    refine (fails_any (hF.below hb) (hE.below hb) (s := ⟨#[67, 83, 2]⟩) (by decide) kn_f1 (by decide) rfl rfl).mono ?_
    rintro e w' ⟨rfl, h2⟩
    exact ⟨rfl, hb.trans (h2.mono hb.size)⟩
  clear ht0 ht1 hF hE
  go_enter Tryd.func14, Tryd.ntmps14
  go_wp2_with (first
    | (go_at_call 11
       (with_reducible refine (P0.out _ _ ?_ ?_).mono ?_)
       · exact below_alloc _ _
       · exact sts_lit [(_, noneS)] (by simp) (by simp) (List.forall_mem_cons.2 ⟨arcs_nil _, List.forall_mem_nil _⟩)
       go_loud (
       rintro e' w1 ⟨rfl, hb1⟩
       have HB1 := Lib.hid hb1
       clear hb1))
    | (go_at_call 11
       (with_reducible refine (P1.out _ _ ?_ ?_).mono ?_)
       · exact below_alloc' (below_alloc' HB1.out)
       · exact sts_lit [(_, endS), (_, ⟨[⟨97, 0, 0⟩], false, 0⟩)] (by simp) (by simp) (List.forall_mem_cons.2 ⟨arcs_nil _, List.forall_mem_cons.2 ⟨arcs_lit [⟨97, 0, 0⟩] (by decide) (by simp), List.forall_mem_nil _⟩⟩)
       go_loud (
       rintro e' w2 ⟨rfl, hb2⟩
       have HB2 := Lib.hid hb2
       clear hb2))
    | (go_at_call 18
       (with_reducible refine (G0.out _ HB2.out).mono ?_)
       go_loud (
       rintro e' w3 ⟨bf, rfl, hf3, hb3⟩
       have HB3 := Lib.hid (And.intro (hf3.below (below_alloc _ (.cells #[.slice none 0 0, .int .u64 0] 25))) (below_alloc' (o := .cells #[.slice none 0 0, .int .u64 0] 25) hb3))
       clear hf3 hb3))
    | (go_at_call 20
       (with_reducible refine (S0.out _ HB3.out.2).mono ?_)
       go_loud (
       rintro e' w4 ⟨rfl, hb4⟩
       have HB4 := Lib.hid (And.intro (HB3.out.1.below hb4) (HB3.out.2.trans (hb4.mono HB3.out.2.size)))
       clear hb4))
    | (go_at_call 20
       (with_reducible refine (S1.out _ HB4.out.2).mono ?_)
       go_loud (
       rintro e' w5 ⟨rfl, hb5⟩
       have HB5 := Lib.hid (And.intro (HB4.out.1.below hb5) (HB4.out.2.trans (hb5.mono HB4.out.2.size)))
       clear hb5))
    | (go_at_call 21
       (with_reducible refine (T0.out _ bf HB5.out.1 HB5.out.2).mono ?_)
       go_loud (
       rintro e' w6 ⟨rfl, hb6⟩
       have HB6 := Lib.hid hb6
       clear hb6))
    | (go_at_call 22
       (with_reducible refine (F0.out _ HB6.out).mono ?_)
       go_loud (
       rintro e' w7 ⟨rfl, hb7⟩
       have HB7 := Lib.hid hb7
       clear hb7))
    | (go_at_call 22
       (with_reducible refine (F1.out _ HB7.out).mono ?_)
       go_loud (
       rintro e' w8 ⟨rfl, hb8⟩
       have HB8 := Lib.hid hb8
       clear hb8)))
  go_ret
  exact ⟨rfl, HB8.out⟩
end Go.Proofs.YtjiilmiikejnhaaDoor
