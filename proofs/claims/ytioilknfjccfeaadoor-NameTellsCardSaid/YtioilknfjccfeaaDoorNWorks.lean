/-
  The law's works: the chapter's examples.
-/
import Derived.Test.YtioilknfjccfeaaDoorNLaw
namespace Go.Proofs.YtioilknfjccfeaaDoor
open Go.RowKit Go.Sort

theorem strs_new (W : World) (l : List ByteArray) (n c : Nat) (t : TypeId) (hn : l.length = n) : Strs (W.alloc (.cells (strs l).toArray t)) (.slice (some ⟨W.heap.size, 0, none⟩) n c) l := by
  subst hn
  refine ⟨_, _, rfl, fun i hi => ⟨_, _, rfl, ?_⟩⟩
  rw [Nat.zero_add]
  rw [World.cell?_alloc_at (hn := rfl)]
  simp [strs, hi]

theorem ints_new (W : World) (l : List Nat) (n c : Nat) (t : TypeId) (hn : l.length = n) : Ints (W.alloc (.cells (i64s l).toArray t)) (.slice (some ⟨W.heap.size, 0, none⟩) n c) l := by
  subst hn
  refine ⟨_, _, rfl, fun i hi => ⟨_, _, rfl, ?_⟩⟩
  rw [Nat.zero_add]
  rw [World.cell?_alloc_at (hn := rfl)]
  simp [i64s, hi]

theorem fine_of {L : List ByteArray} (h : ∀ s ∈ L, s.size ≤ 281474976710656) : Fine L := fun i hi => h _ (by simp [List.getD, hi])

theorem below_alloc' {w0 w : World} {o : Obj} (h : Below w0.heap.size w0 w) : Below w0.heap.size w0 (w.alloc o) := h.alloc h.size _

/-- Numbers of a row just written out. -/
theorem numbers_lit (k : Int) (L : List ByteArray) (n : Nat) (W : World) (t : TypeId) (O : List Nat) (hT : Tabs W) (hn : L.length = n) (hf : ∀ s ∈ L, s.size ≤ 281474976710656) (hl : n ≤ 1000000) (hO : Plain.numsT k L = O) :
    Calls Tryd.prog 13 #[.int .i64 k, .slice (some ⟨W.heap.size, 0, none⟩) n n] (W.alloc (.cells (strs L).toArray t)) fun e w' => (∃ r, e = .returned r ∧ Ints w' r O) ∧ Below W.heap.size W w' := by
  have h0 : Below W.heap.size W (W.alloc (.cells (strs L).toArray t)) := below_alloc' (Below.refl _ W)
  rw [← hO]
  exact (numbers_any k L _ _ (hT.below h0) (strs_new W L n n t hn) (fine_of hf) (by omega)).mono fun e w' ⟨h1, h2⟩ => ⟨h1, Below.next h0 h2⟩

theorem ints_lit (A B : List Nat) (r : Value) (n : Nat) (W : World) (t : TypeId) (b : Bool) (hA : Ints W r A) (hn : B.length = n) (hl : A.length ≤ 1000000) (hl' : n ≤ 1000000) (hb : decide (A = B) = b) :
    Calls Tryd.prog 12 #[r, .slice (some ⟨W.heap.size, 0, none⟩) n n] (W.alloc (.cells (i64s B).toArray t)) fun e w' => e = .returned (.bool b) ∧ Below W.heap.size W w' := by
  have h0 : Below W.heap.size W (W.alloc (.cells (i64s B).toArray t)) := below_alloc' (Below.refl _ W)
  rw [← hb]
  exact (ints_any A B _ _ _ (hA.below h0) (ints_new W B n n t hn) hl (by omega)).mono fun e w' ⟨h1, h2⟩ => ⟨h1, Below.next h0 h2⟩

theorem known_lit (s : ByteArray) (k n : Int) (b : Bool) (hs : s.size ≤ 281474976710656) (hb : (decide (((Plain.parseC s).1 : Int) = k) && decide (((Plain.parseC s).2 : Int) = n)) = b) (w : World) (hT : Tabs w) : Calls Tryd.prog 16 #[.string s, .int .i64 k, .int .i64 n] w fun e w' => e = .returned (.bool b) ∧ Below w.heap.size w w' := by
  rw [← hb, ← Plain.parseC_eq]
  exact known_any s k n hs w hT

theorem make_lit (k n : Int) (M : ByteArray) (hM : Plain.makeC k n = M) (w : World) (hT : Tabs w) : Calls Tryd.prog 11 #[.int .i64 k, .int .i64 n] w fun e w' => e = .returned (.string M) ∧ Below w.heap.size w w' := by
  rw [← hM, ← Plain.makeC_eq]
  exact make_any k n w hT

set_option maxHeartbeats 1000000 in
set_option maxRecDepth 100000 in
theorem works_any (w : World) (hT : Tabs w) : Calls Tryd.prog 15 #[] w fun e w' => e = .returned (.bool true) ∧ Below w.heap.size w w' := by
  have HT := Lib.hid (fun W (hW : Below w.heap.size w W) => hT.below hW)
  have M1 := Lib.hid (make_lit 3 17 ⟨#[119, 97, 108, 45, 49, 55]⟩ (by kernel_rfl))
  have M2 := Lib.hid (make_lit 4 0 ⟨#[]⟩ (by kernel_rfl))
  have M3 := Lib.hid (make_lit 2 5 ⟨#[109, 97, 110, 105, 102, 101, 115, 116, 46, 116, 109, 112]⟩ (by kernel_rfl))
  have K1 := Lib.hid (known_lit ⟨#[115, 101, 103, 45, 49, 48, 48, 48, 48, 48, 48, 48, 48, 48]⟩ 4 1000000000 true (by decide) (by kernel_rfl))
  have K2 := Lib.hid (known_lit ⟨#[115, 101, 103, 45, 49, 48, 48, 48, 48, 48, 48, 48, 48, 49]⟩ 0 0 true (by decide) (by kernel_rfl))
  have K3 := Lib.hid (known_lit ⟨#[119, 97, 108, 45, 48, 49]⟩ 0 0 true (by decide) (by kernel_rfl))
  have K4 := Lib.hid (known_lit ⟨#[109, 97, 110, 105, 102, 101, 115, 116]⟩ 1 0 true (by decide) (by kernel_rfl))
  have K5 := Lib.hid (known_lit ⟨#[77, 97, 110, 105, 102, 101, 115, 116]⟩ 0 0 true (by decide) (by kernel_rfl))
  have N1 : Hid (∀ W, Below w.heap.size w W → Calls Tryd.prog 13 #[.int .i64 3, .slice (some ⟨W.heap.size, 0, none⟩) 4 4] (W.alloc (.cells #[.string ⟨#[119, 97, 108, 45, 51]⟩, .string ⟨#[115, 101, 103, 45, 49]⟩, .string ⟨#[119, 97, 108, 45, 50]⟩, .string ⟨#[119, 97, 108, 45, 51]⟩] 9)) fun e w' => (∃ r, e = .returned r ∧ Ints w' r [2, 3]) ∧ Below W.heap.size W w') :=
    Lib.hid fun W hW => numbers_lit 3 [⟨#[119, 97, 108, 45, 51]⟩, ⟨#[115, 101, 103, 45, 49]⟩, ⟨#[119, 97, 108, 45, 50]⟩, ⟨#[119, 97, 108, 45, 51]⟩] 4 W 9 [2, 3] (HT.out W hW) rfl (by decide) (by omega) (by rw [Plain.numsC_eq]; kernel_rfl)
  have I1 : Hid (∀ W r, Ints W r [2, 3] → Calls Tryd.prog 12 #[r, .slice (some ⟨W.heap.size, 0, none⟩) 2 2] (W.alloc (.cells #[.int .i64 2, .int .i64 3] 3)) fun e w' => e = .returned (.bool true) ∧ Below W.heap.size W w') :=
    Lib.hid fun W r h => ints_lit [2, 3] [2, 3] r 2 W 3 true h rfl (by decide) (by omega) (by decide)
  have H0 : Hid (Below w.heap.size w w) := Lib.hid (Below.refl _ _)
  go_enter Tryd.func15, Tryd.ntmps15
  go_wp2_with (first
    | (go_at_call 11; first
        | ((with_reducible refine (M1.out _ (HT.out _ H0.out)).mono ?_); rintro e w1 ⟨rfl, hb1⟩; have H1 := Lib.hid hb1; clear hb1)
        | ((with_reducible refine (M2.out _ (HT.out _ H1.out)).mono ?_); rintro e w2 ⟨rfl, hb1⟩; have H2 := Lib.hid (Below.next H1.out hb1); clear hb1)
        | ((with_reducible refine (M3.out _ (HT.out _ H2.out)).mono ?_); rintro e w3 ⟨rfl, hb1⟩; have H3 := Lib.hid (Below.next H2.out hb1); clear hb1))
    | (go_at_call 16; first
        | ((with_reducible refine (K1.out _ (HT.out _ H3.out)).mono ?_); rintro e w4 ⟨rfl, hb1⟩; have H4 := Lib.hid (Below.next H3.out hb1); clear hb1)
        | ((with_reducible refine (K2.out _ (HT.out _ H4.out)).mono ?_); rintro e w5 ⟨rfl, hb1⟩; have H5 := Lib.hid (Below.next H4.out hb1); clear hb1)
        | ((with_reducible refine (K3.out _ (HT.out _ H5.out)).mono ?_); rintro e w6 ⟨rfl, hb1⟩; have H6 := Lib.hid (Below.next H5.out hb1); clear hb1)
        | ((with_reducible refine (K4.out _ (HT.out _ H6.out)).mono ?_); rintro e w7 ⟨rfl, hb1⟩; have H7 := Lib.hid (Below.next H6.out hb1); clear hb1)
        | ((with_reducible refine (K5.out _ (HT.out _ H7.out)).mono ?_); rintro e w8 ⟨rfl, hb1⟩; have H8 := Lib.hid (Below.next H7.out hb1); clear hb1))
    | (go_at_call 13; (with_reducible refine (N1.out _ H8.out).mono ?_); rintro e w9 ⟨⟨r, rfl, hr⟩, hb1⟩; have H9 := Lib.hid (Below.next H8.out hb1); have HR := Lib.hid hr; clear hb1 hr)
    | (go_at_call 12; (with_reducible refine (I1.out _ _ HR.out).mono ?_); rintro e w10 ⟨rfl, hb1⟩; have H10 := Lib.hid (Below.next H9.out hb1); clear hb1))
  go_ret
  exact ⟨rfl, H10.out⟩
end Go.Proofs.YtioilknfjccfeaaDoor
