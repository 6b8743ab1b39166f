/-
  Nodes of a trie in memory: nothing that was made is changed again.
-/
import Derived.Test.YtmfchlbafpkgaaaD18
import Derived.Deep.RegionHeld3
import Derived.StillTailTactics
set_option linter.unusedVariables false
set_option linter.unusedSimpArgs false
namespace Go.Proofs.Ytmfchlbafpkgaaa
open Go.RowKit Go.Shelf

/-- What a value says: the weight, whether it is gone, whether it is. -/
def vW (v : Option (Nat × Bool)) : Nat := match v with | none => 0 | some x => x.1
def vG (v : Option (Nat × Bool)) : Bool := match v with | none => false | some x => x.2
def vI (v : Option (Nat × Bool)) : Bool := v.isSome

/-- The block of a map. -/
def mapB : Value → Option Nat
  | .map (some m) => some m
  | _ => none

/-- A node of this trie stands at this block, in blocks of O; none, if the trie is nothing. -/
def NodeO (O : Nat → Prop) (w : World) : Tr → Option Nat → Prop
  | .nil, p => p = none
  | .node v ws, p => ∃ (q : Nat) (mv : Value) (P : UInt8 → Option Nat), p = some q ∧ w.heap[q]? = some (.cells #[.int .u32 (vW v : Int), .bool (vG v), .bool (vI v), mv] 109 (0, 0)) ∧ NMap w mv P ∧ (O q ∧ ∀ m, mapB mv = some m → O m) ∧ ∀ b, NodeO O w (ws b) (P b)
/-- .. in whatever blocks. -/
abbrev NodeAt (w : World) (t : Tr) (p : Option Nat) : Prop := NodeO (fun _ => True) w t p

theorem NMap.lt {w : World} {mv : Value} {P : UInt8 → Option Nat} (h : NMap w mv P) : ∀ m, mapB mv = some m → m < w.heap.size := by
  intro m hm
  rcases h with ⟨rfl, _⟩ | ⟨m', rfl, h⟩
  · cases hm
  · cases hm; exact h.lt
theorem NMap.same {w w' : World} {mv : Value} {P : UInt8 → Option Nat} (h : NMap w mv P) (he : ∀ m, mapB mv = some m → w'.heap[m]? = w.heap[m]?) : NMap w' mv P := by
  rcases h with h | ⟨m, rfl, h⟩
  · exact .inl h
  · exact .inr ⟨m, rfl, h.same (he m rfl)⟩

theorem NodeO.kept {O O' : Nat → Prop} {w w' : World} (hO : ∀ k, O k → O' k) (hk : ∀ k, O k → k < w.heap.size → w'.heap[k]? = w.heap[k]?) : ∀ {t : Tr} {p : Option Nat}, NodeO O w t p → NodeO O' w' t p
  | .nil, _, h => h
  | .node v ws, p, h => by
    obtain ⟨q, mv, P, rfl, h1, h2, h3, h4⟩ := h
    exact ⟨q, mv, P, rfl, (hk q h3.1 (Array.getElem?_eq_some_iff.1 h1).1).trans h1, h2.same (fun m hm => hk m (h3.2 m hm) (h2.lt m hm)), ⟨hO _ h3.1, fun m hm => hO _ (h3.2 m hm)⟩, fun b => NodeO.kept hO hk (h4 b)⟩
theorem NodeO.below {O : Nat → Prop} {w w' : World} {t : Tr} {p : Option Nat} (h : NodeO O w t p) (hb : Below w.heap.size w w') : NodeO O w' t p := h.kept (fun _ h => h) (fun k _ hk => hb.block k hk)
theorem NodeO.all {O : Nat → Prop} {w : World} {t : Tr} {p : Option Nat} (h : NodeO O w t p) : NodeAt w t p := h.kept (fun _ _ => trivial) (fun _ _ _ => rfl)
theorem NodeO.here {O : Nat → Prop} {w : World} : ∀ {t : Tr} {p : Option Nat}, NodeO O w t p → NodeO (fun k => k < w.heap.size) w t p
  | .nil, _, h => h
  | .node v ws, p, h => by
    obtain ⟨q, mv, P, rfl, h1, h2, h3, h4⟩ := h
    exact ⟨q, mv, P, rfl, h1, h2, ⟨(Array.getElem?_eq_some_iff.1 h1).1, h2.lt⟩, fun b => NodeO.here (h4 b)⟩

theorem NodeO.gone {O : Nat → Prop} {w : World} {t : Tr} (h : NodeO O w t none) : t = .nil := by
  cases t with
  | nil => rfl
  | node v ws => obtain ⟨q, _, _, h, _⟩ := h; cases h
theorem NodeO.isSome {O : Nat → Prop} {w : World} {t : Tr} {p : Option Nat} (h : NodeO O w t p) : p.isSome = !t.isNil := by
  cases t with
  | nil => rw [show p = none from h]; rfl
  | node v ws => obtain ⟨q, _, _, rfl, _⟩ := h; rfl
/-- A node that is there. -/
theorem NodeO.there {O : Nat → Prop} {w : World} {t : Tr} {q : Nat} (h : NodeO O w t (some q)) : ∃ (mv : Value) (P : UInt8 → Option Nat), t.isNil = false ∧ w.heap[q]? = some (.cells #[.int .u32 (vW t.val : Int), .bool (vG t.val), .bool (vI t.val), mv] 109 (0, 0)) ∧ NMap w mv P ∧ (O q ∧ ∀ m, mapB mv = some m → O m) ∧ ∀ b, NodeO O w (t.way b) (P b) := by
  cases t with
  | nil => cases h
  | node v ws =>
    obtain ⟨q', mv, P, e, h1, h2, h3⟩ := h
    cases e
    exact ⟨mv, P, rfl, h1, h2, h3⟩

theorem toList_byte (s : ByteArray) (k : Nat) (h : k < s.size) : s.data.toList[k]'(by simpa using h) = s[k] := rfl
theorem down_take (t : Tr) (s : ByteArray) (k : Nat) (h : k < s.size) : t.down (s.data.toList.take (k + 1)) = (t.down (s.data.toList.take k)).way s[k] := by
  rw [take_snoc s k h, Tr.down_append]; rfl

set_option maxHeartbeats 1000000 in
theorem down_any {O : Nat → Prop} (t : Tr) (p : Option Nat) (row : ByteArray) (w : World) (h : NodeO O w t p) (hr : row.size ≤ 9223372036854775807) :
    Calls Try.prog 57 #[ptrV p, .string row] w fun e w' => ∃ p', e = .returned (ptrV p') ∧ NodeO O w' (t.down row.data.toList) p' ∧ Below w.heap.size w w' := by
  have HN := Lib.hid h
  clear h
  go_enter Try.func57, Try.ntmps57
  go_wp2
  go_loopw [0, 5] (fun v0 v5 wr => ∃ (k : Nat) (pk : Option Nat), v0 = ptrV pk ∧ v5 = .int .i64 k ∧ k ≤ row.size ∧ NodeO O wr (t.down (row.data.toList.take k)) pk ∧ Below w.heap.size w wr) (fun _ v5 _ => row.size - (intOf v5).toNat)
  case atStart => exact ⟨0, p, rfl, rfl, Nat.zero_le _, HN.out, Below.refl _ _⟩
  case round =>
    clear HN
    obtain ⟨k, pk, hv, rfl, hk, hN, hb⟩ := hrel
    cases pk with
    | none =>
      obtain rfl : _ = Value.pointer none := hv
      have HE : Hid (t.down row.data.toList = .nil) := Lib.hid (by
        have e := hN.gone
        rw [← List.take_append_drop k row.data.toList, Tr.down_append, e, Tr.down_nil])
      clear hN
      go_wp2
      go_ret
      exact ⟨none, rfl, by rw [HE.out]; rfl, hb⟩
    | some q =>
      obtain rfl : _ = Value.pointer (some ⟨q, 0, none⟩) := hv
      have hN' := Lib.hid hN
      by_cases hlt : k < row.size
      · obtain ⟨mv, P, -, h1, h2, -, h3⟩ := hN.there
        have hc : wr.cell? ⟨q, 3, none⟩ = some mv := by simp [World.cell?, h1]
        obtain ⟨mm, rfl⟩ := h2.shape
        have hcg := fun d os => cell_regrown hc d os
        have hl : ∀ d os, (Instr.lookup 107 (.map mm) (.int .u8 (row[k].toNat : Int)) false).run Try.prog (Sort.grow (redrawn wr d) os) = .ok (ptrV (P row[k])) (Sort.grow (redrawn wr d) os) := fun d os => (h2.below (below_regrown wr d os)).look row[k]
        have HX := Lib.hid (h3 row[k])
        have HT := Lib.hid (down_take t row k hlt)
        clear hN h1 h2 h3
        go_wp2
        refine wp_region_quiet_below (by kernel_rfl) (by kernel_rfl) ?_
        repeat (go_big_quiet_step (fail))
        refine wpQuiet_nil ?_
        intro _ hw'
        obtain ⟨⟨dq, osq⟩, hw''⟩ := hw'
        subst hw''
        have hb2 := Below.next hb (below_regrown wr dq osq)
        have HX2 := Lib.hid (HX.out.below (below_regrown wr dq osq))
        generalize Sort.grow (redrawn wr dq) osq = w2 at hb2 HX2 ⊢
        clear hl hc hcg
        go_wp2
        go_roundw
        case rel => exact ⟨k + 1, P row[k], rfl, by go_num, by omega, by rw [HT.out]; exact HX2.out, hb2⟩
        case measure => simp [intOf]; omega
      · have HE : Hid (t.down (row.data.toList.take k) = t.down row.data.toList) := Lib.hid (by rw [List.take_of_length_le (by simp; omega)])
        clear hN
        go_wp2
        go_ret
        exact ⟨some q, rfl, by rw [← HE.out]; exact hN'.out, hb⟩

set_option maxHeartbeats 1000000 in
theorem keys_fn (mm : Option Nat) (w : World) : Calls Try.prog 93 #[.map mm] w fun e w' => e = .returned (.func (.func 111) #[] #[.pointer (some ⟨w.heap.size, 0, none⟩)]) ∧ w' = w.alloc (.cells #[.map mm] 107) := by
  go_enter Try.func93, Try.ntmps93
  go_wp2
  go_ret
  exact ⟨rfl, rfl⟩

set_option maxHeartbeats 1000000 in
theorem rising_any (t : Tr) (q : Nat) (w : World) (h : NodeAt w t (some q)) (hl : t.keys.length < 50) :
    Calls Try.prog 67 #[.pointer (some ⟨q, 0, none⟩)] w fun e w' => ∃ v, e = .returned v ∧ w'.ownsRow w.heap.size 5 1 v t.keys.length (t.keys.map enc8) ∧ Below w.heap.size w w' := by
  obtain ⟨mv, P, -, h1, h2, -, h3⟩ := h.there
  obtain ⟨mm, rfl⟩ := h2.shape
  have c3 : w.cell? ⟨q, 3, none⟩ = some (.map mm) := by simp [World.cell?, h1]
  have hb1 : Below w.heap.size w (w.alloc (.cells #[.map mm] 107)) := (Below.refl _ w).alloc (Nat.le_refl _) _
  have hK : KeysAt w.heap.size P (w.alloc (.cells #[.map mm] 107)) := keys_map (by simp) (by simp) (h2.below hb1)
  have hm : ∀ x, x ∈ t.keys ↔ (P x).isSome = true := fun x => by
    rw [Tr.mem_keys, (h3 x).isSome]
    cases (t.way x).isNil <;> simp
  have q1 := keys_fn mm w
  have q2 := sorted_keys w.heap.size P t.keys _ hK t.keys_rise hm hl
  have HB := Lib.hid hb1
  clear h h1 h2 h3 hm hK hb1
  generalize t.keys = L at q2 ⊢
  go_enter Try.func67, Try.ntmps67
  go_wp2_with (first
    | (go_at_call 93; (with_reducible refine q1.mono ?_); rintro e w1 ⟨rfl, rfl⟩)
    | (go_at_call 92; (with_reducible refine q2.mono ?_); rintro e w1 ⟨v, rfl, hrow, hb⟩; have H := Lib.hid (And.intro hrow hb); clear hrow hb))
  go_ret
  obtain ⟨hrow, hb⟩ := H.out
  refine ⟨v, rfl, ⟨hrow.1, ?_⟩, Below.next HB.out hb⟩
  rcases hrow.2 with h | ⟨g, cap, cur, e, hg, h⟩
  · exact .inl h
  · exact .inr ⟨g, cap, cur, e, by simp at hg; omega, h⟩
end Go.Proofs.Ytmfchlbafpkgaaa
