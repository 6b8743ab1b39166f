/-
  A slice of texts, as a list of texts. Plain facts of lists of texts, by places. Contracts of what goes through a slice of texts: the program's all and Check.
-/
import Derived.Test.YtmfchlbafpkgaaaD01
import Derived.Test.YtmfchlbafpkgaaaD05
import Derived.Test.YtmfchlbafpkgaaaD03
set_option linter.unusedVariables false
set_option linter.unusedSimpArgs false
namespace Go.Proofs.Ytmfchlbafpkgaaa
open Go.RowKit

/-- Texts as cells. -/
def strs (l : List ByteArray) : List Value := l.map Value.string

/-- v is a slice that holds these texts. -/
def Strs (w : World) (v : Value) (l : List ByteArray) : Prop :=
  ∃ ad c, v = .slice ad l.length c ∧ ∀ i, i < l.length → ∃ b o, ad = some ⟨b, o, none⟩ ∧ w.cell? ⟨b, o + i, none⟩ = some (.string (l.getD i ⟨#[]⟩))

theorem Strs.below {w w' : World} {v : Value} {l : List ByteArray} (h : Strs w v l) (hb : Below w.heap.size w w') : Strs w' v l := by
  obtain ⟨ad, c, hv, hc⟩ := h
  refine ⟨ad, c, hv, fun i hi => ?_⟩
  obtain ⟨b, o, ha, hci⟩ := hc i hi
  refine ⟨b, o, ha, ?_⟩
  rw [hb.cell (p := ⟨b, o + i, none⟩) (block_lt_of_cell hci)]
  exact hci

theorem strs_nil (W : World) : Strs W (.slice none 0 0) [] := ⟨none, 0, rfl, fun i hi => by simp at hi⟩

theorem strs_of_owns {W : World} {base : Nat} {v : Value} {l : List ByteArray} (h : W.ownsRow base 9 1 v l.length (strs l)) : Strs W v l := by
  rcases h.2 with ⟨rfl, h0⟩ | ⟨g, cap, cur, rfl, _, hg, _, _, _, ht⟩
  · exact ⟨none, 0, by rw [h0], fun i hi => by omega⟩
  · refine ⟨_, cap, rfl, fun i hi => ⟨g, 0, rfl, ?_⟩⟩
    have hx : (strs l)[i]? = some (.string (l.getD i ⟨#[]⟩)) := by simp [strs, hi]
    rw [← ht, List.getElem?_take] at hx
    split at hx
    · rw [Array.getElem?_toList] at hx
      simp [World.cell?, hg, hx]
    · cases hx

theorem Strs.take {W : World} {ad : Option Addr} {n c m : Nat} {l : List ByteArray} (h : Strs W (.slice ad n c) l) (hl : l.length = n) (hm : m ≤ n) : Strs W (.slice ad m c) (l.take m) := by
  obtain ⟨ad', c', hv, hx⟩ := h
  rw [hl] at hv
  cases hv
  refine ⟨ad, c, by rw [List.length_take, Nat.min_eq_left (by omega)], fun i hi => ?_⟩
  rw [List.length_take] at hi
  obtain ⟨b, o, ha, hc⟩ := hx i (by omega)
  refine ⟨b, o, ha, ?_⟩
  rw [hc]
  simp [List.getD, show i < m by omega]

theorem i9 : (Try.prog.info? 9).map (fun i => (i.zero, i.size, i.bytes)) = some (some (.string ⟨#[]⟩), 1, 16) := by kernel_rfl
end Go.Proofs.Ytmfchlbafpkgaaa
namespace Go.Proofs.Ytmfchlbafpkgaaa
open Go.RowKit

/-- Texts, as rows of bytes. -/
def bl (l : List ByteArray) : List (List UInt8) := l.map fun s => s.data.toList

/-- The text at a place. -/
def at' (l : List ByteArray) (i : Nat) : ByteArray := l.getD i ⟨#[]⟩

theorem at_lt {l : List ByteArray} {i : Nat} (h : i < l.length) : at' l i = l[i] := by simp [at', List.getD, h]

theorem at_mem {l : List ByteArray} {i : Nat} (h : i < l.length) : at' l i ∈ l := by rw [at_lt h]; exact List.getElem_mem h

/-- No text is longer than can be. -/
def Short (l : List ByteArray) : Prop := ∀ s ∈ l, s.size ≤ 9223372036854775807

theorem short_at {l : List ByteArray} (h : Short l) (i : Nat) : (at' l i).size ≤ 9223372036854775807 := by
  rcases Nat.lt_or_ge i l.length with hi | hi
  · exact h _ (at_mem hi)
  · rw [show at' l i = ⟨#[]⟩ by simp [at', List.getD, hi]]; decide

/-- The cell of a text. -/
theorem strs_cell {w : World} {v : Value} {l : List ByteArray} (h : Strs w v l) : ∃ ad c, v = .slice ad l.length c ∧ ∀ i, i < l.length → ∃ b o, ad = some ⟨b, o, none⟩ ∧ w.cell? ⟨b, o + i, none⟩ = some (.string (at' l i)) := h

theorem bl_length (l : List ByteArray) : (bl l).length = l.length := by simp [bl]

theorem bl_inj {l m : List ByteArray} (h : bl l = bl m) : l = m := by
  unfold bl at h
  exact (List.map_inj_right (fun a b => fun e => ba_ext e)).1 h

theorem bl_at {l : List ByteArray} {i : Nat} (h : i < (bl l).length) : (bl l)[i] = (at' l i).data.toList := by
  have h' : i < l.length := by rw [bl_length] at h; exact h
  simp [bl, at_lt h']

theorem mem_bl {l : List ByteArray} {x : ByteArray} : x.data.toList ∈ bl l ↔ x ∈ l := by
  unfold bl
  rw [List.mem_map]
  constructor
  · rintro ⟨y, hy, e⟩
    rw [← ba_ext e]; exact hy
  · exact fun h => ⟨x, h, rfl⟩

theorem at_bl {l : List ByteArray} {i : Nat} (h : i < l.length) : (at' l i).data.toList ∈ bl l := mem_bl.2 (at_mem h)

/-- Do they rise? -/
def risingT (l : List ByteArray) : Bool := Plain.rising (bl l)

theorem rising_iff : ∀ l : List ByteArray, risingT l = true ↔ ∀ i, i + 1 < l.length → lessT (at' l i) (at' l (i + 1)) = true
  | [] => by simp [risingT, bl, Plain.rising]
  | [x] => by simp [risingT, bl, Plain.rising]
  | x :: y :: r => by
    have ih := rising_iff (y :: r)
    unfold risingT at ih ⊢
    show Plain.rising (x.data.toList :: y.data.toList :: bl r) = true ↔ _
    unfold Plain.rising
    rw [Bool.and_eq_true]
    constructor
    · rintro ⟨h1, h2⟩ i hi
      cases i with
      | zero => exact h1
      | succ i => exact ih.1 h2 i (by simpa using hi)
    · intro h
      exact ⟨h 0 (by simp), ih.2 fun i hi => h (i + 1) (by simp at hi ⊢; omega)⟩

theorem rising_not {l : List ByteArray} {i : Nat} (hi : i + 1 < l.length) (h : lessT (at' l i) (at' l (i + 1)) = false) : risingT l = false := by
  cases hr : risingT l
  · rfl
  · rw [(rising_iff l).1 hr i hi] at h; cases h

/-! ### What all share -/

def allSharedT (l : List ByteArray) : Nat := Plain.allShared (bl l)

theorem allShared_snoc {x : List UInt8} {r : List (List UInt8)} (y : List UInt8) : Plain.allShared (x :: (r ++ [y])) = min (Plain.allShared (x :: r)) (Plain.shared x y) := by
  show (r ++ [y]).foldl _ x.length = min (r.foldl _ x.length) _
  rw [List.foldl_append]
  rfl

theorem bl_take (l : List ByteArray) (k : Nat) : bl (l.take k) = (bl l).take k := by simp [bl, List.map_take]

theorem take_cons_at {l : List ByteArray} {k : Nat} (hk : 0 < k) (hl : k ≤ l.length) : ∃ r, bl (l.take k) = (at' l 0).data.toList :: r := by
  cases l with
  | nil => simp at hl; omega
  | cons x l =>
    obtain ⟨k', rfl⟩ : ∃ k', k = k' + 1 := ⟨k - 1, by omega⟩
    exact ⟨bl (l.take k'), rfl⟩

theorem allShared_first (l : List ByteArray) (hl : 0 < l.length) : allSharedT (l.take 1) = (at' l 0).size := by
  cases l with
  | nil => simp at hl
  | cons x l =>
    show x.data.toList.length = _
    rw [ba_length]; rfl

theorem allShared_head {l : List ByteArray} {k : Nat} (hk : 0 < k) (hl : k < l.length) : allSharedT (l.take (k + 1)) = min (allSharedT (l.take k)) (sharedT (at' l 0) (at' l k)) := by
  obtain ⟨r, hr⟩ := take_cons_at hk (Nat.le_of_lt hl)
  have e : bl (l.take (k + 1)) = bl (l.take k) ++ [(at' l k).data.toList] := by
    rw [List.take_succ_eq_append_getElem hl, at_lt hl]; unfold bl; rw [List.map_append, List.map_singleton]
  unfold allSharedT sharedT
  rw [e, hr]
  exact allShared_snoc _

theorem allShared_next {l : List ByteArray} {k : Nat} (hk : 0 < k) (hl : k < l.length) : allSharedT (l.take (k + 1)) = min (allSharedT (l.take k)) (sharedT (at' l (k - 1)) (at' l k)) := by
  rw [allShared_head hk hl]
  have m0 : (at' l 0).data.toList ∈ bl (l.take k) := by
    obtain ⟨r, hr⟩ := take_cons_at hk (Nat.le_of_lt hl)
    rw [hr]; simp
  have m1 : (at' l (k - 1)).data.toList ∈ bl (l.take k) := by
    have h1 : k - 1 < (l.take k).length := by rw [List.length_take]; omega
    have : at' l (k - 1) = at' (l.take k) (k - 1) := by
      simp [at', List.getD, show k - 1 < k by omega]
    rw [this]
    exact at_bl h1
  have hA := Plain.allShared_two _ m0 m1
  have t1 := Plain.shared_three (at' l 0).data.toList (at' l (k - 1)).data.toList (at' l k).data.toList
  have t2 := Plain.shared_three (at' l (k - 1)).data.toList (at' l 0).data.toList (at' l k).data.toList
  rw [Plain.shared_comm (at' l (k - 1)).data.toList (at' l 0).data.toList] at t2
  unfold allSharedT sharedT
  omega

theorem allShared_le_size (l : List ByteArray) (hl : 0 < l.length) : allSharedT l ≤ (at' l 0).size := by
  rw [← ba_length]
  exact Plain.allShared_le _ _ (at_bl hl)

/-! ### Places -/

def placeT (l : List ByteArray) (x : ByteArray) : Nat := Plain.place (bl l) x.data.toList
def inT (l : List ByteArray) (x : ByteArray) : Bool := decide (x.data.toList ∈ bl l)

theorem inT_iff (l : List ByteArray) (x : ByteArray) : inT l x = true ↔ x ∈ l := by unfold inT; rw [decide_eq_true_eq, mem_bl]

theorem placeT_le (l : List ByteArray) (x : ByteArray) : placeT l x ≤ l.length := by
  have := Plain.place_le (bl l) x.data.toList
  rw [bl_length] at this
  exact this

theorem less_place {l : List ByteArray} (h : risingT l = true) (x : ByteArray) {i : Nat} (hi : i < l.length) : lessT (at' l i) x = decide (i < placeT l x) := by
  obtain ⟨h1, h2⟩ := Plain.place_split (w := x.data.toList) h
  have hib : i < (bl l).length := by rw [bl_length]; exact hi
  by_cases hp : i < placeT l x
  · rw [decide_eq_true hp]
    refine h1 _ ?_
    rw [← bl_at hib]
    exact List.mem_take_iff_getElem.2 ⟨i, by unfold placeT at hp; omega, rfl⟩
  · rw [decide_eq_false hp]
    refine h2 _ ?_
    rw [← bl_at hib]
    refine List.mem_drop_iff_getElem.2 ⟨i - placeT l x, by unfold placeT at hp ⊢; omega, ?_⟩
    congr 1
    unfold placeT at hp ⊢
    omega

theorem in_place {l : List ByteArray} (h : risingT l = true) (x : ByteArray) : inT l x = (decide (placeT l x < l.length) && !lessT x (at' l (placeT l x))) := by
  unfold inT
  by_cases hx : x ∈ l
  · obtain ⟨j, hj, e⟩ := List.getElem_of_mem hx
    have hp : placeT l x = j := by
      have hjb : j < (bl l).length := by rw [bl_length]; exact hj
      have := Plain.place_at (l := bl l) h hjb
      rw [bl_at hjb, at_lt hj, e] at this
      exact this
    rw [hp, decide_eq_true (mem_bl.2 hx), decide_eq_true hj, at_lt hj, e]
    unfold lessT
    rw [Plain.less_irrefl]
    rfl
  · rw [decide_eq_false (fun h => hx (mem_bl.1 h))]
    by_cases hp : placeT l x < l.length
    · rw [decide_eq_true hp, Bool.true_and]
      have h1 := less_place h x hp
      rw [decide_eq_false (Nat.lt_irrefl _)] at h1
      have hne : (at' l (placeT l x)).data.toList ≠ x.data.toList := fun e => hx (by rw [← ba_ext e]; exact at_mem hp)
      rcases Plain.less_total _ _ hne with h2 | h2
      · unfold lessT at h1; rw [h1] at h2; cases h2
      · unfold lessT; rw [h2]; rfl
    · rw [decide_eq_false hp]; rfl
end Go.Proofs.Ytmfchlbafpkgaaa
namespace Go.Proofs.Ytmfchlbafpkgaaa
open Go.RowKit

set_option maxHeartbeats 400000 in
theorem all_any (l : List ByteArray) (v : Value) (w : World) (hv : Strs w v l) (hl : Short l) (hlen : l.length ≤ 9223372036854775807) :
    Calls Try.prog 87 #[.func (.func 86) #[] #[], v] w fun e w' => e = .returned (.bool (l.all wordT)) ∧ w = w' := by
  obtain ⟨ad, c, rfl, hc⟩ := strs_cell hv
  go_enter Try.func87, Try.ntmps87
  go_wp2
  go_loop [6, 9] (fun _ i => ∃ k : Nat, k ≤ l.length ∧ i = .int .i64 k ∧ (∀ j, j < k → wordT (at' l j) = true)) (fun _ i => l.length - (intOf i).toNat)
  case atStart => exact ⟨0, Nat.zero_le _, rfl, fun j hj => by omega⟩
  case round =>
    obtain ⟨k, hk, rfl, hs⟩ := hrel
    have HS := Lib.hid hs
    clear hs
    by_cases hlt : k < l.length
    · obtain ⟨b, o, rfl, hcell⟩ := hc k hlt
      have q26 := mayBe_any (at' l k) w (short_at hl k)
      obtain ⟨x, hx⟩ : ∃ x, x = at' l k := ⟨_, rfl⟩
      rw [← hx] at hcell q26
      obtain ⟨r, hr⟩ : ∃ r, wordT x = r := ⟨_, rfl⟩
      rw [hr] at q26
      rw [hx] at hr
      have HR := Lib.hid hr
      clear hr hx hc
      cases r
      · go_wp2_with (go_at_call 86; go_must (refine q26.mono ?_); rintro e w1 ⟨rfl, rfl⟩)
        go_ret
        refine ⟨?_, rfl⟩
        rw [show l.all wordT = false by
          rw [List.all_eq_false]
          exact ⟨_, at_mem hlt, by rw [HR.out]; simp⟩]
        rfl
      · go_wp2_with (go_at_call 86; go_must (refine q26.mono ?_); rintro e w1 ⟨rfl, rfl⟩)
        exact ⟨⟨k + 1, by omega, by go_num, fun j hj => by
          rcases Nat.lt_or_ge j k with h | h
          · exact HS.out j h
          · rw [show j = k by omega]; exact HR.out⟩, by simp [intOf]; omega⟩
    · have HE : Hid (l.all wordT = true) := Lib.hid (by
        rw [List.all_eq_true]
        intro s hsm
        obtain ⟨j, hj, rfl⟩ := List.getElem_of_mem hsm
        have := HS.out j (by omega)
        rwa [at_lt hj] at this)
      clear hc
      go_wp2
      go_ret
      exact ⟨by rw [HE.out]; rfl, rfl⟩
/-- What Check answers. -/
def checkT (l : List ByteArray) : Nat := if l.all wordT = true then 0 else 7

theorem check_any (l : List ByteArray) (v : Value) (w : World) (hv : Strs w v l) (hl : Short l) (hlen : l.length ≤ 9223372036854775807) :
    Calls Try.prog 51 #[v] w fun e w' => e = .returned (.int .i64 (checkT l)) ∧ w = w' := by
  have q27 := all_any l v w hv hl hlen
  unfold checkT
  obtain ⟨r, hr⟩ : ∃ r, l.all wordT = r := ⟨_, rfl⟩
  rw [hr] at q27 ⊢
  clear hr
  cases r
  all_goals
    go_enter Try.func51, Try.ntmps51
    go_wp2_with (go_at_call 87; go_must (refine q27.mono ?_); rintro e w1 ⟨rfl, rfl⟩)
    go_ret
    exact ⟨rfl, rfl⟩

end Go.Proofs.Ytmfchlbafpkgaaa
