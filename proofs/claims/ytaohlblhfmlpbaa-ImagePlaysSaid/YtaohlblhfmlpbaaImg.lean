/- An image in memory; its operations that make no memory. -/
import Derived.Test.YtaohlblhfmlpbaaBase
import Derived.Test.YtaohlblhfmlpbaaShelf
import Derived.Lib.SliceRun
import Derived.RangeFuncBox
import Derived.Shelf.Bytes.SlEqualAll
namespace Go.Proofs.Ytaohlblhfmlpbaa
open Go.RowKit

abbrev E : Type := UInt8
def ev (x : E) : Value := .int .u8 ((x.toNat : Nat) : Int)
def vs (l : List E) : List Value := l.map ev
theorem length_vs (l : List E) : (vs l).length = l.length := List.length_map ..
theorem vs_append (a b : List E) : vs (a ++ b) = vs a ++ vs b := List.map_append
theorem vs_one (l : List E) : ∀ v ∈ vs l, v.oneCell' = true := fun v h => by
  obtain ⟨z, _, rfl⟩ := List.mem_map.1 h
  rfl
theorem vs_some {l : List E} {i : Nat} {x : E} (h : l[i]? = some x) : (vs l)[i]? = some (ev x) := by
  unfold vs
  rw [List.getElem?_map, h]
  rfl
theorem vs_at {l : List E} {i : Nat} {v : Value} (h : (vs l)[i]? = some v) : ∃ x, l[i]? = some x ∧ v = ev x := by
  unfold vs at h
  rw [List.getElem?_map] at h
  cases e : l[i]? with
  | none => rw [e] at h; cases h
  | some x => rw [e] at h; exact ⟨x, rfl, (Option.some.inj h).symm⟩
theorem infoE : (Try.prog.info? 5).map (fun i => (i.zero, i.size, i.bytes)) = some (some (.int .u8 0), 1, 1) := by kernel_rfl
theorem infoL : ∃ i0, Try.prog.info? 58 = some i0 := Option.isSome_iff_exists.1 (by kernel_rfl)
theorem sizeE : (Try.prog.info? 5).map (·.size) = some 1 := by kernel_rfl
theorem lt_of_cell' {w : World} {p : Addr} {v : Value} (h : w.cell? p = some v) : p.block < w.heap.size := by
  rcases Nat.lt_or_ge p.block w.heap.size with hlt | hge
  · exact hlt
  · simp [World.cell?, Array.getElem?_eq_none hge] at h
/-- A slice of bytes that reads as a list, wherever it lies. -/
def SB (w : World) (A : Option Addr) (n : Nat) (l : List E) : Prop := l.length = n ∧ (0 < n → ∃ a, A = some a ∧ ∀ i x, l[i]? = some x → w.cell? (a.add i) = some (ev x))
theorem SB.nil (w : World) (A : Option Addr) : SB w A 0 [] := ⟨rfl, fun h => absurd h (by omega)⟩
theorem SB.below {w w' : World} {A : Option Addr} {n : Nat} {l : List E} (h : SB w A n l) (hb : Below w.heap.size w w') : SB w' A n l := by
  refine ⟨h.1, fun hn => ?_⟩
  obtain ⟨b, rfl, hc⟩ := h.2 hn
  exact ⟨b, rfl, fun i x hx => (hb.cell (lt_of_cell' (hc i x hx))).trans (hc i x hx)⟩
theorem nums_one (l : List E) (i : Nat) (h : i < l.length) : ∃ x, l[i]? = some x ∧ (l.map fun x => ((x.toNat : Nat) : Int)).getD i 0 = ((x.toNat : Nat) : Int) := by
  refine ⟨l[i], List.getElem?_eq_getElem h, ?_⟩
  simp [List.getD, List.getElem?_map, List.getElem?_eq_getElem h]
theorem SB.bytes {w : World} {A : Option Addr} {n : Nat} {l : List E} (h : SB w A n l) : Lib.BytesIn w A n (l.map fun x => ((x.toNat : Nat) : Int)) := by
  rcases Nat.eq_zero_or_pos n with rfl | hn
  · exact Lib.BytesIn.nil _ _ _
  · obtain ⟨a, rfl, hc⟩ := h.2 hn
    refine Lib.BytesIn.of_cells fun i hi => ?_
    obtain ⟨x, hx, e⟩ := nums_one l i (by rw [h.1]; exact hi)
    rw [e]
    exact hc i x hx
theorem bytesOf_nums (l : List E) : Lib.bytesOf (l.map fun x => ((x.toNat : Nat) : Int)) = l := by
  simp [Lib.bytesOf, List.map_map, Function.comp_def]
/-- bytes.Equal. -/
theorem equal_any {w : World} {A A' : Option Addr} {n n' c c' : Nat} {l l' : List E} (h : SB w A n l) (h' : SB w A' n' l') :
    Calls Try.prog 28 #[.slice A n c, .slice A' n' c'] w fun e w' => e = .returned (.bool (l == l')) ∧ w = w' := by
  refine (Try.bytes_Equal_all A A' n c n' c' _ _ w (by rw [List.length_map]; exact h.1) (by rw [List.length_map]; exact h'.1) h.bytes h'.bytes).mono ?_
  rintro e w' ⟨rfl, rfl⟩
  rw [bytesOf_nums, bytesOf_nums]
  exact ⟨rfl, rfl⟩
/-- An own row is a slice that reads as its list. -/
theorem owns_sl {w : World} {B : Nat} {v : Value} {l : List E} (h : w.ownsRow B 5 1 v l.length (vs l)) : ∃ A c, v = .slice A l.length c ∧ (A = none → l.length = 0 ∧ c = 0) ∧ l.length ≤ c ∧ c ≤ 9223372036854775807 ∧ SB w A l.length l ∧ (∀ b, A = some b → ∃ g, b = ⟨g, 0, none⟩ ∧ B ≤ g ∧ g < w.heap.size) := by
  rcases h.2 with ⟨rfl, h0⟩ | ⟨g, cap, cur, rfl, hg, hh, hc, hm, _⟩
  · obtain rfl : l = [] := List.eq_nil_of_length_eq_zero h0
    exact ⟨none, 0, rfl, fun _ => ⟨rfl, rfl⟩, Nat.le_refl _, by omega, SB.nil _ _, (fun _ h => nomatch h)⟩
  · have hcell : ∀ i x, l[i]? = some x → w.cell? ((⟨g, 0, none⟩ : Addr).add i) = some (ev x) := fun i x hx => h.cells (g := g) rfl i _ (vs_some hx)
    exact ⟨some ⟨g, 0, none⟩, cap, rfl, (fun h => by cases h), hc, by unfold maxLen at hm; omega, ⟨rfl, fun _ => ⟨_, rfl, hcell⟩⟩, (fun b hb => ⟨g, (Option.some.inj hb).symm, hg, lt_of_heap hh⟩)⟩
def icells (P sz d : Nat) (v : Value) : Array Value := #[.pointer (some ⟨P, 0, none⟩), .int .i64 (sz : Nat), .int .i64 (d : Nat), v]
/-- A valid image at block P: its size, how many bytes are durable, its bytes in the row v. -/
structure IOwn (w : World) (B P sz d : Nat) (v : Value) (l : List E) : Prop where
  hP : B ≤ P
  blk : w.heap[P]? = some (.cells (icells P sz d v) 58 (0, 0))
  row : w.ownsRow B 5 1 v l.length (vs l)
  dle : d ≤ l.length
  le : l.length ≤ sz
  sz_le : sz ≤ 8192
/-- A pointer to an image that is not valid. -/
def Bad (w : World) (p : Option Addr) : Prop := p = none ∨ ∃ P, p = some ⟨P, 0, none⟩ ∧ w.cell? ⟨P, 0, none⟩ = some (.pointer none)
theorem Bad.below {w w' : World} {p : Option Addr} (h : Bad w p) (hb : Below w.heap.size w w') : Bad w' p := by
  rcases h with h | ⟨P, rfl, h⟩
  · exact Or.inl h
  · exact Or.inr ⟨P, rfl, (hb.cell (lt_of_cell h)).trans h⟩
section
variable {w : World} {B P sz d : Nat} {v : Value} {l : List E}
theorem IOwn.c0 (h : IOwn w B P sz d v l) : w.cell? ⟨P, 0, none⟩ = some (.pointer (some ⟨P, 0, none⟩)) := (cell_of_row w P 0 _ _ (0, 0) h.blk).trans rfl
theorem IOwn.c1 (h : IOwn w B P sz d v l) : w.cell? ⟨P, 1, none⟩ = some (.int .i64 (sz : Nat)) := (cell_of_row w P 1 _ _ (0, 0) h.blk).trans rfl
theorem IOwn.c2 (h : IOwn w B P sz d v l) : w.cell? ⟨P, 2, none⟩ = some (.int .i64 (d : Nat)) := (cell_of_row w P 2 _ _ (0, 0) h.blk).trans rfl
theorem IOwn.c3 (h : IOwn w B P sz d v l) : w.cell? ⟨P, 3, none⟩ = some v := (cell_of_row w P 3 _ _ (0, 0) h.blk).trans rfl
theorem IOwn.fz (h : IOwn w B P sz d v l) (i : Nat) : w.frozen? ⟨P, i, none⟩ = false := frozen_of_row w P i _ _ h.blk
theorem IOwn.lt (h : IOwn w B P sz d v l) : P < w.heap.size := lt_of_heap h.blk
theorem IOwn.foot_lt (h : IOwn w B P sz d v l) : ∀ b, Foot P v b → b < w.heap.size := fun b hb => by
  rcases hb with rfl | hb
  · exact h.lt
  · exact (h.row.lt b hb).2
theorem IOwn.foot_le (h : IOwn w B P sz d v l) : ∀ b, Foot P v b → B ≤ b := fun b hb => by
  rcases hb with rfl | hb
  · exact h.hP
  · exact (h.row.lt b hb).1
theorem IOwn.same {w' : World} (h : IOwn w B P sz d v l) (hb : ∀ b, Foot P v b → w'.heap[b]? = w.heap[b]?) : IOwn w' B P sz d v l :=
  ⟨h.hP, (hb P (.inl rfl)).trans h.blk, owns_of_block h.row fun g hg => hb g (.inr hg), h.dle, h.le, h.sz_le⟩
theorem IOwn.below {w' : World} (h : IOwn w B P sz d v l) (hb : Below w.heap.size w w') : IOwn w' B P sz d v l := h.same fun b hF => hb.block b (h.foot_lt b hF)
theorem IOwn.turned {w' : World} {F F' : Nat → Prop} (h : IOwn w B P sz d v l) (hT : Turn F F' w w') (hA : Apart F (Foot P v)) : IOwn w' B P sz d v l := h.same (hT.same hA h.foot_lt)
theorem IOwn.ne (h : IOwn w B P sz d v l) : v.ownBlock ≠ some P := by
  intro he
  rcases h.row.2 with ⟨h0, _⟩ | ⟨g, cap, cur, hv, _, hh, _⟩
  · rw [h0] at he; cases he
  · rw [hv] at he
    obtain rfl : g = P := by simpa [Value.ownBlock] using he
    rw [h.blk] at hh
    cases hh
/-- The number of durable bytes alone has turned. -/
theorem IOwn.remark (h : IOwn w B P sz d v l) (m : Nat) (hm : m ≤ l.length) : IOwn (w.setCell ⟨P, 2, none⟩ (.int .i64 (m : Nat))) B P sz m v l ∧ Turn (Foot P v) (Foot P v) w (w.setCell ⟨P, 2, none⟩ (.int .i64 (m : Nat))) := by
  refine ⟨⟨h.hP, ?_, owns_of_block h.row fun g hg => Below.heap_setCell w _ _ g (fun e => h.ne (by rw [← show g = P from e]; exact hg)), hm, h.le, h.sz_le⟩, (But.refl _ w).setCell (.inl (.inl rfl)) _, fun _ h => .inl h⟩
  rw [heap_setCell_same w P 2 _ _ _ h.blk]
  rfl
/-- A store into the fourth cell. -/
theorem IOwn.store3 {w1 : World} (h : IOwn w B P sz d v l) {v' : Value} {l' : List E} (hb : w1.heap[P]? = w.heap[P]?) (hr : w1.ownsRow B 5 1 v' l'.length (vs l')) (hm : d ≤ l'.length) (hle : l'.length ≤ sz)
    (hne : v'.ownBlock ≠ some P) : IOwn (w1.setCell ⟨P, 3, none⟩ v') B P sz d v' l' := by
  refine ⟨h.hP, ?_, owns_of_block hr fun g hg => Below.heap_setCell w1 _ _ g (fun e => hne (by rw [← show g = P from e]; exact hg)), hm, hle, h.sz_le⟩
  rw [heap_setCell_same w1 P 3 _ _ _ (hb.trans h.blk)]
  rfl
end
theorem eql_self (a : Addr) (w : World) : (binOp .eql 27 (.pointer (some a)) (.pointer (some a))).run Try.prog w = .ok (.bool true) w := by
  obtain ⟨i0, hi⟩ := infoL
  exact run_eql_ptr_same w a Try.underlying27 hi
theorem eql_none (a : Addr) (w : World) : (binOp .eql 27 (.pointer none) (.pointer (some a))).run Try.prog w = .ok (.bool false) w := by
  have h : ∀ d : Nat, (Op.equalIn (d + 1) 27 (.pointer none) (.pointer (some a))).run Try.prog w = .ok false w := fun d => by
    simp [Op.equalIn, run_underlying Try.underlying27]
  simp only [binOp]
  simp [Op.equal, Op.maxDepth, h 9999]
theorem valid_bad (p : Option Addr) (w : World) (h : Bad w p) : Calls Try.prog 34 #[.pointer p] w fun e w' => e = .returned (.bool false) ∧ w = w' := by
  rcases h with rfl | ⟨P, rfl, hc⟩
  · go_enter Try.func34, Try.ntmps34
    go_wp2
    go_ret
    exact ⟨rfl, rfl⟩
  · have hq := eql_none ⟨P, 0, none⟩
    go_enter Try.func34, Try.ntmps34
    go_wp2
    go_ret
    exact ⟨rfl, rfl⟩
theorem valid_any (P : Nat) (w : World) (h : w.cell? ⟨P, 0, none⟩ = some (.pointer (some ⟨P, 0, none⟩))) : Calls Try.prog 34 #[.pointer (some ⟨P, 0, none⟩)] w fun e w' => e = .returned (.bool true) ∧ w = w' := by
  have hq := eql_self ⟨P, 0, none⟩
  go_enter Try.func34, Try.ntmps34
  go_wp2
  go_ret
  exact ⟨rfl, rfl⟩
theorem len_bad (p : Option Addr) (w : World) (h : Bad w p) : Calls Try.prog 33 #[.pointer p] w fun e w' => e = .returned (.int .i64 0) ∧ w = w' := by
  have g := Lib.hid h
  clear h
  go_enter Try.func33, Try.ntmps33
  go_wp2_with (go_at_call 34; refine (valid_bad _ _ g.out).mono ?_; rintro e w' ⟨rfl, rfl⟩)
  go_ret
  exact ⟨rfl, rfl⟩
theorem durable_bad (p : Option Addr) (w : World) (h : Bad w p) : Calls Try.prog 26 #[.pointer p] w fun e w' => e = .returned (.int .i64 0) ∧ w = w' := by
  have g := Lib.hid h
  clear h
  go_enter Try.func26, Try.ntmps26
  go_wp2_with (go_at_call 34; refine (valid_bad _ _ g.out).mono ?_; rintro e w' ⟨rfl, rfl⟩)
  go_ret
  exact ⟨rfl, rfl⟩
theorem size_bad (p : Option Addr) (w : World) (h : Bad w p) : Calls Try.prog 30 #[.pointer p] w fun e w' => e = .returned (.int .i64 0) ∧ w = w' := by
  have g := Lib.hid h
  clear h
  go_enter Try.func30, Try.ntmps30
  go_wp2_with (go_at_call 34; refine (valid_bad _ _ g.out).mono ?_; rintro e w' ⟨rfl, rfl⟩)
  go_ret
  exact ⟨rfl, rfl⟩
theorem room_bad (p : Option Addr) (w : World) (h : Bad w p) : Calls Try.prog 29 #[.pointer p] w fun e w' => e = .returned (.int .i64 0) ∧ w = w' := by
  have g := Lib.hid h
  clear h
  go_enter Try.func29, Try.ntmps29
  go_wp2_with first
    | (go_at_call 30; refine (size_bad _ _ g.out).mono ?_; rintro e w' ⟨rfl, rfl⟩)
    | (go_at_call 33; refine (len_bad _ _ g.out).mono ?_; rintro e w' ⟨rfl, rfl⟩)
  go_ret
  exact ⟨rfl, rfl⟩
theorem sync_bad (p : Option Addr) (w : World) (h : Bad w p) : Calls Try.prog 15 #[.pointer p] w fun e w' => e = .returned (.tuple #[]) ∧ w = w' := by
  have g := Lib.hid h
  clear h
  go_enter Try.func15, Try.ntmps15
  go_wp2_with (go_at_call 34; refine (valid_bad _ _ g.out).mono ?_; rintro e w' ⟨rfl, rfl⟩)
  go_end0
  exact ⟨rfl, rfl⟩
theorem erase_bad (p : Option Addr) (w : World) (h : Bad w p) : Calls Try.prog 19 #[.pointer p] w fun e w' => e = .returned (.tuple #[]) ∧ w = w' := by
  have g := Lib.hid h
  clear h
  go_enter Try.func19, Try.ntmps19
  go_wp2_with (go_at_call 34; refine (valid_bad _ _ g.out).mono ?_; rintro e w' ⟨rfl, rfl⟩)
  go_end0
  exact ⟨rfl, rfl⟩
theorem append_bad (p : Option Addr) (x : Value) (w : World) (h : Bad w p) : Calls Try.prog 13 #[.pointer p, x] w fun e w' => e = .returned (.int .i64 1) ∧ w = w' := by
  have g := Lib.hid h
  clear h
  go_enter Try.func13, Try.ntmps13
  go_wp2_with (go_at_call 34; refine (valid_bad _ _ g.out).mono ?_; rintro e w' ⟨rfl, rfl⟩)
  go_ret
  exact ⟨rfl, rfl⟩
theorem crash_bad (p : Option Addr) (i : Int) (w : World) (h : Bad w p) : Calls Try.prog 17 #[.pointer p, .int .i64 i] w fun e w' => e = .returned (.int .i64 1) ∧ w = w' := by
  have g := Lib.hid h
  clear h
  go_enter Try.func17, Try.ntmps17
  go_wp2_with (go_at_call 34; refine (valid_bad _ _ g.out).mono ?_; rintro e w' ⟨rfl, rfl⟩)
  go_ret
  exact ⟨rfl, rfl⟩
theorem read_bad (p : Option Addr) (i j : Int) (w : World) (h : Bad w p) : Calls Try.prog 27 #[.pointer p, .int .i64 i, .int .i64 j] w fun e w' => e = .returned (.tuple #[.slice none 0 0, .int .i64 1]) ∧ w = w' := by
  have g := Lib.hid h
  clear h
  go_enter Try.func27, Try.ntmps27
  go_wp2_with (go_at_call 34; refine (valid_bad _ _ g.out).mono ?_; rintro e w' ⟨rfl, rfl⟩)
  go_ret2
  exact ⟨rfl, rfl⟩
theorem copy_bad (p : Option Addr) (w : World) (h : Bad w p) : Calls Try.prog 21 #[.pointer p] w fun e w' => e = .returned (.pointer none) ∧ w = w' := by
  have g := Lib.hid h
  clear h
  go_enter Try.func21, Try.ntmps21
  go_wp2_with (go_at_call 34; refine (valid_bad _ _ g.out).mono ?_; rintro e w' ⟨rfl, rfl⟩)
  go_ret
  exact ⟨rfl, rfl⟩
theorem new_bad (n : Int) (w : World) (h : n < 1 ∨ 8192 < n) : Calls Try.prog 11 #[.int .i64 n] w fun e w' => e = .returned (.tuple #[.pointer none, .int .i64 2]) ∧ w = w' := by
  rcases h with h | h
  · go_enter Try.func11, Try.ntmps11
    go_wp2
    go_ret2
    exact ⟨rfl, rfl⟩
  · have h2 : ¬ (n < 1) := by omega
    go_enter Try.func11, Try.ntmps11
    go_wp2
    go_ret2
    exact ⟨rfl, rfl⟩
theorem new_any (n : Nat) (w : World) (h1 : 1 ≤ n) (h : n ≤ 8192) : Calls Try.prog 11 #[.int .i64 (n : Nat)] w fun e w' => e = .returned (.tuple #[.pointer (some ⟨w.heap.size, 0, none⟩), .int .i64 0]) ∧ Hid (IOwn w' w.heap.size w.heap.size n 0 (.slice none 0 0) [] ∧ Below w.heap.size w w') := by
  have i1 : (1 : Int) ≤ (n : Int) := by omega
  have i2 : (n : Int) ≤ 8192 := by omega
  go_enter Try.func11, Try.ntmps11
  go_wp2_with fail
  go_ret2
  exact ⟨rfl, ⟨Nat.le_refl _, World.alloc_heap_new _ _, World.ownsRow_nil _ _ _ _, Nat.le_refl _, Nat.zero_le _, h⟩, (Below.refl _ w).alloc (Nat.le_refl _) _⟩
section
variable {w : World} {B P sz d : Nat} {v : Value} {l : List E}
theorem len_any (h : IOwn w B P sz d v l) : Calls Try.prog 33 #[.pointer (some ⟨P, 0, none⟩)] w fun e w' => e = .returned (.int .i64 (l.length : Nat)) ∧ w = w' := by
  obtain ⟨A, c, rfl, _⟩ := owns_sl h.row
  have c0 := h.c0
  have c3 := h.c3
  clear h
  go_enter Try.func33, Try.ntmps33
  go_wp2_with (go_at_call 34; refine (valid_any _ _ c0).mono ?_; rintro e w' ⟨rfl, rfl⟩)
  go_ret
  exact ⟨rfl, rfl⟩
theorem durable_any (h : IOwn w B P sz d v l) : Calls Try.prog 26 #[.pointer (some ⟨P, 0, none⟩)] w fun e w' => e = .returned (.int .i64 (d : Nat)) ∧ w = w' := by
  have c0 := h.c0
  have c2 := h.c2
  clear h
  go_enter Try.func26, Try.ntmps26
  go_wp2_with (go_at_call 34; refine (valid_any _ _ c0).mono ?_; rintro e w' ⟨rfl, rfl⟩)
  go_ret
  exact ⟨rfl, rfl⟩
theorem size_any (h : IOwn w B P sz d v l) : Calls Try.prog 30 #[.pointer (some ⟨P, 0, none⟩)] w fun e w' => e = .returned (.int .i64 (sz : Nat)) ∧ w = w' := by
  have c0 := h.c0
  have c1 := h.c1
  clear h
  go_enter Try.func30, Try.ntmps30
  go_wp2_with (go_at_call 34; refine (valid_any _ _ c0).mono ?_; rintro e w' ⟨rfl, rfl⟩)
  go_ret
  exact ⟨rfl, rfl⟩
theorem sub_ok {a b : Nat} (h : b ≤ a) (ha : a ≤ 8192) : wrap64 ((a : Int) - (b : Int)) = ((a - b : Nat) : Int) := by
  unfold wrap64
  omega
theorem room_any (h : IOwn w B P sz d v l) : Calls Try.prog 29 #[.pointer (some ⟨P, 0, none⟩)] w fun e w' => e = .returned (.int .i64 ((sz - l.length : Nat) : Int)) ∧ w = w' := by
  have g := Lib.hid h
  have e1 := sub_ok h.le h.sz_le
  clear h
  obtain ⟨n, hn⟩ : ∃ n, n = l.length := ⟨_, rfl⟩
  have gn := Lib.hid hn
  rw [← hn] at e1 ⊢
  clear hn
  go_enter Try.func29, Try.ntmps29
  go_wp2_with first
    | (go_at_call 30; refine (size_any g.out).mono ?_; rintro e w' ⟨rfl, rfl⟩)
    | (go_at_call 33; refine (len_any g.out).mono ?_; rintro e w' ⟨rfl, rfl⟩; rw [← gn.out])
  go_ret
  exact ⟨congrArg (fun z => Ending.returned (.int .i64 z)) e1, rfl⟩
theorem sync_any (h : IOwn w B P sz d v l) : Calls Try.prog 15 #[.pointer (some ⟨P, 0, none⟩)] w fun e w' => e = .returned (.tuple #[]) ∧ Hid (IOwn w' B P sz l.length v l ∧ Turn (Foot P v) (Foot P v) w w') := by
  have g := Lib.hid h
  obtain ⟨A, c, rfl, _⟩ := owns_sl h.row
  have c0 := h.c0
  have c3 := h.c3
  have f2 := h.fz 2
  have c2 := h.c2
  clear h
  go_enter Try.func15, Try.ntmps15
  go_wp2_with (go_at_call 34; refine (valid_any _ _ c0).mono ?_; rintro e w' ⟨rfl, rfl⟩)
  go_end0
  exact ⟨rfl, g.out.remark _ (Nat.le_refl _)⟩
theorem erase_any (h : IOwn w B P sz d v l) : Calls Try.prog 19 #[.pointer (some ⟨P, 0, none⟩)] w fun e w' => e = .returned (.tuple #[]) ∧ Hid (IOwn w' B P sz 0 (.slice none 0 0) [] ∧ Turn (Foot P v) (Foot P (.slice none 0 0)) w w') := by
  have c0 := h.c0
  have c2 := h.c2
  have c3 := h.c3
  have f2 := h.fz 2
  have f3 := h.fz 3
  have hb1 : (w.setCell ⟨P, 2, none⟩ (.int .i64 ((0 : Nat) : Int))).heap[P]? = some (.cells (icells P sz 0 v) 58 (0, 0)) := (h.remark 0 (Nat.zero_le _)).1.blk
  have k3 := (cell_of_row _ P 3 _ _ (0, 0) hb1).trans (show _ = some v from rfl)
  have k4 := frozen_of_row _ P 3 _ _ hb1
  have gE := Lib.hid (show IOwn ((w.setCell ⟨P, 2, none⟩ (.int .i64 ((0 : Nat) : Int))).setCell ⟨P, 3, none⟩ (.slice none 0 0)) B P sz 0 (.slice none 0 0) [] ∧ Turn (Foot P v) (Foot P (.slice none 0 0)) w ((w.setCell ⟨P, 2, none⟩ (.int .i64 ((0 : Nat) : Int))).setCell ⟨P, 3, none⟩ (.slice none 0 0)) from by
    refine ⟨(h.remark 0 (Nat.zero_le _)).1.store3 rfl (World.ownsRow_nil _ _ _ _) (Nat.le_refl _) (Nat.zero_le _) (by simp [Value.ownBlock]), ((But.refl _ w).setCell (.inl (.inl rfl)) _).setCell (.inl (.inl rfl)) _, fun b hb => ?_⟩
    rcases hb with rfl | hb
    · exact .inl (.inl rfl)
    · simp [Value.ownBlock] at hb)
  clear h hb1
  go_enter Try.func19, Try.ntmps19
  go_wp2_with (go_at_call 34; refine (valid_any _ _ c0).mono ?_; rintro e w' ⟨rfl, rfl⟩)
  go_end0
  exact ⟨rfl, gE.out⟩
end
end Go.Proofs.Ytaohlblhfmlpbaa
