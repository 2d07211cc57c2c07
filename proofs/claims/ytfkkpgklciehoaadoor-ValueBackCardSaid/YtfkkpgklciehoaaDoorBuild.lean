/- Contracts of strings.Builder's methods at a builder that a function has made itself: copyCheck, WriteString, WriteByte, Write, String. -/
import Derived.Test.YtfkkpgklciehoaaDoorShelf
import Derived.Test.YtfkkpgklciehoaaDoorBase
import Derived.Lib.Builder
import Derived.Lib.AppendStr
import Derived.BigCall
namespace Go.Proofs.YtfkkpgklciehoaaDoor
open Go.RowKit Go.PlainAid

/-- A builder of its own, in block b, that holds the bytes L. -/
def Bld (b : Nat) (L : List Int) (w : World) : Prop := Lib.IsBuilder 37 5 b b (L.map (Value.int .u8)) w
def BldAt (b : Nat) (L : List Int) (w : World) : Prop := Lib.BuilderAt 37 5 b b (.pointer (some ⟨b, 0, none⟩)) (L.map (Value.int .u8)) w

theorem bld_new (w : World) : Bld w.heap.size [] (w.alloc (.cells #[.pointer none, .slice none 0 0] 37)) := Lib.fresh_isBuilder 37 5 w
theorem Bld.lt {b : Nat} {L : List Int} {w : World} (h : Bld b L w) : b < w.heap.size := by
  rcases h with h | h
  · exact h.lt
  · exact h.lt

theorem ptr_size : (Tryd.prog.info? 37).map (·.size) = some 2 := by kernel_rfl
theorem ptr_lies : liesAt Tryd.prog Tryd.prog.depth 37 (2 / Tryd.prog.cellsOf 37) 0 37 1 = true := by kernel_rfl

set_option maxHeartbeats 1000000 in
set_option maxRecDepth 100000 in
theorem check_used (b : Nat) (w : World) (h0 : w.cell? ⟨b, 0, none⟩ = some (.pointer (some ⟨b, 0, none⟩))) :
    Calls Tryd.prog 34 #[.pointer (some ⟨b, 0, none⟩)] w fun e w' => e = .returned (.tuple #[]) ∧ w' = w := by
  obtain ⟨j, hj, _⟩ := Option.map_eq_some_iff.1 ptr_size
  have hne := fun w => Lib.run_neq_ptr_same (P := Tryd.prog) w (⟨b, 0, none⟩ : Addr) Tryd.underlying34 hj
  go_enter Tryd.func34, Tryd.ntmps34
  go_wp2
  try rw [hne]
  try go_wp2
  go_end0
  exact ⟨rfl, rfl⟩

set_option maxHeartbeats 1000000 in
set_option maxRecDepth 100000 in
theorem check_fresh (b : Nat) (w : World) (h0 : w.cell? ⟨b, 0, none⟩ = some (.pointer none)) (hsh : w.shape? b = some (37, 2)) (hfz : w.frozen? ⟨b, 0, none⟩ = false) :
    Calls Tryd.prog 34 #[.pointer (some ⟨b, 0, none⟩)] w fun e w' => e = .returned (.tuple #[]) ∧ w' = w.setCell ⟨b, 0, none⟩ (.pointer (some ⟨b, 0, none⟩)) := by
  obtain ⟨j, hj, hjs⟩ := Option.map_eq_some_iff.1 ptr_size
  have hto := Lib.run_to_unsafe (P := Tryd.prog) (dst := 57) w ⟨b, 0, none⟩ Tryd.underlying34 Tryd.underlying57 hj (by rw [hjs]; decide) hsh (Nat.zero_lt_succ 1)
  have hfr := Lib.run_from_unsafe (P := Tryd.prog) (src := 57) w ⟨b, 0, none⟩ Tryd.underlying57 Tryd.underlying34 hj hsh ptr_lies
  go_enter Tryd.func34, Tryd.ntmps34
  go_wp2
  rw [run_callFunc_extern Tryd.func37 (by kernel_rfl) (by kernel_rfl) (by kernel_rfl) (e := Extern.AbiNoEscape.same) (by kernel_rfl), Lib.run_noEscape]
  simp only [Result.andThen]
  rw [Oper.upon_value]
  go_wp2
  go_end0
  exact ⟨rfl, rfl⟩

theorem check_any (b : Nat) (L : List Int) (w : World) (h : Bld b L w) :
    Calls Tryd.prog 34 #[.pointer (some ⟨b, 0, none⟩)] w fun e w' => e = .returned (.tuple #[]) ∧ BldAt b L w' ∧ Below b w w' := by
  rcases h with h | h
  · refine (check_fresh b w h.cell0 h.shape h.frozen0).mono ?_
    rintro e w' ⟨rfl, rfl⟩
    exact ⟨rfl, h.used _, (Below.refl b w).setCell (p := ⟨b, 0, none⟩) h.1 _⟩
  · refine (check_used b w h.cell0).mono ?_
    rintro e w' ⟨rfl, rfl⟩
    exact ⟨rfl, h, Below.refl b _⟩

/-- What stands behind an append onto the builder's row, before it is stored: the builder's own block is as it was. -/
theorem kept_block {b : Nat} {v : Value} {w1 w2 : World} (hbk : w1.heap[b]? = some (.cells #[.pointer (some ⟨b, 0, none⟩), v] 37 (0, 0))) (hne : v.ownBlock ≠ some b) (hg : w1.grownBy w2 v.ownBlock) :
    w2.heap[b]? = some (.cells #[.pointer (some ⟨b, 0, none⟩), v] 37 (0, 0)) := by
  have hlt : b < w1.heap.size := by
    rcases Nat.lt_or_ge b w1.heap.size with h' | h'
    · exact h'
    · simp [Array.getElem?_eq_none h'] at hbk
  rw [hg.block b hlt (fun e => hne e.symm)]
  exact hbk
theorem slice_of_row {w : World} {B n : Nat} {v : Value} {xs : List Value} (h : w.ownsRow B 5 1 v n xs) : ∃ a m c, v = .slice a m c := by
  rcases h.2 with ⟨hv, _⟩ | ⟨g, cap, cur, hv, _⟩
  · exact ⟨_, _, _, hv⟩
  · exact ⟨_, _, _, hv⟩
theorem str_cells (s : ByteArray) : Lib.strCells s = (bts s).map (Value.int .u8) := by
  unfold Lib.strCells bts
  rw [List.map_map]
  rfl
theorem byte_cells (L : List Int) (h : ∀ z ∈ L, 0 ≤ z ∧ z ≤ 255) : L.map (Value.int .u8) = Lib.byteCells (L.map fun z => UInt8.ofNat z.toNat) := by
  unfold Lib.byteCells
  rw [List.map_map]
  apply List.map_congr_left
  intro z hz
  have := h z hz
  simp
  omega

set_option maxHeartbeats 2000000 in
set_option maxRecDepth 100000 in
theorem writeString_any (b : Nat) (L : List Int) (s : ByteArray) (w : World) (h : Bld b L w) (hn : L.length + s.size ≤ 140737488355328) :
    Calls Tryd.prog 24 #[.pointer (some ⟨b, 0, none⟩), .string s] w fun e w' => e = .returned (.tuple #[.int .i64 s.size, .nilIface]) ∧ Bld b (L ++ bts s) w' ∧ Below b w w' := by
  obtain ⟨i0, hi, hz0, hz1, hz2⟩ := info_parts info5
  have hbw := h.lt
  have gs := Lib.hid hbw
  go_enter Tryd.func24, Tryd.ntmps24
  go_wp2_with fail
  go_at_call 34
  refine (check_any b L _ h).mono ?_
  rintro e w1 ⟨rfl, h1, hb1⟩
  obtain ⟨hB, v, hbk, hown, hne⟩ := h1
  rw [List.length_map] at hown
  have hs1 := hb1.size
  have c1 : w1.cell? ⟨b, 1, none⟩ = some v := by rw [Lib.cell_of_heap hbk]; rfl
  have gR := Lib.hid hown
  have gb := Lib.hid hb1
  have gk := Lib.hid hbk
  have gn := Lib.hid hne
  clear hown hb1 hbk hne
  go_wp2_with (at_builtin; refine Lib.wpList_append_own_string _ rfl _ _ 35 9 rfl b 5 i0 Tryd.underlying35 Tryd.underlying9 hi hz0 hz1 hz2 _ _ _ rfl gR.out s rfl ?c3 ?c4 ?c5 ?_)
  case c3 => unfold maxLen; omega
  case c4 => omega
  case c5 => omega
  intro v' w2 hown' hgrow _
  have hb2 := kept_block gk.out gn.out hgrow
  have d1 : w2.cell? ⟨b, 1, none⟩ = some v := by rw [Lib.cell_of_heap hb2]; rfl
  have f1 : w2.frozen? ⟨b, 1, none⟩ = false := Lib.frozen_of_heap hb2 1
  obtain ⟨ao, n', cap, rfl⟩ := slice_of_row hown'
  have gO := Lib.hid hown'
  have gg := Lib.hid hgrow
  have g2 := Lib.hid hb2
  clear hown' hgrow hb2
  go_wp2
  go_ret2
  refine ⟨rfl, .inr ?_, ?_⟩
  · exact Lib.BuilderAt.put hB g2.out (bs' := (L ++ bts s).map (Value.int .u8)) (by have := gO.out; rw [str_cells] at this; simpa [bts_length] using this) (by decide)
  · exact (gb.out.grown gg.out (by omega) (fun k hk => (gR.out.lt k hk).1)).setCell (p := ⟨b, 1, none⟩) hB _

set_option maxHeartbeats 2000000 in
set_option maxRecDepth 100000 in
theorem writeByte_any (b : Nat) (L : List Int) (c : Int) (w : World) (h : Bld b L w) (hn : L.length + 1 ≤ 140737488355328) :
    Calls Tryd.prog 31 #[.pointer (some ⟨b, 0, none⟩), .int .u8 c] w fun e w' => e = .returned .nilIface ∧ Bld b (L ++ [c]) w' ∧ Below b w w' := by
  obtain ⟨i0, hi, hz0, hz1, hz2⟩ := info_parts info5
  have hbw := h.lt
  go_enter Tryd.func31, Tryd.ntmps31
  go_wp2_with fail
  go_at_call 34
  refine (check_any b L _ h).mono ?_
  rintro e w1 ⟨rfl, h1, hb1⟩
  obtain ⟨hB, v, hbk, hown, hne⟩ := h1
  rw [List.length_map] at hown
  have hs1 := hb1.size
  have c1 : w1.cell? ⟨b, 1, none⟩ = some v := by rw [Lib.cell_of_heap hbk]; rfl
  have gR := Lib.hid (hown.alloc (.cells #[.int .u8 c] 5))
  have gb := Lib.hid (hb1.alloc (by omega) (.cells #[.int .u8 c] 5))
  have gk := Lib.hid ((Lib.alloc_old w1 (.cells #[.int .u8 c] 5) b (by omega)).trans hbk)
  have gn := Lib.hid hne
  clear hown hb1 hbk hne
  go_wp2_with (at_builtin; refine wpList_append_own _ rfl _ _ 35 rfl b 5 i0 (.int .u8 0) 1 1 Tryd.underlying35 hi hz0 hz1 hz2 rfl (by decide) _ _ _ rfl gR.out ⟨w1.heap.size, 0, none⟩ 1 1 [.int .u8 c] rfl rfl ?c1 ?c2 ?c3 ?c4 ?c5 ?_)
  case c1 => exact World.news_of_block (heap_alloc_new _ _)
  case c2 => simp [Value.oneCell']
  case c3 => unfold maxLen; omega
  case c4 => omega
  case c5 => simp; omega
  intro v' w2 hown' hgrow _
  have hb2 := kept_block gk.out gn.out hgrow
  have d1 : w2.cell? ⟨b, 1, none⟩ = some v := by rw [Lib.cell_of_heap hb2]; rfl
  have f1 : w2.frozen? ⟨b, 1, none⟩ = false := Lib.frozen_of_heap hb2 1
  obtain ⟨ao, n', cap, rfl⟩ := slice_of_row hown'
  have gO := Lib.hid hown'
  have gg := Lib.hid hgrow
  have g2 := Lib.hid hb2
  clear hown' hgrow hb2
  go_wp2
  go_ret
  refine ⟨rfl, .inr ?_, ?_⟩
  · exact Lib.BuilderAt.put hB g2.out (bs' := (L ++ [c]).map (Value.int .u8)) (by have := gO.out; simpa using this) (by decide)
  · exact (gb.out.grown gg.out (by simp; omega) (fun k hk => (gR.out.lt k hk).1)).setCell (p := ⟨b, 1, none⟩) hB _

set_option maxHeartbeats 2000000 in
set_option maxRecDepth 100000 in
theorem write_any (b : Nat) (L : List Int) (A : Option Addr) (n c : Nat) (zs : List Int) (w : World) (h : Bld b L w) (hb : ∀ W, Below b w W → BI W A n zs) (h0 : 0 < n) (hn : L.length + n ≤ 140737488355328) :
    Calls Tryd.prog 29 #[.pointer (some ⟨b, 0, none⟩), .slice A n c] w fun e w' => e = .returned (.tuple #[.int .i64 n, .nilIface]) ∧ Bld b (L ++ zs) w' ∧ Below b w w' := by
  obtain ⟨i0, hi, hz0, hz1, hz2⟩ := info_parts info5
  have hbw := h.lt
  go_enter Tryd.func29, Tryd.ntmps29
  go_wp2_with fail
  go_at_call 34
  refine (check_any b L _ h).mono ?_
  rintro e w1 ⟨rfl, h1, hb1⟩
  obtain ⟨hB, v, hbk, hown, hne⟩ := h1
  rw [List.length_map] at hown
  have hs1 := hb1.size
  have c1 : w1.cell? ⟨b, 1, none⟩ = some v := by rw [Lib.cell_of_heap hbk]; rfl
  obtain ⟨ad, rfl, hnews⟩ := (hb w1 hb1).news h0
  have hl := (hb w1 hb1).1
  have gR := Lib.hid hown
  have gb := Lib.hid hb1
  have gk := Lib.hid hbk
  have gn := Lib.hid hne
  have gN := Lib.hid hnews
  have gl := Lib.hid hl
  clear hown hb1 hbk hne hb hnews hl
  go_wp2_with (at_builtin; refine wpList_append_own _ rfl _ _ 35 rfl b 5 i0 (.int .u8 0) 1 1 Tryd.underlying35 hi hz0 hz1 hz2 rfl (by decide) _ _ _ rfl gR.out ad n c (zs.map (Value.int .u8)) rfl (by rw [List.length_map, gl.out]; omega) gN.out ?c2 ?c3 ?c4 ?c5 ?_)
  case c2 => exact ints_oneCell .u8 zs
  case c3 => unfold maxLen; omega
  case c4 => omega
  case c5 => omega
  intro v' w2 hown' hgrow _
  have hb2 := kept_block gk.out gn.out hgrow
  have d1 : w2.cell? ⟨b, 1, none⟩ = some v := by rw [Lib.cell_of_heap hb2]; rfl
  have f1 : w2.frozen? ⟨b, 1, none⟩ = false := Lib.frozen_of_heap hb2 1
  obtain ⟨ao, n', cap, rfl⟩ := slice_of_row hown'
  have gO := Lib.hid hown'
  have gg := Lib.hid hgrow
  have g2 := Lib.hid hb2
  clear hown' hgrow hb2
  go_wp2
  go_ret2
  refine ⟨rfl, .inr ?_, ?_⟩
  · exact Lib.BuilderAt.put hB g2.out (bs' := (L ++ zs).map (Value.int .u8)) (by have := gO.out; simpa [gl.out] using this) (by decide)
  · exact (gb.out.grown gg.out (by omega) (fun k hk => (gR.out.lt k hk).1)).setCell (p := ⟨b, 1, none⟩) hB _

theorem string_any (b : Nat) (L : List Int) (w : World) (h : Bld b L w) (hb : ∀ z ∈ L, 0 ≤ z ∧ z ≤ 255) :
    Calls Tryd.prog 26 #[.pointer (some ⟨b, 0, none⟩)] w fun e w' => e = .returned (.string (strOfNums L)) ∧ Below b w w' := by
  have hlt := h.lt
  have h' : Lib.IsBuilder 37 5 b b (Lib.byteCells (L.map fun z => UInt8.ofNat z.toNat)) w := by rw [← byte_cells L hb]; exact h
  refine (Tryd.Builder_String_any b b _ w h' (by omega)).mono ?_
  rintro e w' ⟨rfl, hB⟩
  refine ⟨ret_str ?_, hB⟩
  unfold strOfNums
  simp
end Go.Proofs.YtfkkpgklciehoaaDoor
