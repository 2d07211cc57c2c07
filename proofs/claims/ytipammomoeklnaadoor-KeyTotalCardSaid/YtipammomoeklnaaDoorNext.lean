/- Contracts of Next, the program's and the specification's. -/
import Derived.Test.YtipammomoeklnaaDoorFit
import Derived.Lib.BufferWrite
import Derived.Laws.BytesArg
namespace Go.Proofs.YtipammomoeklnaaDoor
open Go.RowKit Go.PlainAid

/-- What Next returns. -/
def nxs (L : List Int) : ByteArray := match nxt L with | some n => strOfNums n | none => ⟨#[]⟩
def nxb (L : List Int) : Bool := (nxt L).isSome
theorem nxs_some {L n : List Int} (h : nxt L = some n) : nxs L = strOfNums n ∧ nxb L = true := by unfold nxs nxb; rw [h]; exact ⟨rfl, rfl⟩
theorem nxs_none {L : List Int} (h : nxt L = none) : nxs L = ⟨#[]⟩ ∧ nxb L = false := by unfold nxs nxb; rw [h]; exact ⟨rfl, rfl⟩
theorem ret_sb {a b : ByteArray} {p q : Bool} (h : a = b) (k : p = q) : Ending.returned (.tuple #[.string a, .bool p]) = .returned (.tuple #[.string b, .bool q]) := by rw [h, k]

theorem greater_some (c : Int) (hk : kch c = true) (hz : c ≠ 122) (w : World) : Calls Tryd.prog 31 #[.int .u8 c] w fun e w' => e = .returned (.tuple #[.int .u8 (suc c), .bool true]) ∧ w = w' := by
  have hb := kch_bd hk
  have hp := plc_bd c
  have hl := plc_last c hk
  have h0 : 0 ≤ plc c := by have := plc_kch c; rw [hk] at this; simpa using this
  obtain ⟨j, hj⟩ : ∃ j : Nat, plc c = j := ⟨(plc c).toNat, by omega⟩
  have hi := index_any c (by omega) (by omega)
  have gs := Lib.hid (show suc c = chr ((j + 1 : Nat) : Int) by unfold suc; rw [hj]; rfl)
  have b1 := bt_lets (j + 1) (by omega)
  have hls := get_bt lets
  have hz := lets_size
  have hj2 : j < 38 := by omega
  have hne : ((j : Int) + 1 == 39) = false := beq_eq_false_iff_ne.2 (by omega)
  rw [hj] at hi
  clear hl h0 hp hj
  go_enter Tryd.func31, Tryd.ntmps31
  go_wp2_with (go_at_call 26; refine (hi _).mono ?_; rintro e w' ⟨rfl, rfl⟩)
  go_ret2
  exact ⟨by rw [gs.out]; rfl, rfl⟩
theorem greater_none (w : World) : Calls Tryd.prog 31 #[.int .u8 122] w fun e w' => e = .returned (.tuple #[.int .u8 0, .bool false]) ∧ w = w' := by
  have hi := index_any 122 (by omega) (by omega)
  rw [show plc 122 = 38 from rfl] at hi
  go_enter Tryd.func31, Tryd.ntmps31
  go_wp2_with (go_at_call 26; refine (hi _).mono ?_; rintro e w' ⟨rfl, rfl⟩)
  go_ret2
  exact ⟨rfl, rfl⟩

/-- Block g is the array of bytes, zs. -/
def Row (w : World) (g : Nat) (zs : List Int) : Prop := w.heap[g]? = some (.cells (zs.map (Value.int .u8)).toArray 48 (0, 0))
theorem Row.heap {w : World} {g : Nat} {zs : List Int} (h : Row w g zs) : w.heap[g]? = some (.cells (zs.map (Value.int .u8)).toArray 48 (0, 0)) := h
theorem Row.cell {w : World} {g : Nat} {zs : List Int} (h : Row w g zs) {i : Nat} (hi : i < zs.length) : w.cell? ⟨g, i, none⟩ = some (.int .u8 (zs.getD i 0)) := by
  rw [cell_of_row w g i _ 48 (0, 0) h]
  simp [List.getElem?_eq_getElem hi]
theorem Row.frozen {w : World} {g : Nat} {zs : List Int} (h : Row w g zs) (i : Nat) : w.frozen? ⟨g, i, none⟩ = false := frozen_of_row w g i _ 48 h
theorem Row.store {w : World} {g : Nat} {zs : List Int} (h : Row w g zs) (i : Nat) (z : Int) : Row (w.setCell ⟨g, i, none⟩ (.int .u8 z)) g (zs.set i z) := by
  have := heap_setCell_same w g i _ 48 (.int .u8 z) h
  unfold Row
  rw [this]
  simp [List.map_set]
theorem info48 : (Tryd.prog.info? 48).map (fun i => (i.zero, i.size)) = some (some (.agg (((List.replicate 32 (0 : Int)).map (Value.int .u8)).toArray)), 32) := by kernel_rfl
theorem size5 : (Tryd.prog.info? 5).map (·.size) = some 1 := by kernel_rfl
theorem Row.str {w : World} {g : Nat} {zs : List Int} (h : Row w g zs) (m c : Nat) (hm : m ≤ zs.length) : (convert 33 9 (.slice (some ⟨g, 0, none⟩) m c)).run Tryd.prog w = .ok (.string (strOfNums (zs.take m))) w :=
  run_convert_bytes_arg (P := Tryd.prog) w 33 5 Tryd.underlying33 Tryd.underlying5 g 0 m c (zs.take m) (by rw [List.length_take]; omega) (fun i hi => by
    rw [Nat.zero_add, h.cell (show i < zs.length by omega), List.getD, List.getD, List.getElem?_take, if_pos hi]) 9 Tryd.underlying9
theorem byteCells_bts (s : ByteArray) : Lib.byteCells s.data.toList = (bts s).map (Value.int .u8) := by
  unfold Lib.byteCells bts
  rw [List.map_map]; rfl
theorem sliced48 (w : World) (g m : Nat) (hm : m ≤ 32) : (Instr.sliceAt 48 (.pointer (some ⟨g, 0, none⟩)) none (some (.int .i64 (m : Int))) none).run Tryd.prog w = .ok (.slice (some ⟨g, 0, none⟩) m 32) w := by
  have hal : Tryd.prog.arrayLen 48 = 32 := by simp [Program.arrayLen, Tryd.underlying48]
  rw [run_sliceAt_array_h w 48 ⟨g, 0, none⟩ (by simp [Program.arrayLen, Program.elem, Tryd.underlying48]) .i64 (m : Int) (by omega) (by rw [hal]; omega)]
  go_simp
  all_goals omega
theorem kch_nth {s : ByteArray} (h : chkE (bts s) = 0) {i : Nat} (hi : i < s.size) : kch (bt s i) = true := by
  have := (chkE_ok h).2.2 ((bts s).getD i 0) (by
    rw [List.getD, List.getElem?_eq_getElem (by rw [bts_length]; exact hi)]
    exact List.getElem_mem _)
  rwa [bts_getD] at this

/-- A copied string in the array. -/
theorem row_copied {w : World} {g : Nat} {s : ByteArray} (h : Row w g (List.replicate 32 0)) (hs : s.size ≤ 32) :
    (Builtin.copy_ #[33, 9] 3 #[.slice (some ⟨g, 0, none⟩) 32 32, .string s]).run Tryd.prog w = .ok (goInt s.size) (w.setRow g (((bts s) ++ List.replicate (32 - s.size) 0).map (Value.int .u8)).toArray) := by
  rw [Lib.run_copy_row_string (P := Tryd.prog) w 33 9 3 5 g 0 32 32 s _ 48 Tryd.underlying33 size5 h.heap hs (by simp; omega), byteCells_bts]
  simp only [List.take_zero, List.nil_append, Nat.zero_add]
  rw [← List.map_drop, List.drop_replicate, List.map_append]
theorem Row.copied {w : World} {g : Nat} {zs : List Int} (h : Row w g zs) (ys : List Int) : Row (w.setRow g (ys.map (Value.int .u8)).toArray) g ys := setRow_heap w g _ _ 48 _ h
theorem below_row {B : Nat} {a w : World} (h : Below B a w) {g : Nat} (hg : B ≤ g) (cs : Array Value) : Below B a (w.setRow g cs) :=
  h.trans ⟨rfl, rfl, rfl, by simp, fun k hk => setRow_other w g k cs (by omega)⟩
set_option maxRecDepth 100000 in
set_option maxHeartbeats 4000000 in
theorem next_any (s : ByteArray) (w : World) (hs : s.size ≤ 140737488355328) : Calls Tryd.prog 20 #[.string s] w fun e w' => e = .returned (.tuple #[.string (nxs (bts s)), .bool (nxb (bts s))]) ∧ Below w.heap.size w w' := by
  have hck := check_any s w hs
  by_cases hv : chkE (bts s) = 0
  · rw [hv] at hck
    have gv := Lib.hid hv
    have hsz : s.size ≤ 32 := by have := (chkE_ok hv).2.1; rwa [bts_length] at this
    clear hv
    go_enter Tryd.func20, Tryd.ntmps20
    go_wp2_with (go_at_call 12; refine hck.mono ?_; rintro e w1 ⟨rfl, hB⟩)
    generalize hW : w1.alloc _ = W
    have hrow : Row W w1.heap.size (List.replicate 32 0) := by rw [← hW]; exact heap_alloc_new _ _
    have hBW : Below w.heap.size w W := by rw [← hW]; exact hB.alloc hB.size _
    rw [row_copied hrow hsz]
    generalize hW2 : W.setRow _ _ = W2
    have gR := Lib.hid (show Row W2 w1.heap.size (bts s ++ List.replicate (32 - s.size) 0) by rw [← hW2]; exact hrow.copied _)
    have gB := Lib.hid (show Below w.heap.size w W2 by rw [← hW2]; exact below_row hBW hB.size _)
    have hP := hB.size
    obtain ⟨P, hPe⟩ : ∃ P, P = w1.heap.size := ⟨_, rfl⟩
    rw [← hPe] at gR hP ⊢
    clear hrow hBW hB hW hW2 hPe
    by_cases h32 : s.size < 32
    · have gn := Lib.hid (nxs_some (L := bts s) (n := bts s ++ [45]) (by unfold nxt; rw [if_pos gv.out, if_pos (by rw [bts_length]; exact h32)]))
      have hlen : (bts s ++ List.replicate (32 - s.size) (0 : Int)).length = 32 := by rw [List.length_append, bts_length, List.length_replicate]; omega
      have gl := Lib.hid hlen
      have c0 := gR.out.cell (i := s.size) (by rw [hlen]; exact h32)
      have f0 := gR.out.frozen s.size
      have gS := Lib.hid (gR.out.store s.size 45)
      have hsl : ∀ W : World, (Instr.sliceAt 48 (.pointer (some ⟨P, 0, none⟩)) none (some (.int .i64 ((s.size : Int) + 1))) none).run Tryd.prog W = .ok (.slice (some ⟨P, 0, none⟩) (s.size + 1) 32) W := fun W => sliced48 W P (s.size + 1) (by omega)
      have hl0 : (((lets[0]'(by decide)).toNat : Nat) : Int) = 45 := rfl
      have hcv := gS.out.str (s.size + 1) 32 (by rw [List.length_set, gl.out]; omega)
      have e : ((bts s ++ List.replicate (32 - s.size) 0).set s.size 45).take (s.size + 1) = bts s ++ [45] := by
        obtain ⟨d, hd⟩ : ∃ d, 32 - s.size = d + 1 := ⟨31 - s.size, by omega⟩
        have hb := bts_length s
        rw [hd, List.replicate_succ, List.set_append_right _ _ (by omega), hb, Nat.sub_self, List.set_cons_zero, List.take_append, hb, List.take_of_length_le (by omega)]
        simp
      rw [e] at hcv
      clear hlen e
      go_wp2_with fail
      go_ret2
      exact ⟨ret_sb gn.out.1.symm gn.out.2.symm, gB.out.setCell hP _⟩
    · have h33 : s.size = 32 := by omega
      have gn : Hid (nxt (bts s) = nx (bts s) 32) := by
        show nxt (bts s) = nx (bts s) 32
        have h := nx_is (bts s)
        rw [bts_length, h33] at h
        unfold nxt
        rw [if_pos gv.out, bts_length, if_neg h32, h]
      have gr : Hid (Row W2 P (bts s)) := by
        show Row W2 P (bts s)
        have h := gR.out
        rw [h33] at h
        simpa using h
      have gk := Lib.hid (show ∀ i, i < 32 → kch (bt s i) = true from fun i hi => kch_nth gv.out (by omega))
      have gz := Lib.hid h33
      clear gR gv hsz h32
      go_wp2_with fail
      clear h33
      go_loop [5] (fun n => ∃ m : Nat, m ≤ 32 ∧ n = .int .i64 m ∧ Hid (nxt (bts s) = nx (bts s) m)) (fun n => (intOf n).toNat)
      case atStart => exact ⟨32, Nat.le_refl _, rfl, gn.out⟩
      case round =>
        obtain ⟨m, hm, rfl, gI⟩ := hrel
        cases m with
        | zero =>
          have g0 := Lib.hid (nxs_none (L := bts s) gI.out)
          go_wp2_with fail
          go_ret2
          exact ⟨ret_sb g0.out.1.symm g0.out.2.symm, gB.out⟩
        | succ k =>
          have hk := gk.out k (by omega)
          have hcell := gr.out.cell (i := k) (by rw [bts_length, gz.out]; omega)
          rw [bts_getD] at hcell
          have hp : (0 : Int) < (k : Int) + 1 := by omega
          by_cases h122 : bt s k = 122
          · have gJ := Lib.hid (show nxt (bts s) = nx (bts s) k by rw [gI.out, nx, bts_getD, if_pos h122])
            rw [h122] at hcell
            clear h122
            go_wp2_with (go_at_call 31; refine (greater_none _).mono ?_; rintro e w' ⟨rfl, rfl⟩)
            go_round
            case rel => exact ⟨k, by omega, by go_num, gJ.out⟩
            case measure => simp [intOf]
          · have g0 := Lib.hid (nxs_some (L := bts s) (by rw [gI.out, nx, bts_getD, if_neg h122]))
            have f0 := gr.out.frozen k
            have gS := Lib.hid (gr.out.store k (suc (bt s k)))
            have hsl : ∀ W : World, (Instr.sliceAt 48 (.pointer (some ⟨P, 0, none⟩)) none (some (.int .i64 ((k : Int) + 1))) none).run Tryd.prog W = .ok (.slice (some ⟨P, 0, none⟩) (k + 1) 32) W := fun W => sliced48 W P (k + 1) (by omega)
            have hcv := gS.out.str (k + 1) 32 (by rw [List.length_set, bts_length, gz.out]; omega)
            have e : ((bts s).set k (suc (bt s k))).take (k + 1) = (bts s).take k ++ [suc (bt s k)] := by
              have hl : k < ((bts s).set k (suc (bt s k))).length := by rw [List.length_set, bts_length, gz.out]; omega
              rw [List.take_succ_eq_append_getElem hl, List.getElem_set_self, List.take_set_of_le (Nat.le_refl _)]
            rw [e] at hcv
            have gh := Lib.hid h122
            clear e h122
            go_wp2_with (go_at_call 31; refine (greater_some _ hk gh.out _).mono ?_; rintro e w' ⟨rfl, rfl⟩)
            go_ret2
            exact ⟨ret_sb g0.out.1.symm g0.out.2.symm, gB.out.setCell hP _⟩
  · have h1 : (chkE (bts s) != 0) = true := by simpa using hv
    have h2 := Lib.hid (nxs_none (L := bts s) (by unfold nxt; rw [if_neg hv]))
    clear hv
    go_enter Tryd.func20, Tryd.ntmps20
    go_wp2_with (go_at_call 12; refine hck.mono ?_; rintro e w' ⟨rfl, hB⟩)
    go_ret2
    exact ⟨ret_sb h2.out.1.symm h2.out.2.symm, hB⟩
end Go.Proofs.YtipammomoeklnaaDoor
