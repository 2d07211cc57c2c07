/- set, filled, slots: sets by their slots. -/
import Derived.Test.YtpdipcgchhibeaaSame
import Derived.Test.YtpdipcgchhibeaaFrame
import Derived.Laws.MakeOwn
import Derived.Deep.DeepCutAuto
namespace Go.Proofs.Ytpdipcgchhibeaa
open Go.RowKit
/-- The slots of a list are added. -/
def addAll (m : Nat) (l : List Nat) : Nat := l.foldl (fun m i => m ||| 2 ^ i) m
theorem addAll_snoc (m : Nat) (l : List Nat) (x : Nat) : addAll m (l ++ [x]) = addAll m l ||| 2 ^ x := by
  unfold addAll
  rw [List.foldl_append]
  rfl
theorem take_snoc {α : Type} {l : List α} {k : Nat} {x : α} (h : l[k]? = some x) : l.take (k + 1) = l.take k ++ [x] := by
  rw [List.take_add_one, h]
  rfl
set_option maxHeartbeats 1000000 in
theorem set_any (n : Nat) (w : World) (h1 : 1 ≤ n) (h34 : n ≤ 34) (A : Option Addr) (c : Nat) (l : List Nat) (hl : SL w A l) (hlt : ∀ i ∈ l, i < n) (hlen : l.length ≤ 100) :
    Calls Try.prog 35 #[.int .i64 (n : Nat), .slice A l.length c] w fun e w' => e = .returned (.pointer (some ⟨w.heap.size, 0, none⟩)) ∧ Hid (SOwn w' w.heap.size n (addAll 0 l) ∧ Below w.heap.size w w') := by
  have gl := Lib.hid hl
  have glt := Lib.hid hlt
  obtain ⟨N, hN⟩ : ∃ N, N = l.length := ⟨_, rfl⟩
  have gN := Lib.hid hN
  rw [← hN] at hlen ⊢
  have gn := Lib.hid (And.intro h1 h34)
  obtain ⟨P, hP⟩ : ∃ P, P = w.heap.size := ⟨_, rfl⟩
  have gP := Lib.hid hP
  clear hl hlt hN h1 h34
  go_enter Try.func35, Try.ntmps35
  go_wp2_with fail
  refine (new_any n _ gn.out.1 gn.out.2).mono ?_
  rintro e w1 ⟨rfl, g1⟩
  rw [← hP] at g1 ⊢
  clear hP
  go_wp2_with fail
  go_loopw [7] (fun i wr => ∃ k : Nat, k ≤ N ∧ i = .int .i64 (k : Nat) ∧ Hid (SOwn wr P n (addAll 0 (l.take k)) ∧ Below P w wr)) (fun i _ => N - (intOf i).toNat)
  case atStart => exact ⟨0, Nat.zero_le _, rfl, g1.out⟩
  case round =>
    obtain ⟨k, hk, rfl, gI⟩ := hrel
    by_cases hlt : k < N
    · obtain ⟨x, hx⟩ : ∃ x, l[k]? = some x := ⟨_, List.getElem?_eq_getElem (by rw [← gN.out]; exact hlt)⟩
      obtain ⟨b, rfl, hc⟩ := (gl.out.below (gP.out ▸ gI.out.2)).at hx
      have gx := Lib.hid (glt.out x (List.mem_of_getElem? hx))
      have gS := Lib.hid (take_snoc hx)
      clear hx g1
      go_wp2_with fail
      refine (add_in gI.out.1 x gx.out).mono ?_
      rintro e w2 ⟨rfl, hL⟩
      have gN2 := Lib.hid (show SOwn w2 P n (addAll 0 (l.take (k + 1))) ∧ Below P w w2 from by
        rw [gS.out, addAll_snoc]
        have e := gP.out
        exact ⟨hL.1, gI.out.2.trans (hL.2.below (by have := gI.out.1.blt; omega) (fun b hb => by omega))⟩)
      clear hL
      go_wp2_with fail
      go_roundw
      case rel => exact ⟨k + 1, by omega, by simp, gN2.out⟩
      case measure => simp [intOf]; omega
    · obtain rfl : k = N := by omega
      have gE := Lib.hid (show SOwn wr P n (addAll 0 l) ∧ Below P w wr from by
        have h := gI.out
        rwa [gN.out, List.take_length] at h)
      go_wp2_with fail
      go_ret
      have e := gP.out
      subst e
      exact ⟨rfl, gE.out⟩
theorem infoB : (Try.prog.info? 4).map (fun i => (i.zero, i.size, i.bytes)) = some (some (.bool false), 1, 1) := by kernel_rfl
theorem made_cells (v : Value) (n : Nat) (h : v.cells = #[v]) : madeCells v.cells ((n : Int).toNat * 1) = Array.replicate n v := by
  apply Array.toList_inj.1
  have : madeCells v.cells ((n : Int).toNat * 1) = madeCells #[v] n := by rw [h]; simp
  rw [this, toList_madeCells_one]
  simp
theorem make_bools (n : Nat) (h : n ≤ 1024) (w : World) : (Instr.makeSlice 53 (.int .i64 (n : Int)) (.int .i64 (n : Int))).run Try.prog w = .ok (.slice (some ⟨w.heap.size, 0, none⟩) n n) (w.alloc (.cells (Array.replicate n (.bool false)) 4)) := by
  obtain ⟨i, hi, h1, h2, h3⟩ := info_parts infoB
  have := run_make (P := Try.prog) w 53 4 i _ Try.underlying53 hi h1 .i64 .i64 n n (by omega) (by omega) (by rw [h3]; omega) (by omega)
  rw [this, h2, made_cells _ _ (by simp [Value.cells])]
  rfl
/-- Whether each slot below n is there. -/
def bools (n m : Nat) : Array Value := ((List.range n).map fun i => Value.bool (m.testBit i)).toArray
theorem bools_zero (n : Nat) : Array.replicate n (Value.bool false) = bools n 0 := by
  unfold bools
  apply Array.ext
  · simp
  · intro i h1 h2
    simp
theorem bools_get {n m i : Nat} (h : i < n) : (bools n m)[i]? = some (.bool (m.testBit i)) := by
  unfold bools
  simp [h]
theorem bools_set {n m k : Nat} {b : Bool} {m' : Nat} (hm : ∀ j, j < n → m'.testBit j = if j = k then b else m.testBit j) : (bools n m).setIfInBounds k (.bool b) = bools n m' := by
  unfold bools
  apply Array.ext
  · simp
  · intro i h1 h2
    have hi : i < n := by simpa using h2
    simp only [List.setIfInBounds_toArray, List.getElem_toArray, List.getElem_set, List.getElem_map, List.getElem_range]
    rw [hm i hi]
    by_cases e : k = i
    · subst e; simp
    · simp [e, Ne.symm e]
/-- A set at block P, and a row at block R that says which slots it has. -/
structure Fil (w W : World) (P R n m : Nat) : Prop where
  set : SOwn W P n m
  row : W.heap[R]? = some (.cells (bools n m) 4 (0, 0))
  ne : R ≠ P
  hP : w.heap.size ≤ P
  hR : w.heap.size ≤ R
  low : Below w.heap.size w W
theorem bit_or {m i j : Nat} : (m ||| 2 ^ i).testBit j = if j = i then true else m.testBit j := by
  rw [Nat.testBit_or, Nat.testBit_two_pow]
  by_cases e : i = j
  · subst e; simp
  · simp [e, Ne.symm e]
theorem bit_minus {m i j : Nat} (hi : i < 64) (hj : j < 64) : (minus m (2 ^ i)).testBit j = if j = i then false else m.testBit j := by
  rw [testBit_minus (Nat.lt_of_lt_of_le (pow_lt (n := 64) hi) (by decide)), Nat.testBit_two_pow]
  by_cases e : i = j
  · subst e; simp
  · simp [e, Ne.symm e, hj]
section
variable {w W : World} {P R n m : Nat}
theorem Fil.turn (h : Fil w W P R n m) {k : Nat} {w' : World} (hL : Left W P n k w') : SOwn w' P n k ∧ w'.heap[R]? = some (.cells (bools n m) 4 (0, 0)) ∧ Below w.heap.size w w' :=
  ⟨hL.1, (hL.2.block R (lt_of_heap h.row) h.ne).trans h.row, h.low.trans (hL.2.below h.low.size fun b hb => by rw [show b = P from hb]; exact h.hP)⟩
theorem Fil.store (h : Fil w W P R n m) {k : Nat} {w' : World} {i : Nat} {b : Bool} (hL : Left W P n k w') (hb : ∀ j, j < n → k.testBit j = if j = i then b else m.testBit j) : Fil w (w'.setCell ⟨R, i, none⟩ (.bool b)) P R n k := by
  obtain ⟨h1, h2, h3⟩ := h.turn hL
  refine ⟨h1.same (Below.heap_setCell w' _ _ P (fun e => h.ne e.symm)), ?_, h.ne, h.hP, h.hR, h3.setCell h.hR _⟩
  rw [heap_setCell_same w' R i _ _ _ h2, bools_set hb]
theorem f_add (h : Fil w W P R n m) (i : Nat) (hi : i < n) : Calls Try.prog 15 #[.pointer (some ⟨P, 0, none⟩), .int .i64 (i : Nat)] W fun e w' => e = .returned (.int .i64 0) ∧ (∃ u, w'.cell? ⟨R, i, none⟩ = some u) ∧ w'.frozen? ⟨R, i, none⟩ = false ∧ Below w.heap.size w w' ∧ Hid (Fil w (w'.setCell ⟨R, i, none⟩ (.bool true)) P R n (m ||| 2 ^ i)) := by
  refine (add_in h.set i hi).mono ?_
  rintro e w' ⟨rfl, hL⟩
  obtain ⟨_, h2, h3⟩ := h.turn hL
  exact ⟨rfl, ⟨_, (cell_of_row w' R i _ _ (0, 0) h2).trans (bools_get hi)⟩, frozen_of_row w' R i _ _ h2, h3, h.store hL fun j _ => bit_or⟩
theorem f_remove (h : Fil w W P R n m) (i : Nat) (hi : i < n) : Calls Try.prog 17 #[.pointer (some ⟨P, 0, none⟩), .int .i64 (i : Nat)] W fun e w' => e = .returned (.int .i64 0) ∧ (∃ u, w'.cell? ⟨R, i, none⟩ = some u) ∧ w'.frozen? ⟨R, i, none⟩ = false ∧ Below w.heap.size w w' ∧ Hid (Fil w (w'.setCell ⟨R, i, none⟩ (.bool false)) P R n (minus m (2 ^ i))) := by
  refine (remove_in h.set i hi).mono ?_
  rintro e w' ⟨rfl, hL⟩
  obtain ⟨_, h2, h3⟩ := h.turn hL
  have hn := h.set.le
  exact ⟨rfl, ⟨_, (cell_of_row w' R i _ _ (0, 0) h2).trans (bools_get hi)⟩, frozen_of_row w' R i _ _ h2, h3, h.store hL fun j hj => bit_minus (by omega) (by omega)⟩
end
/-- What a number of filled's list does. -/
def put (n m x : Nat) : Nat := if x < 128 then m ||| 2 ^ (x % 128 % n) else minus m (2 ^ (x % 128 % n))
def fillN (n : Nat) (l : List Nat) : Nat := l.foldl (put n) 0
theorem fillN_snoc (n : Nat) (l : List Nat) (x : Nat) : fillN n (l ++ [x]) = put n (fillN n l) x := by
  unfold fillN
  rw [List.foldl_append]
  rfl
/-- What filled leaves. -/
def FilledOf (w : World) (n m : Nat) (e : Ending) (w' : World) : Prop :=
  ∃ P R, e = .returned (.tuple #[.pointer (some ⟨P, 0, none⟩), .slice (some ⟨R, 0, none⟩) n n]) ∧ Hid (Fil w w' P R n m)
set_option maxRecDepth 100000 in
set_option maxHeartbeats 2000000 in
theorem filled_any (s : Nat) (A : Option Addr) (N c : Nat) (l : List Nat) (w : World) (hl : BN w A N l) (hN : N ≤ 1000) (_hs : s < 256) :
    Calls Try.prog 37 #[.int .u8 (s : Nat), .slice A N c] w (FilledOf w (1 + s % 34) (fillN (1 + s % 34) l)) := by
  obtain ⟨n, hn⟩ : ∃ n, n = 1 + s % 34 := ⟨_, rfl⟩
  rw [← hn]
  have hn1 : 1 ≤ n ∧ n ≤ 34 := by omega
  have e1 : Int.tmod (s : Int) 34 = ((s % 34 : Nat) : Int) := rfl
  have e2 : (1 : Int) + ((s : Int) % 34) = (n : Int) := by omega
  have gl := Lib.hid hl
  have hmk := make_bools n (by omega)
  clear hl hn
  go_enter Try.func37, Try.ntmps37
  go_wp2_with fail
  refine (new_any n _ hn1.1 hn1.2).mono ?_
  rintro e w1 ⟨rfl, g1⟩
  go_wp2_with fail
  obtain ⟨P, hP⟩ : ∃ P, P = w.heap.size := ⟨_, rfl⟩
  obtain ⟨R, hR⟩ : ∃ R, R = w1.heap.size := ⟨_, rfl⟩
  obtain ⟨V, hV⟩ : ∃ V, V = w1.alloc (.cells (Array.replicate n (.bool false)) 4) := ⟨_, rfl⟩
  have hF : Fil w V P R n (fillN n (l.take 0)) := by
    have h1 := g1.out.1.blt
    have h2 := g1.out.2.size
    rw [hV, hP, hR]
    refine ⟨g1.out.1.below ((Below.refl _ w1).alloc (Nat.le_refl _) _), ?_, by omega, Nat.le_refl _, h2, g1.out.2.alloc h2 _⟩
    have h3 := World.alloc_heap_new w1 (.cells (Array.replicate n (.bool false)) 4)
    rw [bools_zero] at h3 ⊢
    exact h3
  have gF := Lib.hid hF
  rw [← hP, ← hR, ← hV]
  have n0 : ¬ ((n : Int) = 0) := by omega
  clear hP hR hV hF hmk g1 e1 e2
  go_loopw [10] (fun i wr => ∃ k : Nat, k ≤ N ∧ i = .int .i64 (k : Nat) ∧ Hid (Fil w wr P R n (fillN n (l.take k)))) (fun i _ => N - (intOf i).toNat)
  case atStart => exact ⟨0, Nat.zero_le _, rfl, gF.out⟩
  case round =>
    obtain ⟨k, hk, rfl, gI⟩ := hrel
    clear gF
    by_cases hlt : k < N
    · obtain ⟨b, o, x, rfl, hx, hx256, hc⟩ := (gl.out.below gI.out.low).at hlt
      obtain ⟨q, hq⟩ : ∃ q, q = x % 128 % n := ⟨_, rfl⟩
      have hqn : q < n := by rw [hq]; exact Nat.mod_lt _ (by omega)
      have e1 : Int.tmod (x : Int) 128 = ((x % 128 : Nat) : Int) := rfl
      have e3 : Int.tmod ((x : Int) % 128) (n : Int) = (q : Int) := by rw [hq]; rfl
      have e4 : (x : Int) % 128 % (n : Int) = (q : Int) := by rw [hq]; rfl
      have q0 : (0 : Int) ≤ (q : Int) := by omega
      have q1 : (q : Int) < (n : Int) := by omega
      have gS := Lib.hid (take_snoc hx)
      have gq := Lib.hid hq
      have hcl := Lib.hid (show ∀ W2, Below w.heap.size w W2 → W2.cell? ⟨b, o + k, none⟩ = some (.int .u8 (x : Nat)) from fun W2 h2 => by
        obtain ⟨b', o', x', e, hx', _, hc'⟩ := (gl.out.below h2).at hlt
        cases e
        rw [hx] at hx'
        cases hx'
        exact hc')
      clear hx hq
      by_cases h128 : x < 128
      · have d1 : (x : Int) < 128 := by omega
        go_wp2_with fail
        refine (f_add gI.out q hqn).mono ?_
        rintro e w2 ⟨rfl, ⟨u, hu⟩, hf, hB, gN⟩
        have hc2 := hcl.out w2 hB
        have gN2 := Lib.hid (show Fil w (w2.setCell ⟨R, q, none⟩ (.bool true)) P R n (fillN n (l.take (k + 1))) from by
          rw [gS.out, fillN_snoc]
          unfold put
          rw [if_pos h128, ← gq.out]
          exact gN.out)
        clear hB gN hc
        go_wp2_with fail
        go_roundw
        case rel => exact ⟨k + 1, by omega, by simp, gN2.out⟩
        case measure => simp [intOf]; omega
      · have d1 : decide ((x : Int) < 128) = false := by simp; omega
        have d2 : (128 : Int) ≤ (x : Int) := by omega
        go_wp2_with fail
        refine (f_remove gI.out q hqn).mono ?_
        rintro e w2 ⟨rfl, ⟨u, hu⟩, hf, hB, gN⟩
        have hc2 := hcl.out w2 hB
        have gN2 := Lib.hid (show Fil w (w2.setCell ⟨R, q, none⟩ (.bool false)) P R n (fillN n (l.take (k + 1))) from by
          rw [gS.out, fillN_snoc]
          unfold put
          rw [if_neg h128, ← gq.out]
          exact gN.out)
        clear hB gN hc
        go_wp2_with fail
        go_roundw
        case rel => exact ⟨k + 1, by omega, by simp, gN2.out⟩
        case measure => simp [intOf]; omega
    · obtain rfl : k = N := by omega
      have gE := Lib.hid (show Fil w wr P R n (fillN n l) from by
        have h := gI.out
        rwa [← gl.out.1, List.take_length] at h)
      go_wp2_with fail
      go_ret2
      exact ⟨P, R, rfl, gE.out⟩
end Go.Proofs.Ytpdipcgchhibeaa
