/- made: a queue behind turns, and what it ought to hold. -/
import Derived.Test.YtfpolnokdebncaaLetter
import Derived.Laws.MakeOwn
import Derived.Deep.DeepCutAuto
namespace Go.Proofs.Ytfpolnokdebncaa
open Go.RowKit QT
/-- The row of wishes. -/
def wishes (want : List (Option Nat)) : Obj := .cells (want.map wish).toArray 3 (0, 0)
/-- What made leaves. -/
def MadeOf (w : World) (s : Nat) (e : Ending) (w' : World) : Prop :=
  ∃ P Z n, n = 1 + s % 50 ∧ e = .returned (.tuple #[.pointer (some ⟨P, 0, none⟩), .slice (some ⟨Z, 0, none⟩) n n]) ∧
    Hid (∃ want : List (Option Nat), want.length = n ∧ (∀ p, some p ∈ want → p < 256) ∧ QBy w w' P n (itemsFrom 0 want) Z (wishes want))
theorem new_by {w W : World} {P n : Nat} {o : Obj} (h : QHas w W P n []) : QBy w (W.alloc o) P n [] W.heap.size o := by
  obtain ⟨v, G, pl, h1, h2, h3⟩ := h
  refine ⟨v, G, pl, h1.below ((Below.refl _ W).alloc (Nat.le_refl _) _), h2, h3.alloc h3.size _, World.alloc_heap_new _ _, ?_, ?_, h3.size⟩
  · have := lt_of_heap h1.qs.blk
    omega
  · intro e
    have := (h1.qs.row.lt _ e).2
    omega
/-- The row, its first k cells at -1, the others at 0. -/
def cleared (n k : Nat) : Array Value := (List.replicate k (Value.int .i64 (-1)) ++ List.replicate (n - k) (Value.int .i64 0)).toArray
theorem infoInt : (Try.prog.info? 3).map (fun i => (i.zero, i.size, i.bytes)) = some (some (.int .i64 0), 1, 8) := by kernel_rfl
theorem make_ints (n : Nat) (h : n ≤ 50) (w : World) : (Instr.makeSlice 41 (.int .i64 (n : Int)) (.int .i64 (n : Int))).run Try.prog w = .ok (.slice (some ⟨w.heap.size, 0, none⟩) n n) (w.alloc (.cells (cleared n 0) 3)) := by
  obtain ⟨i, hi, h1, h2, h3⟩ := info_parts infoInt
  have := run_make (P := Try.prog) w 41 3 i _ Try.underlying41 hi h1 .i64 .i64 n n (by omega) (by omega) (by rw [h3]; omega) (by omega)
  rw [this, h2]
  have e : madeCells (Value.int .i64 0).cells ((n : Int).toNat * 1) = cleared n 0 := by
    apply Array.toList_inj.1
    have : madeCells (Value.int .i64 0).cells ((n : Int).toNat * 1) = madeCells #[Value.int .i64 0] n := by simp [Value.cells]
    rw [this, toList_madeCells_one]
    simp [cleared]
  rw [e]
  rfl
theorem cleared_set {n k : Nat} (h : k < n) : (cleared n k).setIfInBounds k (.int .i64 (-1)) = cleared n (k + 1) := by
  unfold cleared
  obtain ⟨d, hd⟩ : ∃ d, n - k = d + 1 := ⟨n - k - 1, by omega⟩
  rw [hd, show n - (k + 1) = d by omega, List.replicate_succ (n := d), List.replicate_succ' (n := k)]
  apply Array.toList_inj.1
  simp only [List.setIfInBounds_toArray]
  rw [List.set_append_right _ _ (by simp)]
  simp
theorem cleared_get {n k j : Nat} (h : j < n) : ∃ u, (cleared n k)[j]? = some u := by
  have hs : j < (cleared n k).size := by unfold cleared; simp; omega
  exact ⟨_, Array.getElem?_eq_getElem hs⟩
theorem cleared_all (n : Nat) : Obj.cells (cleared n n) 3 (0, 0) = wishes (List.replicate n none) := by
  unfold cleared wishes
  simp [wish]
/-- A queue at block P that holds what the row at block Z asks for. -/
def Holding (w W : World) (P n Z : Nat) (want : List (Option Nat)) : Prop :=
  want.length = n ∧ (∀ p, some p ∈ want → p < 256) ∧ QBy w W P n (itemsFrom 0 want) Z (wishes want)
section
variable {w W : World} {P n Z : Nat} {want : List (Option Nat)}
theorem Holding.bel (h : Holding w W P n Z want) : Below w.heap.size w W := by obtain ⟨_, _, _, _, _, _, _, h3, _⟩ := h; exact h3
theorem _root_.Go.Proofs.Ytfpolnokdebncaa.QT.QBy.bel {S : List It} {o : Obj} (h : QBy w W P n S Z o) : Below w.heap.size w W := by obtain ⟨_, _, _, _, _, h3, _⟩ := h; exact h3
theorem QBy.wish {S : List It} (h : QBy w W P n S Z (wishes want)) {i : Nat} {x : Option Nat} (hi : want[i]? = some x) : W.cell? ⟨Z, i, none⟩ = some (wish x) ∧ W.frozen? ⟨Z, i, none⟩ = false := by
  obtain ⟨_, _, _, _, _, _, h4, _⟩ := h
  exact ⟨(cell_of_row W Z i _ _ (0, 0) h4).trans (by simp [hi]), frozen_of_row W Z i _ _ h4⟩
theorem Holding.set (hl : want.length = n) (hlt : ∀ p, some p ∈ want → p < 256) {i : Nat} {x : Option Nat} (hx : ∀ p, x = some p → p < 256) (hq : QBy w W P n (itemsFrom 0 (want.set i x)) Z (wishes want)) :
    Holding w (W.setCell ⟨Z, i, none⟩ (wish x)) P n Z (want.set i x) := by
  refine ⟨by simpa using hl, fun p hp => ?_, ?_⟩
  · rcases List.mem_or_eq_of_mem_set hp with h | h
    · exact hlt p h
    · exact hx p h.symm
  · have h := hq.set i (wish x)
    have e : (want.map wish).toArray.setIfInBounds i (wish x) = ((want.set i x).map wish).toArray := by simp [List.map_set]
    unfold wishes
    rw [← e]
    exact h
theorem h_remove (h : Holding w W P n Z want) (i : Nat) (hi : i < n) : Calls Try.prog 41 #[.pointer (some ⟨P, 0, none⟩), .int .i64 (i : Nat)] W fun e w' => (∃ r, e = .returned r) ∧ Hid (Holding w (w'.setCell ⟨Z, i, none⟩ (.int .i64 (-1))) P n Z (want.set i none) ∧ QBy w w' P n (itemsFrom 0 (want.set i none)) Z (wishes want)) := by
  obtain ⟨hl, hlt, hq⟩ := h
  obtain ⟨x, hx⟩ : ∃ x, want[i]? = some x := ⟨_, List.getElem?_eq_getElem (by omega)⟩
  cases x with
  | none =>
    have hno : ∀ y ∈ itemsFrom 0 want, y.1 ≠ i := fun y hy => by have := items_no want 0 i hx y hy; omega
    refine (by_remove_none hq i hi hno).mono ?_
    rintro e w' ⟨rfl, rfl⟩
    have e : want.set i none = want := by
      apply List.ext_getElem?
      intro j
      rw [List.getElem?_set]
      split
      · rename_i e
        subst e
        rw [if_pos (show i < want.length by omega), hx]
      · rfl
    have hq' : QBy w W P n (itemsFrom 0 (want.set i none)) Z (wishes want) := by rw [e]; exact hq
    exact ⟨⟨_, rfl⟩, Holding.set hl hlt (fun p hp => by cases hp) hq', hq'⟩
  | some q =>
    have hp := items_out q want 0 i hx
    rw [Nat.zero_add] at hp
    refine (by_remove hq hp).mono ?_
    rintro e w' ⟨rfl, h⟩
    exact ⟨⟨_, rfl⟩, Holding.set hl hlt (fun p hp => by cases hp) h.out, h.out⟩
theorem h_change (h : Holding w W P n Z want) (i q p : Nat) (hx : want[i]? = some (some q)) (hp : p < 256) : Calls Try.prog 39 #[.pointer (some ⟨P, 0, none⟩), .int .i64 (i : Nat), .string (lett p)] W fun e w' => e = .returned (.int .i64 0) ∧ Hid (Holding w (w'.setCell ⟨Z, i, none⟩ (.int .i64 (p : Nat))) P n Z (want.set i (some p)) ∧ QBy w w' P n (itemsFrom 0 (want.set i (some p))) Z (wishes want)) := by
  obtain ⟨hl, hlt, hq⟩ := h
  have h1 := items_out q want 0 i hx
  rw [Nat.zero_add] at h1
  refine (by_change hq (lett p) h1).mono ?_
  rintro e w' ⟨rfl, h⟩
  have h2 := h.out.perm (items_new p hx).symm
  exact ⟨rfl, Holding.set hl hlt (fun p' e => by cases e; exact hp) h2, h2⟩
theorem h_push (h : Holding w W P n Z want) (i p : Nat) (hx : want[i]? = some none) (hp : p < 256) : Calls Try.prog 38 #[.pointer (some ⟨P, 0, none⟩), .int .i64 (i : Nat), .string (lett p)] W fun e w' => e = .returned (.int .i64 0) ∧ Hid (Holding w (w'.setCell ⟨Z, i, none⟩ (.int .i64 (p : Nat))) P n Z (want.set i (some p)) ∧ QBy w w' P n (itemsFrom 0 (want.set i (some p))) Z (wishes want)) := by
  obtain ⟨hl, hlt, hq⟩ := h
  have hi : i < n := by have := (List.getElem?_eq_some_iff.1 hx).1; omega
  have hno : ∀ y ∈ itemsFrom 0 want, y.1 ≠ i := fun y hy => by have := items_no want 0 i hx y hy; omega
  refine (by_push hq i (lett p) hi hno).mono ?_
  rintro e w' ⟨rfl, h⟩
  have h1 := items_put p want 0 i hx
  rw [Nat.zero_add] at h1
  have h2 := h.out.perm h1.symm
  exact ⟨rfl, Holding.set hl hlt (fun p' e => by cases e; exact hp) h2, h2⟩
end
set_option maxRecDepth 1000000 in
set_option maxHeartbeats 4000000 in
theorem made_any (s : Nat) (_hs : s < 256) (A : Option Addr) (m cap : Nat) (ts : List Tu) (w : World) (h : TS w A m ts) (hcap : m ≤ cap ∧ cap ≤ 9223372036854775807) :
    Calls Try.prog 31 #[.int .u8 (s : Nat), .slice A m cap] w (MadeOf w s) := by
  obtain ⟨n, hn⟩ : ∃ n, n = 1 + s % 50 := ⟨_, rfl⟩
  have hn1 : 1 ≤ n ∧ n ≤ 50 := by omega
  have e1 : Int.tmod (s : Int) 50 = ((s % 50 : Nat) : Int) := rfl
  have e2 : (1 : Int) + ((s : Int) % 50) = (n : Int) := by omega
  have gT := Lib.hid h
  have gn := Lib.hid hn
  clear h hn
  go_enter Try.func31, Try.ntmps31
  go_wp2_with fail
  refine (has_new n _ hn1.1 (by omega)).mono ?_
  rintro e w1 ⟨rfl, g1⟩
  have hmk := make_ints n hn1.2
  go_wp2_with fail
  have gB := Lib.hid (new_by (o := .cells (cleared n 0) 3) g1.out)
  have hnz : n - 0 = n := Nat.sub_zero n
  go_loopw [10] (fun i wr => ∃ k : Nat, k ≤ n ∧ i = .int .i64 k ∧ Hid (QBy w wr w.heap.size n [] w1.heap.size (.cells (cleared n k) 3))) (fun i _ => n - (intOf i).toNat)
  case atStart => exact ⟨0, Nat.zero_le _, rfl, gB.out⟩
  case round =>
    obtain ⟨k, hk, rfl, gI⟩ := hrel
    by_cases hlt : k < n
    · obtain ⟨u, hu⟩ := cleared_get (k := k) hlt
      have hz : wr.heap[w1.heap.size]? = some (.cells (cleared n k) 3 (0, 0)) := by obtain ⟨_, _, _, _, _, _, h4, _⟩ := gI.out; exact h4
      have c0 := (cell_of_row wr w1.heap.size k _ _ (0, 0) hz).trans hu
      have f0 := frozen_of_row wr w1.heap.size k _ _ hz
      have gN := Lib.hid ((cleared_set hlt) ▸ gI.out.set k (.int .i64 (-1)))
      clear gB gI hz hu hmk g1
      go_wp2
      exact ⟨⟨k + 1, by omega, by simp, gN.out⟩, by simp [intOf]; omega⟩
    · obtain rfl : n = k := by omega
      have hH : Holding w wr w.heap.size n w1.heap.size (List.replicate n none) := ⟨List.length_replicate, fun p hp => by simp at hp, by rw [items_none]; exact cleared_all n ▸ gI.out⟩
      have gH := Lib.hid hH
      obtain ⟨P, hP⟩ : ∃ P, P = w.heap.size := ⟨_, rfl⟩
      obtain ⟨Z, hZ⟩ : ∃ Z, Z = w1.heap.size := ⟨_, rfl⟩
      rw [← hP, ← hZ] at gH
      rw [← hP, ← hZ]
      have gP := Lib.hid hP
      obtain ⟨W1, hW1⟩ : ∃ W1, W1 = wr := ⟨_, rfl⟩
      rw [← hW1] at gH
      rw [← hW1]
      clear hH gB gI hmk g1 hnz hP hZ hW1 hlt hk
      go_wp2
      go_loopw [11] (fun j wr => ∃ (k : Nat) (want : List (Option Nat)), k ≤ m ∧ j = .int .i64 k ∧ Hid (Holding w wr P n Z want)) (fun j _ => m - (intOf j).toNat)
      case atStart => exact ⟨0, _, Nat.zero_le _, rfl, gH.out⟩
      case round =>
        obtain ⟨k, want, hk, rfl, gI⟩ := hrel
        clear gH
        by_cases hlt : k < m
        · have hT := gT.out.below gI.out.bel
          obtain ⟨b, o, rfl, _, hat⟩ := hT.2.2 (by omega)
          obtain ⟨t, ht⟩ : ∃ t, ts[k]? = some t := ⟨_, List.getElem?_eq_getElem (by rw [hT.1]; exact hlt)⟩
          obtain ⟨q0, q1, q2⟩ := hat k t ht
          obtain ⟨d, id, p⟩ := t
          have hid : id < 256 ∧ p < 256 := hT.2.1 _ (List.mem_of_getElem? ht)
          dsimp only at q0 q1 q2
          obtain ⟨i, hi⟩ : ∃ i, i = id % n := ⟨_, rfl⟩
          have hin : i < n := by rw [hi]; exact Nat.mod_lt _ (by omega)
          have eI : (id : Int) % (n : Int) = (i : Int) := by rw [hi]; rfl
          have n0 : ¬ ((n : Int) = 0) := by omega
          have eT : Int.tmod (id : Int) (n : Int) = (i : Int) := by rw [hi]; rfl
          obtain ⟨x, hx⟩ : ∃ x, want[i]? = some x := ⟨_, List.getElem?_eq_getElem (by rw [gI.out.1]; exact hin)⟩
          obtain ⟨c0, f0⟩ := QBy.wish gI.out.2.2 hx
          have i0 : (0 : Int) ≤ (i : Int) := by omega
          have i1 : (i : Int) < (n : Int) := by omega
          have gt := Lib.hid (show ∀ W2, Below w.heap.size w W2 → W2.cell? ⟨b, o + k * 3 + 1 + 1, none⟩ = some (.int .u8 (p : Nat)) from fun W2 h2 => by
            obtain ⟨b', o', e, _, hat'⟩ := (gT.out.below h2).2.2 (by omega)
            cases e
            exact (hat' k _ ht).2.2)
          have gx := Lib.hid hx
          clear hT hat ht hi hx
          cases d with
          | true =>
            go_wp2_with fail
            refine (h_remove gI.out i hin).mono ?_
            rintro e w2 ⟨⟨r, rfl⟩, g2⟩
            obtain ⟨k2, f2⟩ := QBy.wish g2.out.2 gx.out
            go_wp2
            exact ⟨⟨k + 1, _, by omega, by simp, g2.out.1⟩, by simp [intOf]; omega⟩
          | false =>
            cases x with
            | none =>
              have c1 : wr.cell? ⟨Z, i, none⟩ = some (.int .i64 (-1)) := c0
              clear c0
              go_wp2_with fail
              refine (letter_any p hid.2 _).mono ?_
              rintro e w2 ⟨rfl, hB2⟩
              have g2 := Lib.hid (show Holding w w2 P n Z want from ⟨gI.out.1, gI.out.2.1, gI.out.2.2.below hB2⟩)
              clear hB2
              go_wp2_with fail
              refine (h_push g2.out i p gx.out hid.2).mono ?_
              rintro e w3 ⟨rfl, g3⟩
              obtain ⟨k3, f3⟩ := QBy.wish g3.out.2 gx.out
              have q3 := gt.out w3 g3.out.2.bel
              clear g2
              go_wp2
              exact ⟨⟨k + 1, _, by omega, by simp, g3.out.1⟩, by simp [intOf]; omega⟩
            | some q =>
              have c1 : wr.cell? ⟨Z, i, none⟩ = some (.int .i64 (q : Nat)) := c0
              have q0' : (0 : Int) ≤ (q : Int) := by omega
              clear c0
              go_wp2_with fail
              refine (letter_any p hid.2 _).mono ?_
              rintro e w2 ⟨rfl, hB2⟩
              have g2 := Lib.hid (show Holding w w2 P n Z want from ⟨gI.out.1, gI.out.2.1, gI.out.2.2.below hB2⟩)
              clear hB2
              go_wp2_with fail
              refine (h_change g2.out i q p gx.out hid.2).mono ?_
              rintro e w3 ⟨rfl, g3⟩
              obtain ⟨k3, f3⟩ := QBy.wish g3.out.2 gx.out
              have q3 := gt.out w3 g3.out.2.bel
              clear g2
              go_wp2
              exact ⟨⟨k + 1, _, by omega, by simp, g3.out.1⟩, by simp [intOf]; omega⟩
        · obtain rfl : k = m := by omega
          go_wp2
          go_ret2
          exact ⟨P, Z, n, gn.out, rfl, want, gI.out⟩
end Go.Proofs.Ytfpolnokdebncaa
