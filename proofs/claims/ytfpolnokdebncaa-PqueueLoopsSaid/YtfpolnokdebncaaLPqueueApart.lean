/- PqueueApart: the walk. -/
import Derived.Test.YtfpolnokdebncaaHold
import Derived.Laws.BitsAllLaws
namespace Go.Proofs.Ytfpolnokdebncaa
open Go.RowKit QT
theorem eq_none58 (a : Addr) (w : World) : (binOp .eql 58 (.pointer (some a)) (.pointer none)).run Try.prog w = .ok (.bool false) w := by
  have h : ∀ d : Nat, (Op.equalIn (d + 1) 58 (.pointer (some a)) (.pointer none)).run Try.prog w = .ok false w := fun d => by
    simp [Op.equalIn, run_underlying Try.underlying58]
  simp only [binOp]
  simp [Op.equal, Op.maxDepth, h 9999]
section
variable {w W : World} {P n Z : Nat} {want : List (Option Nat)}
theorem h_push_out (h : Holding w W P n Z want) (id : Int) (p : ByteArray) (hi : id < 0 ∨ (n : Int) ≤ id) : Calls Try.prog 38 #[.pointer (some ⟨P, 0, none⟩), .int .i64 id, .string p] W fun e w' => e = .returned (.int .i64 3) ∧ W = w' := has_push_out h.2.2.has id p hi
theorem h_change_out (h : Holding w W P n Z want) (id : Int) (p : ByteArray) (hi : id < 0 ∨ (n : Int) ≤ id) : Calls Try.prog 39 #[.pointer (some ⟨P, 0, none⟩), .int .i64 id, .string p] W fun e w' => e = .returned (.int .i64 3) ∧ W = w' := by
  obtain ⟨_, _, _, hO, _⟩ := h.2.2
  exact change_out hO.qs id p hi
theorem h_push_have (h : Holding w W P n Z want) (i q : Nat) (p : ByteArray) (hx : want[i]? = some (some q)) : Calls Try.prog 38 #[.pointer (some ⟨P, 0, none⟩), .int .i64 (i : Nat), .string p] W fun e w' => e = .returned (.int .i64 6) ∧ W = w' := has_push_have h.2.2.has (i, lett q) p (items_mem hx)
theorem h_change_none (h : Holding w W P n Z want) (i : Nat) (p : ByteArray) (hx : want[i]? = some none) : Calls Try.prog 39 #[.pointer (some ⟨P, 0, none⟩), .int .i64 (i : Nat), .string p] W fun e w' => e = .returned (.int .i64 5) ∧ W = w' :=
  has_change_none h.2.2.has i p (by have := (List.getElem?_eq_some_iff.1 hx).1; have := h.1; omega) (fun y hy => by have := items_no want 0 i hx y hy; omega)
/-- A priority that is told, and the string that the row has. -/
def toldOf : Option Nat → ByteArray
  | none => ⟨#[]⟩
  | some q => lett q
theorem h_told (h : Holding w W P n Z want) (i : Nat) (x : Option Nat) (hx : want[i]? = some x) : Calls Try.prog 40 #[.pointer (some ⟨P, 0, none⟩), .int .i64 (i : Nat)] W fun e w' => e = .returned (.tuple #[.string (toldOf x), .bool x.isSome]) ∧ W = w' := by
  cases x with
  | none => exact h_priority_none h i hx
  | some q => exact h_priority h i q hx
theorem h_removed (h : Holding w W P n Z want) (i q : Nat) (hx : want[i]? = some (some q)) : Calls Try.prog 41 #[.pointer (some ⟨P, 0, none⟩), .int .i64 (i : Nat)] W fun e w' => e = .returned (.tuple #[.string (lett q), .bool true]) ∧ Hid (Holding w (w'.setCell ⟨Z, i, none⟩ (.int .i64 (-1))) P n Z (want.set i none) ∧ QBy w w' P n (itemsFrom 0 (want.set i none)) Z (wishes want)) := by
  obtain ⟨hl, hlt, hq⟩ := h
  have hp := items_out q want 0 i hx
  rw [Nat.zero_add] at hp
  refine (by_remove hq hp).mono ?_
  rintro e w' ⟨rfl, h⟩
  exact ⟨rfl, Holding.set hl hlt (fun p hp => by cases hp) h.out, h.out⟩
theorem set_self {x y : Option Nat} {i : Nat} : (want.set i x).set i y = want.set i y := by simp
theorem h_change2 (hl : want.length = n) (hlt : ∀ p, some p ∈ want → p < 256) (i p p1 : Nat) (hq : QBy w W P n (itemsFrom 0 (want.set i (some p))) Z (wishes want)) (hi : i < n) (hp1 : p1 < 256) : Calls Try.prog 39 #[.pointer (some ⟨P, 0, none⟩), .int .i64 (i : Nat), .string (lett p1)] W fun e w' => e = .returned (.int .i64 0) ∧ Hid (Holding w (w'.setCell ⟨Z, i, none⟩ (.int .i64 (p1 : Nat))) P n Z (want.set i (some p1)) ∧ QBy w w' P n (itemsFrom 0 (want.set i (some p1))) Z (wishes want)) := by
  have hx : (want.set i (some p))[i]? = some (some p) := by simp [hl, hi]
  have h1 := items_out p (want.set i (some p)) 0 i hx
  rw [Nat.zero_add] at h1
  refine (by_change hq (lett p1) h1).mono ?_
  rintro e w' ⟨rfl, h⟩
  have h2 := h.out.perm (items_new p1 hx).symm
  rw [set_self] at h2
  exact ⟨rfl, Holding.set hl hlt (fun p' e => by cases e; exact hp1) h2, h2⟩
theorem h_gone {o : Obj} (i : Nat) (hl : want.length = n) (hi : i < n) (hq : QBy w W P n (itemsFrom 0 (want.set i none)) Z o) : Calls Try.prog 41 #[.pointer (some ⟨P, 0, none⟩), .int .i64 (i : Nat)] W fun e w' => e = .returned (.tuple #[.string ⟨#[]⟩, .bool false]) ∧ W = w' :=
  by_remove_none hq i hi (fun y hy => by have := items_no (want.set i none) 0 i (by simp [hl, hi]) y hy; omega)
theorem h_gone2 {o : Obj} (i : Nat) (p : ByteArray) (hl : want.length = n) (hi : i < n) (hq : QBy w W P n (itemsFrom 0 (want.set i none)) Z o) : Calls Try.prog 39 #[.pointer (some ⟨P, 0, none⟩), .int .i64 (i : Nat), .string p] W fun e w' => e = .returned (.int .i64 5) ∧ W = w' :=
  has_change_none hq.has i p hi (fun y hy => by have := items_no (want.set i none) 0 i (by simp [hl, hi]) y hy; omega)
theorem cleared_row (hl : want.length = n) (hlt : ∀ p, some p ∈ want → p < 256) (i : Nat) (hq : QBy w W P n (itemsFrom 0 (want.set i none)) Z (wishes want)) : Holding w (W.setCell ⟨Z, i, none⟩ (.int .i64 (-1))) P n Z (want.set i none) := Holding.set hl hlt (fun p hp => by cases hp) hq
end
set_option maxRecDepth 1000000 in
set_option maxHeartbeats 8000000 in
theorem apart_walk (s : Nat) (hs : s < 256) (A : Option Addr) (m cap : Nat) (ts : List Tu) (id : Int) (p : Nat) (hp : p < 256) (w : World) (h : TS w A m ts) (hcap : m ≤ cap ∧ cap ≤ 9223372036854775807) :
    Calls Try.prog 7 #[.int .u8 (s : Nat), .slice A m cap, .int .i64 id, .int .u8 (p : Nat)] w fun e w' => e = .returned (.bool true) ∧ Below w.heap.size w w' := by
  by_cases hm : 150 < m
  · have hm' : (150 : Int) < (m : Int) := by omega
    go_enter Try.func7, Try.ntmps7
    go_wp2_with (go_at_call 11; refine (works_any _).mono ?_; rintro e w' ⟨rfl, hB⟩)
    go_ret
    exact ⟨rfl, hB⟩
  have hm' : ¬ (150 : Int) < (m : Int) := by omega
  have hq := eq_none58
  obtain ⟨p1, hp1⟩ : ∃ p1, p1 = p ^^^ 1 := ⟨_, rfl⟩
  have hx1 : bits .xor .u8 (p : Int) 1 = (p1 : Int) := by rw [hp1]; exact u8_xor_nat p 1 hp (by decide)
  have hp1' : p1 < 256 := by rw [hp1]; exact Nat.xor_lt_two_pow (n := 8) hp (by decide)
  have gT := Lib.hid h
  clear h hp1 hm
  go_enter Try.func7, Try.ntmps7
  go_wp2_with fail
  refine (made_any s hs A m cap ts _ gT.out hcap).mono ?_
  rintro e w1 ⟨P, Z, n, hn, rfl, gM⟩
  obtain ⟨want, hl, hlt, hby⟩ := gM.out
  have gH := Lib.hid (show Holding w w1 P n Z want from ⟨hl, hlt, hby⟩)
  have hn50 : n ≤ 50 := by omega
  clear gM hl hlt hby hn gT
  by_cases hin : id < 0 ∨ (n : Int) ≤ id
  · have gin := Lib.hid hin
    rcases hin with hneg | hbig
    · have o1 : ¬ (0 ≤ id) := by omega
      clear hneg
      go_wp2_with fail
      refine (letter_any p hp _).mono ?_
      rintro e w2 ⟨rfl, hB2⟩
      have g2 := Lib.hid (gH.out.below hB2)
      clear hB2
      go_wp2_with fail
      refine (h_push_out g2.out id _ gin.out).mono ?_
      rintro e w3 ⟨rfl, rfl⟩
      go_wp2_with fail
      refine (letter_any p1 hp1' _).mono ?_
      rintro e w4 ⟨rfl, hB4⟩
      have gW := Lib.hid (g2.out.below hB4)
      clear hB4
      go_wp2_with fail
      refine (h_change_out gW.out id _ gin.out).mono ?_
      rintro e w5 ⟨rfl, rfl⟩
      obtain ⟨want2, hw2⟩ : ∃ want2, want2 = want := ⟨_, rfl⟩
      rw [← hw2] at gW
      clear hw2 g2
      go_wp2_with fail
      go_loopw [15] (fun i wr => ∃ k : Nat, k ≤ n ∧ i = .int .i64 k ∧ Hid (Holding w wr P n Z want2)) (fun i _ => n - (intOf i).toNat)
      case atStart => exact ⟨0, Nat.zero_le _, rfl, gW.out⟩
      case round =>
        obtain ⟨k, hk, rfl, gI⟩ := hrel
        clear gW
        by_cases hlt : k < n
        · obtain ⟨x, hx⟩ : ∃ x, want2[k]? = some x := ⟨_, List.getElem?_eq_getElem (by rw [gI.out.1]; exact hlt)⟩
          obtain ⟨d0, _⟩ := QBy.wish gI.out.2.2 hx
          have gy := Lib.hid hx
          have gq := Lib.hid (show ∀ q, x = some q → q < 256 from fun q e => gI.out.2.1 q (by rw [← e]; exact List.mem_of_getElem? hx))
          clear hx
          cases x with
          | none =>
            have d1 : wr.cell? ⟨Z, k, none⟩ = some (.int .i64 (-1)) := d0
            clear d0
            go_wp2_with fail
            refine (h_priority_none gI.out k gy.out).mono ?_
            rintro e w6 ⟨rfl, rfl⟩
            go_wp2
            exact ⟨⟨k + 1, by omega, by simp, gI.out⟩, by simp [intOf]; omega⟩
          | some q =>
            have d1 : wr.cell? ⟨Z, k, none⟩ = some (.int .i64 (q : Nat)) := d0
            have r0 : (0 : Int) ≤ (q : Int) := by omega
            have rq := gq.out q rfl
            have r1 : (q : Int) % 256 = (q : Int) := by omega
            clear d0
            go_wp2_with fail
            refine (h_priority gI.out k q gy.out).mono ?_
            rintro e w6 ⟨rfl, rfl⟩
            go_wp2_with fail
            refine (letter_any q rq _).mono ?_
            rintro e w7 ⟨rfl, hB7⟩
            have g7 := Lib.hid (gI.out.below hB7)
            clear hB7
            go_wp2
            exact ⟨⟨k + 1, by omega, by simp, g7.out⟩, by simp [intOf]; omega⟩
        · obtain rfl : n = k := by omega
          clear hlt hk
          have gF := gI
          go_wp2_with fail
          refine (h_len gF.out).mono ?_
          rintro e w10 ⟨rfl, rfl⟩
          go_wp2_with fail
          refine (count_any gF.out hn50).mono ?_
          rintro e w10 ⟨rfl, rfl⟩
          go_wp2_with fail
          refine (works_any _).mono ?_
          rintro e w11 ⟨rfl, hB11⟩
          go_wp2_with fail
          go_ret
          exact ⟨rfl, gF.out.bel.trans (hB11.mono gF.out.bel.size)⟩
    · have o0 : 0 ≤ id := by omega
      have o1 : ¬ (id < (n : Int)) := by omega
      clear hbig
      go_wp2_with fail
      refine (letter_any p hp _).mono ?_
      rintro e w2 ⟨rfl, hB2⟩
      have g2 := Lib.hid (gH.out.below hB2)
      clear hB2
      go_wp2_with fail
      refine (h_push_out g2.out id _ gin.out).mono ?_
      rintro e w3 ⟨rfl, rfl⟩
      go_wp2_with fail
      refine (letter_any p1 hp1' _).mono ?_
      rintro e w4 ⟨rfl, hB4⟩
      have gW := Lib.hid (g2.out.below hB4)
      clear hB4
      go_wp2_with fail
      refine (h_change_out gW.out id _ gin.out).mono ?_
      rintro e w5 ⟨rfl, rfl⟩
      obtain ⟨want2, hw2⟩ : ∃ want2, want2 = want := ⟨_, rfl⟩
      rw [← hw2] at gW
      clear hw2 g2
      go_wp2_with fail
      go_loopw [15] (fun i wr => ∃ k : Nat, k ≤ n ∧ i = .int .i64 k ∧ Hid (Holding w wr P n Z want2)) (fun i _ => n - (intOf i).toNat)
      case atStart => exact ⟨0, Nat.zero_le _, rfl, gW.out⟩
      case round =>
        obtain ⟨k, hk, rfl, gI⟩ := hrel
        clear gW
        by_cases hlt : k < n
        · obtain ⟨x, hx⟩ : ∃ x, want2[k]? = some x := ⟨_, List.getElem?_eq_getElem (by rw [gI.out.1]; exact hlt)⟩
          obtain ⟨d0, _⟩ := QBy.wish gI.out.2.2 hx
          have gy := Lib.hid hx
          have gq := Lib.hid (show ∀ q, x = some q → q < 256 from fun q e => gI.out.2.1 q (by rw [← e]; exact List.mem_of_getElem? hx))
          clear hx
          cases x with
          | none =>
            have d1 : wr.cell? ⟨Z, k, none⟩ = some (.int .i64 (-1)) := d0
            clear d0
            go_wp2_with fail
            refine (h_priority_none gI.out k gy.out).mono ?_
            rintro e w6 ⟨rfl, rfl⟩
            go_wp2
            exact ⟨⟨k + 1, by omega, by simp, gI.out⟩, by simp [intOf]; omega⟩
          | some q =>
            have d1 : wr.cell? ⟨Z, k, none⟩ = some (.int .i64 (q : Nat)) := d0
            have r0 : (0 : Int) ≤ (q : Int) := by omega
            have rq := gq.out q rfl
            have r1 : (q : Int) % 256 = (q : Int) := by omega
            clear d0
            go_wp2_with fail
            refine (h_priority gI.out k q gy.out).mono ?_
            rintro e w6 ⟨rfl, rfl⟩
            go_wp2_with fail
            refine (letter_any q rq _).mono ?_
            rintro e w7 ⟨rfl, hB7⟩
            have g7 := Lib.hid (gI.out.below hB7)
            clear hB7
            go_wp2
            exact ⟨⟨k + 1, by omega, by simp, g7.out⟩, by simp [intOf]; omega⟩
        · obtain rfl : n = k := by omega
          clear hlt hk
          have gF := gI
          go_wp2_with fail
          refine (h_len gF.out).mono ?_
          rintro e w10 ⟨rfl, rfl⟩
          go_wp2_with fail
          refine (count_any gF.out hn50).mono ?_
          rintro e w10 ⟨rfl, rfl⟩
          go_wp2_with fail
          refine (works_any _).mono ?_
          rintro e w11 ⟨rfl, hB11⟩
          go_wp2_with fail
          go_ret
          exact ⟨rfl, gF.out.bel.trans (hB11.mono gF.out.bel.size)⟩
  · obtain ⟨i, rfl⟩ : ∃ i : Nat, id = (i : Nat) := ⟨id.toNat, by omega⟩
    have hi : i < n := by omega
    have hi0 : (0 : Int) ≤ (i : Int) := by omega
    have hi1 : (i : Int) < (n : Int) := by omega
    obtain ⟨x, hx⟩ : ∃ x, want[i]? = some x := ⟨_, List.getElem?_eq_getElem (by rw [gH.out.1]; exact hi)⟩
    obtain ⟨c0, f0⟩ := QBy.wish gH.out.2.2 hx
    have gx := Lib.hid hx
    clear hin hx
    cases x with
    | none =>
      have c1 : w1.cell? ⟨Z, i, none⟩ = some (.int .i64 (-1)) := c0
      clear c0
      go_wp2_with fail
      refine (letter_any p hp _).mono ?_
      rintro e w2 ⟨rfl, hB2⟩
      have g2 := Lib.hid (gH.out.below hB2)
      clear hB2
      go_wp2_with fail
      refine (h_push g2.out i p gx.out hp).mono ?_
      rintro e w3 ⟨rfl, g3⟩
      have gL := Lib.hid gH.out.2.1
      have gl := Lib.hid gH.out.1
      go_wp2_with fail
      refine (letter_any p1 hp1' _).mono ?_
      rintro e w4 ⟨rfl, hB4⟩
      have g4 := Lib.hid (g3.out.2.below hB4)
      clear hB4
      go_wp2_with fail
      refine (h_change2 gl.out gL.out i p p1 g4.out hi hp1').mono ?_
      rintro e w5 ⟨rfl, g5⟩
      obtain ⟨k5, f5⟩ := QBy.wish g5.out.2 gx.out
      have gW := Lib.hid g5.out.1
      have ge := Lib.hid (show (want.set i (some p1))[i]? = some (some p1) from by rw [List.getElem?_set_self (by rw [gl.out]; exact hi)])
      clear g2 g4 gx
      obtain ⟨want2, hw2⟩ : ∃ want2, want2 = want.set i (some p1) := ⟨_, rfl⟩
      rw [← hw2] at gW ge
      clear hw2 g5
      go_wp2_with fail
      go_loopw [15] (fun i wr => ∃ k : Nat, k ≤ n ∧ i = .int .i64 k ∧ Hid (Holding w wr P n Z want2)) (fun i _ => n - (intOf i).toNat)
      case atStart => exact ⟨0, Nat.zero_le _, rfl, gW.out⟩
      case round =>
        obtain ⟨k, hk, rfl, gI⟩ := hrel
        clear gW
        by_cases hlt : k < n
        · obtain ⟨x, hx⟩ : ∃ x, want2[k]? = some x := ⟨_, List.getElem?_eq_getElem (by rw [gI.out.1]; exact hlt)⟩
          obtain ⟨d0, _⟩ := QBy.wish gI.out.2.2 hx
          have gy := Lib.hid hx
          have gq := Lib.hid (show ∀ q, x = some q → q < 256 from fun q e => gI.out.2.1 q (by rw [← e]; exact List.mem_of_getElem? hx))
          clear hx
          cases x with
          | none =>
            have d1 : wr.cell? ⟨Z, k, none⟩ = some (.int .i64 (-1)) := d0
            clear d0
            go_wp2_with fail
            refine (h_priority_none gI.out k gy.out).mono ?_
            rintro e w6 ⟨rfl, rfl⟩
            go_wp2
            exact ⟨⟨k + 1, by omega, by simp, gI.out⟩, by simp [intOf]; omega⟩
          | some q =>
            have d1 : wr.cell? ⟨Z, k, none⟩ = some (.int .i64 (q : Nat)) := d0
            have r0 : (0 : Int) ≤ (q : Int) := by omega
            have rq := gq.out q rfl
            have r1 : (q : Int) % 256 = (q : Int) := by omega
            clear d0
            go_wp2_with fail
            refine (h_priority gI.out k q gy.out).mono ?_
            rintro e w6 ⟨rfl, rfl⟩
            go_wp2_with fail
            refine (letter_any q rq _).mono ?_
            rintro e w7 ⟨rfl, hB7⟩
            have g7 := Lib.hid (gI.out.below hB7)
            clear hB7
            go_wp2
            exact ⟨⟨k + 1, by omega, by simp, g7.out⟩, by simp [intOf]; omega⟩
        · obtain rfl : n = k := by omega
          clear hlt hk
          have gz := Lib.hid (show want2[i]? = some (some p1) from ge.out)
          go_wp2_with fail
          refine (h_removed gI.out i p1 gz.out).mono ?_
          rintro e w6 ⟨rfl, g6⟩
          have hl2 := gI.out.1
          have gl2 := Lib.hid gI.out.2.1
          go_wp2_with fail
          refine (h_gone i hl2 hi g6.out.2).mono ?_
          rintro e w7 ⟨rfl, rfl⟩
          go_wp2_with fail
          refine (letter_any p1 hp1' _).mono ?_
          rintro e w7 ⟨rfl, hB7⟩
          have g7 := Lib.hid (g6.out.2.below hB7)
          clear hB7
          go_wp2_with fail
          refine (h_gone2 i _ hl2 hi g7.out).mono ?_
          rintro e w8 ⟨rfl, rfl⟩
          obtain ⟨e0, e1⟩ := QBy.wish g7.out gz.out
          have gF := Lib.hid (cleared_row hl2 gl2.out i g7.out)
          go_wp2_with fail
          refine (h_len gF.out).mono ?_
          rintro e w10 ⟨rfl, rfl⟩
          go_wp2_with fail
          refine (count_any gF.out hn50).mono ?_
          rintro e w10 ⟨rfl, rfl⟩
          go_wp2_with fail
          refine (works_any _).mono ?_
          rintro e w11 ⟨rfl, hB11⟩
          go_wp2_with fail
          go_ret
          exact ⟨rfl, gF.out.bel.trans (hB11.mono gF.out.bel.size)⟩
    | some q =>
      have c1 : w1.cell? ⟨Z, i, none⟩ = some (.int .i64 (q : Nat)) := c0
      have r0 : (0 : Int) ≤ (q : Int) := by omega
      clear c0
      go_wp2_with fail
      refine (letter_any p hp _).mono ?_
      rintro e w2 ⟨rfl, hB2⟩
      have g2 := Lib.hid (gH.out.below hB2)
      clear hB2
      go_wp2_with fail
      refine (h_push_have g2.out i q _ gx.out).mono ?_
      rintro e w3 ⟨rfl, rfl⟩
      have gL := Lib.hid gH.out.2.1
      have gl := Lib.hid gH.out.1
      go_wp2_with fail
      refine (letter_any p1 hp1' _).mono ?_
      rintro e w4 ⟨rfl, hB4⟩
      have g4 := Lib.hid (g2.out.below hB4)
      clear hB4
      go_wp2_with fail
      refine (h_change g4.out i q p1 gx.out hp1').mono ?_
      rintro e w5 ⟨rfl, g5⟩
      obtain ⟨k5, f5⟩ := QBy.wish g5.out.2 gx.out
      have gW := Lib.hid g5.out.1
      have ge := Lib.hid (show (want.set i (some p1))[i]? = some (some p1) from by rw [List.getElem?_set_self (by rw [gl.out]; exact hi)])
      clear g2 g4 gx
      obtain ⟨want2, hw2⟩ : ∃ want2, want2 = want.set i (some p1) := ⟨_, rfl⟩
      rw [← hw2] at gW ge
      clear hw2 g5
      go_wp2_with fail
      go_loopw [15] (fun i wr => ∃ k : Nat, k ≤ n ∧ i = .int .i64 k ∧ Hid (Holding w wr P n Z want2)) (fun i _ => n - (intOf i).toNat)
      case atStart => exact ⟨0, Nat.zero_le _, rfl, gW.out⟩
      case round =>
        obtain ⟨k, hk, rfl, gI⟩ := hrel
        clear gW
        by_cases hlt : k < n
        · obtain ⟨x, hx⟩ : ∃ x, want2[k]? = some x := ⟨_, List.getElem?_eq_getElem (by rw [gI.out.1]; exact hlt)⟩
          obtain ⟨d0, _⟩ := QBy.wish gI.out.2.2 hx
          have gy := Lib.hid hx
          have gq := Lib.hid (show ∀ q, x = some q → q < 256 from fun q e => gI.out.2.1 q (by rw [← e]; exact List.mem_of_getElem? hx))
          clear hx
          cases x with
          | none =>
            have d1 : wr.cell? ⟨Z, k, none⟩ = some (.int .i64 (-1)) := d0
            clear d0
            go_wp2_with fail
            refine (h_priority_none gI.out k gy.out).mono ?_
            rintro e w6 ⟨rfl, rfl⟩
            go_wp2
            exact ⟨⟨k + 1, by omega, by simp, gI.out⟩, by simp [intOf]; omega⟩
          | some q =>
            have d1 : wr.cell? ⟨Z, k, none⟩ = some (.int .i64 (q : Nat)) := d0
            have r0 : (0 : Int) ≤ (q : Int) := by omega
            have rq := gq.out q rfl
            have r1 : (q : Int) % 256 = (q : Int) := by omega
            clear d0
            go_wp2_with fail
            refine (h_priority gI.out k q gy.out).mono ?_
            rintro e w6 ⟨rfl, rfl⟩
            go_wp2_with fail
            refine (letter_any q rq _).mono ?_
            rintro e w7 ⟨rfl, hB7⟩
            have g7 := Lib.hid (gI.out.below hB7)
            clear hB7
            go_wp2
            exact ⟨⟨k + 1, by omega, by simp, g7.out⟩, by simp [intOf]; omega⟩
        · obtain rfl : n = k := by omega
          clear hlt hk
          have gz := Lib.hid (show want2[i]? = some (some p1) from ge.out)
          go_wp2_with fail
          refine (h_removed gI.out i p1 gz.out).mono ?_
          rintro e w6 ⟨rfl, g6⟩
          have hl2 := gI.out.1
          have gl2 := Lib.hid gI.out.2.1
          go_wp2_with fail
          refine (h_gone i hl2 hi g6.out.2).mono ?_
          rintro e w7 ⟨rfl, rfl⟩
          go_wp2_with fail
          refine (letter_any p1 hp1' _).mono ?_
          rintro e w7 ⟨rfl, hB7⟩
          have g7 := Lib.hid (g6.out.2.below hB7)
          clear hB7
          go_wp2_with fail
          refine (h_gone2 i _ hl2 hi g7.out).mono ?_
          rintro e w8 ⟨rfl, rfl⟩
          obtain ⟨e0, e1⟩ := QBy.wish g7.out gz.out
          have gF := Lib.hid (cleared_row hl2 gl2.out i g7.out)
          go_wp2_with fail
          refine (h_len gF.out).mono ?_
          rintro e w10 ⟨rfl, rfl⟩
          go_wp2_with fail
          refine (count_any gF.out hn50).mono ?_
          rintro e w10 ⟨rfl, rfl⟩
          go_wp2_with fail
          refine (works_any _).mono ?_
          rintro e w11 ⟨rfl, hB11⟩
          go_wp2_with fail
          go_ret
          exact ⟨rfl, gF.out.bel.trans (hB11.mono gF.out.bel.size)⟩
theorem pqueueApart_walk (a0 : Int) (a1 : Option Addr) (len1 cap1 : Nat) (z1 : List Tu) (a2 : Int) (a3 : Int) (w : World) (w0 : (Lit.int .u8 a0).wf = true) (w1 : TS w a1 len1 z1) (c1 : len1 ≤ cap1 ∧ cap1 ≤ 9223372036854775807) (_w2 : (Lit.int .i64 a2).wf = true) (w3 : (Lit.int .u8 a3).wf = true) :
    Calls Try.prog 7 #[.int .u8 a0, .slice a1 len1 cap1, .int .i64 a2, .int .u8 a3] w fun e w' => e = .returned (.bool true) ∧ Below w.heap.size w w' := by
  obtain ⟨s, rfl, hs⟩ := u8_nat w0
  obtain ⟨p, rfl, hp⟩ := u8_nat w3
  exact apart_walk s hs a1 len1 cap1 z1 a2 p hp w w1 c1
end Go.Proofs.Ytfpolnokdebncaa
