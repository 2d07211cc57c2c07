/- Rank, find, Get, At, last, Floor. -/
import Derived.Test.YtmjdkmdpegcalaaISBase
import Derived.Shelf.Lay
namespace Go.Proofs.Ytmjdkmdpegcalaa.IS
open Go.RowKit Go.Shelf Go.Sort Go.Lib

theorem below_grown (w : World) (m : Nat) (os : Array Obj) : Below w.heap.size w (grow (w.drewN m) os) := below_grown_sl w.heap.size w m os (Nat.le_refl _)
theorem geq_lt (a b : Int) : decide (b ≤ a) = !lt a b := by
  unfold lt
  by_cases h : a < b
  · rw [decide_eq_true h, decide_eq_false (by omega)]; rfl
  · rw [decide_eq_false h, decide_eq_true (by omega)]; rfl
theorem gtr_lt (a b : K) : decide (b < a) = lt b a := rfl
theorem bool_ret {a b : Bool} (h : a = b) : Ending.returned (.bool a) = .returned (.bool b) := by rw [h]

set_option maxHeartbeats 2000000 in
theorem rank1_any (ba bx : Nat) (A : Option Addr) (c : Nat) (l : List (K × V)) (k : K) (i : Nat) (W : World) (hi : i < l.length)
    (ha : W.cell? ⟨ba, 0, none⟩ = some (.slice A l.length c)) (hx : W.cell? ⟨bx, 0, none⟩ = some (.int .i64 (k))) (hc : IT W A l.length l) :
    Calls Try.prog 132 (#[.int .i64 i] ++ #[.pointer (some ⟨ba, 0, none⟩), .pointer (some ⟨bx, 0, none⟩)]) W fun e w' => e = .returned (.bool (!lt (l.getD i z0).1 k)) ∧ ∃ q, w' = W.drewN q := by
  obtain ⟨b, o, rfl, _, h1, _⟩ := hc.at hi
  clear hc
  generalize (l.getD i z0).1 = y at h1 ⊢
  have hiz : (i : Int) < (l.length : Int) := by omega
  go_enter Try.func132, Try.ntmps132
  go_wp2
  go_region
  all_goals go_wp2
  all_goals go_ret
  all_goals exact ⟨bool_ret (geq_lt y k), 1, rfl⟩
set_option maxHeartbeats 2000000 in
theorem floor1_any (ba bx : Nat) (A : Option Addr) (c : Nat) (l : List (K × V)) (k : K) (i : Nat) (W : World) (hi : i < l.length)
    (ha : W.cell? ⟨ba, 0, none⟩ = some (.slice A l.length c)) (hx : W.cell? ⟨bx, 0, none⟩ = some (.int .i64 (k))) (hc : IT W A l.length l) :
    Calls Try.prog 124 (#[.int .i64 i] ++ #[.pointer (some ⟨ba, 0, none⟩), .pointer (some ⟨bx, 0, none⟩)]) W fun e w' => e = .returned (.bool (lt k (l.getD i z0).1)) ∧ ∃ q, w' = W.drewN q := by
  obtain ⟨b, o, rfl, _, h1, _⟩ := hc.at hi
  clear hc
  generalize (l.getD i z0).1 = y at h1 ⊢
  have hiz : (i : Int) < (l.length : Int) := by omega
  go_enter Try.func124, Try.ntmps124
  go_wp2
  go_region
  all_goals go_wp2
  all_goals go_ret
  all_goals exact ⟨bool_ret (gtr_lt y k), 1, rfl⟩

theorem countP_keys (l : List (K × V)) (p : K → Bool) : (List.range l.length).countP (fun i => p (l.getD i z0).1) = (keysOf l).countP p := by
  have h := Lib.countP_range l.toArray (fun x => p x.1)
  have e : (keysOf l).countP p = l.countP (fun x => p x.1) := by unfold keysOf; rw [List.countP_map]; rfl
  rw [e]
  have h2 : l.toArray.toList.countP (fun x => p x.1) = l.countP (fun x => p x.1) := rfl
  rw [← h2, ← h]
  refine List.countP_congr fun i hi => ?_
  have hi' : i < l.length := List.mem_range.1 hi
  simp [hi']
set_option maxHeartbeats 2000000 in
/-- sort.Search with Rank's closure. -/
theorem search_rank (ba bx : Nat) (A : Option Addr) (c : Nat) (l : List (K × V)) (k : K) (w : World) (hasc : Asc lt (keysOf l)) (hlen : l.length ≤ 1000000)
    (ha : w.cell? ⟨ba, 0, none⟩ = some (.slice A l.length c)) (hx : w.cell? ⟨bx, 0, none⟩ = some (.int .i64 (k))) (hc : IT w A l.length l) :
    Calls Try.prog 98 #[.int .i64 (l.length : Nat), .func (.func 132) #[] #[.pointer (some ⟨ba, 0, none⟩), .pointer (some ⟨bx, 0, none⟩)]] w fun e w' => e = .returned (.int .i64 (rkB lt (keysOf l) k : Nat)) ∧ Below w.heap.size w w' := by
  have hS := Any.sort_Search Try.search 132 #[.pointer (some ⟨ba, 0, none⟩), .pointer (some ⟨bx, 0, none⟩)] l.length (fun i => !lt (l.getD i z0).1 k) w (enters_of Try.func132 (by kernel_rfl) rfl) (by omega)
    (fun m os i hi => (rank1_any ba bx A c l k i _ hi (((below_grown w m os).cell (lt_of_cell ha)).trans ha) (((below_grown w m os).cell (lt_of_cell hx)).trans hx) (hc.below (below_grown w m os))).mono
      fun _ _ ⟨he, q, hq⟩ => ⟨he, q, #[], by rw [hq, grow_empty]⟩)
    (fun a b hab hb h => by
      have e1 : ∀ j (hj : j < l.length), (l.getD j z0).1 = (keysOf l)[j]'(by simpa using hj) := fun j hj => by simp [hj]
      rw [e1 b hb, rkB_iff kord hasc k]
      rw [e1 a (by omega), rkB_iff kord hasc k] at h
      simp at h ⊢; omega)
  refine hS.mono ?_
  rintro e w' ⟨rfl, q, os, rfl⟩
  refine ⟨?_, below_grown w q os⟩
  simp only [Bool.not_not]
  rw [countP_keys l (fun x => lt x k)]
  rfl
set_option maxHeartbeats 2000000 in
theorem search_floor (ba bx : Nat) (A : Option Addr) (c : Nat) (l : List (K × V)) (k : K) (w : World) (hasc : Asc lt (keysOf l)) (hlen : l.length ≤ 1000000)
    (ha : w.cell? ⟨ba, 0, none⟩ = some (.slice A l.length c)) (hx : w.cell? ⟨bx, 0, none⟩ = some (.int .i64 (k))) (hc : IT w A l.length l) :
    Calls Try.prog 98 #[.int .i64 (l.length : Nat), .func (.func 124) #[] #[.pointer (some ⟨ba, 0, none⟩), .pointer (some ⟨bx, 0, none⟩)]] w fun e w' => e = .returned (.int .i64 (rkL lt (keysOf l) k : Nat)) ∧ Below w.heap.size w w' := by
  have hS := Any.sort_Search Try.search 124 #[.pointer (some ⟨ba, 0, none⟩), .pointer (some ⟨bx, 0, none⟩)] l.length (fun i => lt k (l.getD i z0).1) w (enters_of Try.func124 (by kernel_rfl) rfl) (by omega)
    (fun m os i hi => (floor1_any ba bx A c l k i _ hi (((below_grown w m os).cell (lt_of_cell ha)).trans ha) (((below_grown w m os).cell (lt_of_cell hx)).trans hx) (hc.below (below_grown w m os))).mono
      fun _ _ ⟨he, q, hq⟩ => ⟨he, q, #[], by rw [hq, grow_empty]⟩)
    (fun a b hab hb h => by
      have e1 : ∀ j (hj : j < l.length), (l.getD j z0).1 = (keysOf l)[j]'(by simpa using hj) := fun j hj => by simp [hj]
      have h1 := rkL_iff kord hasc k (j := a) (by simp; omega)
      have h2 := rkL_iff kord hasc k (j := b) (by simpa using hb)
      rw [e1 a (by omega)] at h
      rw [h] at h1
      rw [e1 b hb]
      cases hq : lt k ((keysOf l)[b]'(by simpa using hb)) with
      | true => rfl
      | false =>
        rw [hq] at h2
        simp at h1 h2; omega)
  refine hS.mono ?_
  rintro e w' ⟨rfl, q, os, rfl⟩
  refine ⟨?_, below_grown w q os⟩
  rw [countP_keys l (fun x => !lt k x)]
  rfl

theorem below2 (w : World) (o1 o2 : Obj) : Below w.heap.size w ((w.alloc o1).alloc o2) := ((Below.refl _ w).alloc (Nat.le_refl _) o1).alloc (by simp) o2
set_option maxHeartbeats 2000000 in
theorem rank_any (p : Option Addr) (A : Option Addr) (c : Nat) (l : List (K × V)) (k : K) (w : World) (h : Has w p A c l) :
    Calls Try.prog 60 #[.pointer p, (.int .i64 (k))] w fun e w' => e = .returned (.int .i64 (rkB lt (keysOf l) k : Nat)) ∧ Below w.heap.size w w' := by
  have g := Lib.hid h
  clear h
  obtain ⟨r, hr⟩ : ∃ r, r = rkB lt (keysOf l) k := ⟨_, rfl⟩
  rw [← hr]
  have gr := Lib.hid hr
  clear hr
  have s1 := Lib.hid (g.out.below (((Below.refl _ w).alloc (Nat.le_refl _) (.cells #[(.int .i64 (k))] 3))))
  have b2 := Lib.hid (below2 w (.cells #[(.int .i64 (k))] 3) (.cells #[.slice A l.length c] 173))
  have cx := Lib.hid (cell_alloc_sl (.cells #[.slice A l.length c] 173) (cell_new_sl w (.int .i64 (k)) 3))
  have ca := Lib.hid (by have := cell_new_sl (w.alloc (.cells #[(.int .i64 (k))] 3)) (.slice A l.length c) 173; rwa [World.size_alloc] at this : ((w.alloc (.cells #[(.int .i64 (k))] 3)).alloc (.cells #[.slice A l.length c] 173)).cell? ⟨w.heap.size + 1, 0, none⟩ = some (.slice A l.length c))
  go_enter Try.func60, Try.ntmps60
  go_wp2_with (first
    | (go_at_call 123; refine (sorted_any _ A c l _ s1.out).mono ?_; rintro e w' ⟨rfl, rfl⟩)
    | (go_at_call 98; refine (search_rank _ _ A c l k _ g.out.asc g.out.len ca.out cx.out (g.out.it.below b2.out)).mono ?_; rintro e w' ⟨rfl, hB⟩; rw [← gr.out]))
  go_ret
  exact ⟨rfl, b2.out.trans (hB.mono b2.out.size)⟩

theorem key_beq (a b : K) : (a == b) = (a == b) := rfl
/-- What find says. -/
def FindOf (w : World) (l : List (K × V)) (k : K) (e : Ending) (w' : World) : Prop := e = .returned (.tuple #[.int .i64 (rkB lt (keysOf l) k : Nat), .bool (hasB lt (keysOf l) k)]) ∧ Below w.heap.size w w'
set_option maxHeartbeats 2000000 in
theorem find_any (p : Option Addr) (A : Option Addr) (c : Nat) (l : List (K × V)) (k : K) (w : World) (h : Has w p A c l) :
    Calls Try.prog 121 #[.pointer p, (.int .i64 (k))] w (FindOf w l k) := by
  have g := Lib.hid h
  unfold FindOf
  have hle := rkB_le (lt := lt) (keysOf l) k
  have hkl : (keysOf l).length = l.length := by simp
  rw [hkl] at hle
  have hc := h.cap
  by_cases hlt : rkB lt (keysOf l) k < l.length
  · have e1 : hasB lt (keysOf l) k = ((l.getD (rkB lt (keysOf l) k) z0).1 == k) := by rw [hasB_eq (by rw [hkl]; exact hlt)]; simp [hlt]
    rw [e1]
    obtain ⟨b, o, rfl, hbw, h1, _⟩ := h.it.at hlt
    rw [← key_beq]
    generalize (l.getD (rkB lt (keysOf l) k) z0).1 = y at h1 ⊢
    clear h e1 hkl
    obtain ⟨r, hr⟩ : ∃ r, r = rkB lt (keysOf l) k := ⟨_, rfl⟩
    rw [← hr] at hle hlt h1 ⊢
    have gr := Lib.hid hr
    clear hr
    obtain ⟨n, hn⟩ : ∃ n, n = l.length := ⟨_, rfl⟩
    rw [← hn] at hle hlt hc
    have gn := Lib.hid hn
    clear hn
    have i0 : (0 : Int) ≤ (r : Int) := by omega
    have i1 : (r : Int) < (n : Int) := by omega
    go_enter Try.func121, Try.ntmps121
    go_wp2_with (first
      | (go_at_call 123; refine (sorted_any _ _ c l _ g.out).mono ?_; rintro e w' ⟨rfl, rfl⟩; rw [← gn.out])
      | (go_at_call 60; refine (rank_any _ _ c l k _ g.out).mono ?_; rintro e w' ⟨rfl, hB⟩; rw [← gr.out]; have h1' := (hB.cell hbw).trans h1))
    go_quiet (fail)
    all_goals go_wp2_with fail
    all_goals go_ret2
    all_goals exact ⟨rfl, by first | exact hB | exact hB.drew | exact hB.trans ⟨rfl, rfl, rfl, Nat.le_refl _, fun _ _ => rfl⟩⟩
  · have e1 : hasB lt (keysOf l) k = false := hasB_false (by rw [hkl]; omega)
    rw [e1]
    clear h e1 hkl
    obtain ⟨r, hr⟩ : ∃ r, r = rkB lt (keysOf l) k := ⟨_, rfl⟩
    rw [← hr] at hle hlt ⊢
    have gr := Lib.hid hr
    clear hr
    obtain ⟨n, hn⟩ : ∃ n, n = l.length := ⟨_, rfl⟩
    rw [← hn] at hle hlt hc
    have gn := Lib.hid hn
    clear hn
    have i0 : decide ((r : Int) < (n : Int)) = false := by simp; omega
    have i1 : decide (r < n) = false := by simp; omega
    go_enter Try.func121, Try.ntmps121
    go_wp2_with (first
      | (go_at_call 123; refine (sorted_any _ _ c l _ g.out).mono ?_; rintro e w' ⟨rfl, rfl⟩; rw [← gn.out])
      | (go_at_call 60; refine (rank_any _ _ c l k _ g.out).mono ?_; rintro e w' ⟨rfl, hB⟩; rw [← gr.out]))
    go_quiet (fail)
    all_goals go_wp2_with fail
    all_goals go_ret2
    all_goals exact ⟨rfl, by first | exact hB | exact hB.drew | exact hB.trans ⟨rfl, rfl, rfl, Nat.le_refl _, fun _ _ => rfl⟩⟩
end Go.Proofs.Ytmjdkmdpegcalaa.IS
