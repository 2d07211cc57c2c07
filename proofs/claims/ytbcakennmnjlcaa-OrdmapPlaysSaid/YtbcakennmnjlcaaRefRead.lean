/- The reference's map of chapter 3: what lies in memory; the functions that only read. -/
import Derived.Test.YtbcakennmnjlcaaChecked
import Derived.WalkKit
import Derived.WalkSpells
import Derived.WalkLawsBesides
import Derived.Handy
import Derived.Lib.Hide
import Derived.Outline
import Derived.Laws.CopyOwn
import Derived.Deep.Draws
import Derived.BigQuiet
namespace Go.Proofs.Ytbcakennmnjlcaa
open Go.RowKit

/-- The strings of a slice. -/
def SN (w : World) (A : Option Addr) (n : Nat) (l : List ByteArray) : Prop :=
  l.length = n ∧ (0 < n → ∃ b o, A = some ⟨b, o, none⟩ ∧ ∀ i, i < n → w.cell? ⟨b, o + i, none⟩ = some (.string (l.getD i ⟨#[]⟩)))

/-- The reference's map at block P: keys, values. -/
structure RefAt (w : World) (P : Nat) (A1 : Option Addr) (c1 : Nat) (A2 : Option Addr) (c2 : Nat) (ks vs : List ByteArray) : Prop where
  made : w.cell? ⟨P, 0, none⟩ = some (.bool true)
  cK : w.cell? ⟨P, 1, none⟩ = some (.slice A1 ks.length c1)
  cV : w.cell? ⟨P, 2, none⟩ = some (.slice A2 ks.length c2)
  rK : SN w A1 ks.length ks
  rV : SN w A2 ks.length vs
  cap1 : ks.length ≤ c1 ∧ c1 ≤ 9223372036854775807
  cap2 : ks.length ≤ c2 ∧ c2 ≤ 9223372036854775807

theorem lt_of_cell {w : World} {b o : Nat} {v : Value} (h : w.cell? ⟨b, o, none⟩ = some v) : b < w.heap.size := by
  rcases Nat.lt_or_ge b w.heap.size with hlt | hge
  · exact hlt
  · simp [World.cell?, Array.getElem?_eq_none hge] at h
theorem bchain {w a b : World} (h : Below w.heap.size w a) (k : Below a.heap.size a b) : Below w.heap.size w b := h.trans (k.mono h.size)
theorem SN.below {w w' : World} {A : Option Addr} {n : Nat} {l : List ByteArray} (h : SN w A n l) (hb : Below w.heap.size w w') : SN w' A n l := by
  refine ⟨h.1, fun hn => ?_⟩
  obtain ⟨b, o, rfl, hc⟩ := h.2 hn
  exact ⟨b, o, rfl, fun i hi => (hb.cell (lt_of_cell (hc i hi))).trans (hc i hi)⟩
theorem RefAt.below {w w' : World} {P : Nat} {A1 : Option Addr} {c1 : Nat} {A2 : Option Addr} {c2 : Nat} {ks vs : List ByteArray} (h : RefAt w P A1 c1 A2 c2 ks vs) (hb : Below w.heap.size w w') : RefAt w' P A1 c1 A2 c2 ks vs :=
  ⟨(hb.cell (lt_of_cell h.made)).trans h.made, (hb.cell (lt_of_cell h.cK)).trans h.cK, (hb.cell (lt_of_cell h.cV)).trans h.cV, h.rK.below hb, h.rV.below hb, h.cap1, h.cap2⟩

/-- The order of strings; how many keys are less; whether there is a key. -/
def blt (s t : ByteArray) : Bool := Op.bytesLess s.toList t.toList
def rk (ks : List ByteArray) (k : ByteArray) : Nat := ks.countP fun s => blt s k
def hasK (ks : List ByteArray) (k : ByteArray) : Bool := decide (rk ks k < ks.length) && ((ks.getD (rk ks k) ⟨#[]⟩).toList == k.toList)
theorem rk_le (ks : List ByteArray) (k : ByteArray) : rk ks k ≤ ks.length := List.countP_le_length
theorem rk_take (ks : List ByteArray) (k : ByteArray) {j : Nat} (h : j < ks.length) : rk (ks.take (j + 1)) k = rk (ks.take j) k + if blt (ks.getD j ⟨#[]⟩) k then 1 else 0 := by
  unfold rk
  rw [List.take_add_one, List.getElem?_eq_getElem h, List.countP_append]
  simp [h, List.countP_cons]
/-- The key and value with an index, and whether there is one. -/
def atK (ks : List ByteArray) (i : Int) : ByteArray := if 0 ≤ i ∧ i < ks.length then ks.getD i.toNat ⟨#[]⟩ else ⟨#[]⟩
def atE (ks : List ByteArray) (i : Int) : Int := if 0 ≤ i ∧ i < ks.length then 0 else 3
def atB (ks : List ByteArray) (i : Int) : Bool := decide (0 ≤ i ∧ i < ks.length)

set_option maxHeartbeats 400000 in
theorem rvalid_nil (w : World) : Calls Try.prog 65 #[.pointer none] w fun e w' => e = .returned (.bool false) ∧ w = w' := by
  go_enter Try.func65, Try.ntmps65
  go_wp2
  go_ret
  exact ⟨rfl, rfl⟩
set_option maxHeartbeats 400000 in
theorem rvalid_any (P : Nat) (w : World) (h : w.cell? ⟨P, 0, none⟩ = some (.bool true)) : Calls Try.prog 65 #[.pointer (some ⟨P, 0, none⟩)] w fun e w' => e = .returned (.bool true) ∧ w = w' := by
  go_enter Try.func65, Try.ntmps65
  go_wp2
  go_ret
  exact ⟨rfl, rfl⟩

set_option maxHeartbeats 400000 in
theorem rrank_nil (k : ByteArray) (w : World) : Calls Try.prog 20 #[.pointer none, .string k] w fun e w' => e = .returned (.int .i64 0) ∧ w = w' := by
  go_enter Try.func20, Try.ntmps20
  go_wp2_with (go_at_call 65; refine (rvalid_nil _).mono ?_; rintro e w' ⟨rfl, rfl⟩)
  go_ret
  exact ⟨rfl, rfl⟩
set_option maxHeartbeats 400000 in
theorem rrank_any (P : Nat) (A1 : Option Addr) (c1 : Nat) (A2 : Option Addr) (c2 : Nat) (ks vs : List ByteArray) (k : ByteArray) (w : World) (h : RefAt w P A1 c1 A2 c2 ks vs) :
    Calls Try.prog 20 #[.pointer (some ⟨P, 0, none⟩), .string k] w fun e w' => e = .returned (.int .i64 (rk ks k : Nat)) ∧ w = w' := by
  obtain ⟨hm, hK, hV, rK, rV, hc1, hc2⟩ := h
  have gK := Lib.hid rK
  clear hV rK rV
  obtain ⟨n, hn⟩ : ∃ n, n = ks.length := ⟨_, rfl⟩
  rw [← hn] at hK hc1 hc2 gK
  have gn := Lib.hid hn
  clear hn
  go_enter Try.func20, Try.ntmps20
  go_wp2_with (go_at_call 65; refine (rvalid_any P _ hm).mono ?_; rintro e w' ⟨rfl, rfl⟩)
  go_loop [5, 6] (fun m i => ∃ j : Nat, j ≤ n ∧ i = .int .i64 j ∧ m = .int .i64 (rk (ks.take j) k : Nat)) (fun _ i => n - (intOf i).toNat)
  case atStart => exact ⟨0, by omega, rfl, rfl⟩
  case round =>
    obtain ⟨j, hj, rfl, rfl⟩ := hrel
    by_cases hlt : j < n
    · obtain ⟨b, o, rfl, hc⟩ := gK.out.2 (by omega)
      have hcj := hc j hlt
      have hst := rk_take ks k (j := j) (by rw [← gn.out]; exact hlt)
      have hle := rk_le (ks.take j) k
      rw [List.length_take] at hle
      obtain ⟨x, hx⟩ : ∃ x, x = ks.getD j ⟨#[]⟩ := ⟨_, rfl⟩
      rw [← hx] at hcj hst
      obtain ⟨m, hm2⟩ : ∃ m, m = rk (ks.take j) k := ⟨_, rfl⟩
      rw [← hm2] at hst hle ⊢
      clear hc hx hm2
      cases ht : blt x k with
      | true =>
        have ht2 : Op.bytesLess x.toList k.toList = true := ht
        rw [ht] at hst
        have gst := Lib.hid hst
        clear hst ht
        go_wp2_with fail
        exact ⟨⟨j + 1, by omega, rfl, by rw [gst.out]; rfl⟩, by simp [intOf]; omega⟩
      | false =>
        have ht2 : Op.bytesLess x.toList k.toList = false := ht
        rw [ht] at hst
        have gst := Lib.hid hst
        clear hst ht
        go_wp2_with fail
        exact ⟨⟨j + 1, by omega, rfl, by rw [gst.out]; rfl⟩, by simp [intOf]; omega⟩
    · obtain rfl : j = n := by omega
      have e : ks.take j = ks := List.take_of_length_le (by rw [gn.out]; exact Nat.le_refl _)
      rw [e]
      go_wp2
      go_ret
      exact ⟨rfl, rfl⟩

set_option maxHeartbeats 400000 in
theorem rhas_nil (k : ByteArray) (w : World) : Calls Try.prog 66 #[.pointer none, .string k] w fun e w' => e = .returned (.bool false) ∧ w = w' := by
  go_enter Try.func66, Try.ntmps66
  go_wp2_with (first | (go_at_call 65; refine (rvalid_nil _).mono ?_; rintro e w' ⟨rfl, rfl⟩) | (go_at_call 20; refine (rrank_nil _ _).mono ?_; rintro e w' ⟨rfl, rfl⟩))
  go_ret
  exact ⟨rfl, rfl⟩
set_option maxHeartbeats 400000 in
theorem rhas_any (P : Nat) (A1 : Option Addr) (c1 : Nat) (A2 : Option Addr) (c2 : Nat) (ks vs : List ByteArray) (k : ByteArray) (w : World) (h : RefAt w P A1 c1 A2 c2 ks vs) :
    Calls Try.prog 66 #[.pointer (some ⟨P, 0, none⟩), .string k] w fun e w' => e = .returned (.bool (hasK ks k)) ∧ w = w' := by
  have gh := Lib.hid h
  obtain ⟨hm, hK, hV, rK, rV, hc1, hc2⟩ := h
  have gK := Lib.hid rK
  clear hV rK rV
  have hle := rk_le ks k
  by_cases hlt : rk ks k < ks.length
  · obtain ⟨b, o, rfl, hc⟩ := gK.out.2 (by omega)
    have hcj := hc _ hlt
    have e1 : hasK ks k = ((ks.getD (rk ks k) ⟨#[]⟩).toList == k.toList) := by unfold hasK; rw [decide_eq_true hlt]; rfl
    rw [e1]
    obtain ⟨x, hx⟩ : ∃ x, x = ks.getD (rk ks k) ⟨#[]⟩ := ⟨_, rfl⟩
    rw [← hx] at hcj ⊢
    clear hc hx e1
    obtain ⟨n, hn⟩ : ∃ n, n = ks.length := ⟨_, rfl⟩
    have gn := Lib.hid hn
    rw [← hn] at hK hc1 hc2 hlt hle
    obtain ⟨r, hr⟩ : ∃ r, r = rk ks k := ⟨_, rfl⟩
    have gr := Lib.hid hr
    rw [← hr] at hlt hle hcj
    clear hn hr
    go_enter Try.func66, Try.ntmps66
    go_wp2_with (first | (go_at_call 65; refine (rvalid_any P _ hm).mono ?_; rintro e w' ⟨rfl, rfl⟩) | (go_at_call 20; refine (rrank_any P _ _ _ _ ks vs k _ gh.out).mono ?_; rintro e w' ⟨rfl, rfl⟩; rw [← gr.out]))
    go_ret
    exact ⟨rfl, rfl⟩
  · have e1 : hasK ks k = false := by unfold hasK; rw [decide_eq_false hlt]; rfl
    rw [e1]
    obtain ⟨n, hn⟩ : ∃ n, n = ks.length := ⟨_, rfl⟩
    rw [← hn] at hK hc1 hc2 hlt hle
    obtain ⟨r, hr⟩ : ∃ r, r = rk ks k := ⟨_, rfl⟩
    have gr := Lib.hid hr
    rw [← hr] at hlt hle
    clear hn hr e1
    go_enter Try.func66, Try.ntmps66
    go_wp2_with (first | (go_at_call 65; refine (rvalid_any P _ hm).mono ?_; rintro e w' ⟨rfl, rfl⟩) | (go_at_call 20; refine (rrank_any P _ _ _ _ ks vs k _ gh.out).mono ?_; rintro e w' ⟨rfl, rfl⟩; rw [← gr.out]))
    go_ret
    exact ⟨rfl, rfl⟩

set_option maxHeartbeats 400000 in
theorem rlen_nil (w : World) : Calls Try.prog 81 #[.pointer none] w fun e w' => e = .returned (.int .i64 0) ∧ w = w' := by
  go_enter Try.func81, Try.ntmps81
  go_wp2_with (go_at_call 65; refine (rvalid_nil _).mono ?_; rintro e w' ⟨rfl, rfl⟩)
  go_ret
  exact ⟨rfl, rfl⟩
set_option maxHeartbeats 400000 in
theorem rlen_any (P : Nat) (A1 : Option Addr) (c1 : Nat) (A2 : Option Addr) (c2 : Nat) (ks vs : List ByteArray) (w : World) (h : RefAt w P A1 c1 A2 c2 ks vs) :
    Calls Try.prog 81 #[.pointer (some ⟨P, 0, none⟩)] w fun e w' => e = .returned (.int .i64 (ks.length : Nat)) ∧ w = w' := by
  obtain ⟨hm, hK, hV, rK, rV, hc1, hc2⟩ := h
  clear hV rK rV
  go_enter Try.func81, Try.ntmps81
  go_wp2_with (go_at_call 65; refine (rvalid_any P _ hm).mono ?_; rintro e w' ⟨rfl, rfl⟩)
  go_ret
  exact ⟨rfl, rfl⟩

set_option maxHeartbeats 400000 in
theorem rAt_nil (i : Int) (w : World) : Calls Try.prog 78 #[.pointer none, .int .i64 i] w fun e w' => e = .returned (.tuple #[.string ⟨#[]⟩, .string ⟨#[]⟩, .int .i64 1]) ∧ w = w' := by
  go_enter Try.func78, Try.ntmps78
  go_wp2_with (go_at_call 65; refine (rvalid_nil _).mono ?_; rintro e w' ⟨rfl, rfl⟩)
  go_ret3
  exact ⟨rfl, rfl⟩
set_option maxHeartbeats 800000 in
theorem rAt_any (P : Nat) (A1 : Option Addr) (c1 : Nat) (A2 : Option Addr) (c2 : Nat) (ks vs : List ByteArray) (i : Int) (w : World) (h : RefAt w P A1 c1 A2 c2 ks vs) :
    Calls Try.prog 78 #[.pointer (some ⟨P, 0, none⟩), .int .i64 i] w fun e w' => e = .returned (.tuple #[.string (atK ks i), .string (atK vs i), .int .i64 (atE ks i)]) ∧ Below w.heap.size w w' := by
  obtain ⟨hm, hK, hV, rK, rV, hc1, hc2⟩ := h
  have gK := Lib.hid rK
  have gV := Lib.hid rV
  have hlv : vs.length = ks.length := rV.1
  clear rK rV
  by_cases hin : 0 ≤ i ∧ i < ks.length
  · obtain ⟨j, rfl⟩ := Int.eq_ofNat_of_zero_le hin.1
    rw [show atE ks (j : Int) = 0 from if_pos hin, show atK ks (j : Int) = ks.getD j ⟨#[]⟩ from if_pos hin, show atK vs (j : Int) = vs.getD j ⟨#[]⟩ from if_pos (by omega)]
    have hj : j < ks.length := by omega
    obtain ⟨b, o, rfl, hc⟩ := gK.out.2 (by omega)
    obtain ⟨b', o', rfl, hc'⟩ := gV.out.2 (by omega)
    have d1 := hc j hj
    have d2 := hc' j hj
    clear hc hc' hin hlv
    obtain ⟨x, hx⟩ : ∃ x, x = ks.getD j ⟨#[]⟩ := ⟨_, rfl⟩
    obtain ⟨y, hy⟩ : ∃ x, x = vs.getD j ⟨#[]⟩ := ⟨_, rfl⟩
    rw [← hx] at d1 ⊢
    rw [← hy] at d2 ⊢
    clear hx hy
    obtain ⟨n, hn⟩ : ∃ n, n = ks.length := ⟨_, rfl⟩
    rw [← hn] at hK hV hc1 hc2 hj
    clear hn
    have b0 : (0 : Int) ≤ (j : Int) := by omega
    have b1 : (j : Int) < (n : Int) := by omega
    go_enter Try.func78, Try.ntmps78
    go_wp2_with (go_at_call 65; refine (rvalid_any P _ hm).mono ?_; rintro e w' ⟨rfl, rfl⟩)
    go_region
    all_goals go_wp2_with fail
    all_goals go_ret3
    all_goals exact ⟨rfl, (Below.refl _ _).drew⟩
  · rw [show atE ks i = 3 from if_neg hin, show atK ks i = ⟨#[]⟩ from if_neg hin, show atK vs i = ⟨#[]⟩ from if_neg (by omega)]
    obtain ⟨n, hn⟩ : ∃ n, n = ks.length := ⟨_, rfl⟩
    rw [← hn] at hK hc1 hin
    clear hn hV hc2 hlv
    by_cases h0 : i < 0
    · go_enter Try.func78, Try.ntmps78
      go_wp2_with (go_at_call 65; refine (rvalid_any P _ hm).mono ?_; rintro e w' ⟨rfl, rfl⟩)
      go_ret3
      exact ⟨rfl, Below.refl _ _⟩
    · have h1 : (n : Int) ≤ i := by omega
      go_enter Try.func78, Try.ntmps78
      go_wp2_with (go_at_call 65; refine (rvalid_any P _ hm).mono ?_; rintro e w' ⟨rfl, rfl⟩)
      go_ret3
      exact ⟨rfl, Below.refl _ _⟩

theorem atE_B (ks : List ByteArray) (i : Int) : (atE ks i == 0) = atB ks i := by
  unfold atE atB
  by_cases h : 0 ≤ i ∧ i < ks.length
  · rw [if_pos h, decide_eq_true h]; rfl
  · rw [if_neg h, decide_eq_false h]; rfl
set_option maxHeartbeats 400000 in
theorem rat_nil (i : Int) (w : World) : Calls Try.prog 138 #[.pointer none, .int .i64 i] w fun e w' => e = .returned (.tuple #[.string ⟨#[]⟩, .string ⟨#[]⟩, .bool false]) ∧ w = w' := by
  go_enter Try.func138, Try.ntmps138
  go_wp2_with (go_at_call 78; refine (rAt_nil _ _).mono ?_; rintro e w' ⟨rfl, rfl⟩)
  go_ret3
  exact ⟨rfl, rfl⟩
set_option maxHeartbeats 400000 in
theorem rat_any (P : Nat) (A1 : Option Addr) (c1 : Nat) (A2 : Option Addr) (c2 : Nat) (ks vs : List ByteArray) (i : Int) (w : World) (h : RefAt w P A1 c1 A2 c2 ks vs) :
    Calls Try.prog 138 #[.pointer (some ⟨P, 0, none⟩), .int .i64 i] w fun e w' => e = .returned (.tuple #[.string (atK ks i), .string (atK vs i), .bool (atB ks i)]) ∧ Below w.heap.size w w' := by
  have he := atE_B ks i
  go_enter Try.func138, Try.ntmps138
  go_wp2_with (go_at_call 78; refine (rAt_any P A1 c1 A2 c2 ks vs i _ h).mono ?_; rintro e w' ⟨rfl, hB⟩)
  go_ret3
  exact ⟨rfl, hB⟩

set_option maxHeartbeats 400000 in
theorem rmin_nil (w : World) : Calls Try.prog 75 #[.pointer none] w fun e w' => e = .returned (.tuple #[.string ⟨#[]⟩, .string ⟨#[]⟩, .bool false]) ∧ w = w' := by
  go_enter Try.func75, Try.ntmps75
  go_wp2_with (go_at_call 138; refine (rat_nil _ _).mono ?_; rintro e w' ⟨rfl, rfl⟩)
  go_ret3
  exact ⟨rfl, rfl⟩
set_option maxHeartbeats 400000 in
theorem rmin_any (P : Nat) (A1 : Option Addr) (c1 : Nat) (A2 : Option Addr) (c2 : Nat) (ks vs : List ByteArray) (w : World) (h : RefAt w P A1 c1 A2 c2 ks vs) :
    Calls Try.prog 75 #[.pointer (some ⟨P, 0, none⟩)] w fun e w' => e = .returned (.tuple #[.string (atK ks 0), .string (atK vs 0), .bool (atB ks 0)]) ∧ Below w.heap.size w w' := by
  go_enter Try.func75, Try.ntmps75
  go_wp2_with (go_at_call 138; refine (rat_any P A1 c1 A2 c2 ks vs 0 _ h).mono ?_; rintro e w' ⟨rfl, hB⟩)
  go_ret3
  exact ⟨rfl, hB⟩
set_option maxHeartbeats 400000 in
theorem rmax_nil (w : World) : Calls Try.prog 77 #[.pointer none] w fun e w' => e = .returned (.tuple #[.string ⟨#[]⟩, .string ⟨#[]⟩, .bool false]) ∧ w = w' := by
  go_enter Try.func77, Try.ntmps77
  go_wp2_with (first | (go_at_call 81; refine (rlen_nil _).mono ?_; rintro e w' ⟨rfl, rfl⟩) | (go_at_call 138; refine (rat_nil _ _).mono ?_; rintro e w' ⟨rfl, rfl⟩))
  go_ret3
  exact ⟨rfl, rfl⟩
set_option maxHeartbeats 400000 in
theorem rmax_any (P : Nat) (A1 : Option Addr) (c1 : Nat) (A2 : Option Addr) (c2 : Nat) (ks vs : List ByteArray) (w : World) (h : RefAt w P A1 c1 A2 c2 ks vs) :
    Calls Try.prog 77 #[.pointer (some ⟨P, 0, none⟩)] w fun e w' => e = .returned (.tuple #[.string (atK ks (ks.length - 1)), .string (atK vs (ks.length - 1)), .bool (atB ks (ks.length - 1))]) ∧ Below w.heap.size w w' := by
  have gh := Lib.hid h
  have hc := h.cap1
  clear h
  go_enter Try.func77, Try.ntmps77
  go_wp2_with (first | (go_at_call 81; refine (rlen_any P A1 c1 A2 c2 ks vs _ gh.out).mono ?_; rintro e w' ⟨rfl, rfl⟩) | (go_at_call 138; refine (rat_any P A1 c1 A2 c2 ks vs _ _ gh.out).mono ?_; rintro e w' ⟨rfl, hB⟩))
  go_ret3
  exact ⟨rfl, hB⟩
set_option maxHeartbeats 400000 in
theorem rceil_nil (k : ByteArray) (w : World) : Calls Try.prog 73 #[.pointer none, .string k] w fun e w' => e = .returned (.tuple #[.string ⟨#[]⟩, .string ⟨#[]⟩, .bool false]) ∧ w = w' := by
  go_enter Try.func73, Try.ntmps73
  go_wp2_with (first | (go_at_call 20; refine (rrank_nil _ _).mono ?_; rintro e w' ⟨rfl, rfl⟩) | (go_at_call 138; refine (rat_nil _ _).mono ?_; rintro e w' ⟨rfl, rfl⟩))
  go_ret3
  exact ⟨rfl, rfl⟩
set_option maxHeartbeats 400000 in
theorem rceil_any (P : Nat) (A1 : Option Addr) (c1 : Nat) (A2 : Option Addr) (c2 : Nat) (ks vs : List ByteArray) (k : ByteArray) (w : World) (h : RefAt w P A1 c1 A2 c2 ks vs) :
    Calls Try.prog 73 #[.pointer (some ⟨P, 0, none⟩), .string k] w fun e w' => e = .returned (.tuple #[.string (atK ks (rk ks k)), .string (atK vs (rk ks k)), .bool (atB ks (rk ks k))]) ∧ Below w.heap.size w w' := by
  have gh := Lib.hid h
  clear h
  go_enter Try.func73, Try.ntmps73
  go_wp2_with (first | (go_at_call 20; refine (rrank_any P A1 c1 A2 c2 ks vs k _ gh.out).mono ?_; rintro e w' ⟨rfl, rfl⟩) | (go_at_call 138; refine (rat_any P A1 c1 A2 c2 ks vs _ _ gh.out).mono ?_; rintro e w' ⟨rfl, hB⟩))
  go_ret3
  exact ⟨rfl, hB⟩

/-- The index that Floor asks for. -/
def flI (ks : List ByteArray) (k : ByteArray) : Int := if hasK ks k then rk ks k else (rk ks k : Int) - 1
set_option maxHeartbeats 400000 in
theorem rfloor_nil (k : ByteArray) (w : World) : Calls Try.prog 71 #[.pointer none, .string k] w fun e w' => e = .returned (.tuple #[.string ⟨#[]⟩, .string ⟨#[]⟩, .bool false]) ∧ w = w' := by
  go_enter Try.func71, Try.ntmps71
  go_wp2_with (first | (go_at_call 66; refine (rhas_nil _ _).mono ?_; rintro e w' ⟨rfl, rfl⟩) | (go_at_call 20; refine (rrank_nil _ _).mono ?_; rintro e w' ⟨rfl, rfl⟩) | (go_at_call 138; refine (rat_nil _ _).mono ?_; rintro e w' ⟨rfl, rfl⟩))
  go_ret3
  exact ⟨rfl, rfl⟩
set_option maxHeartbeats 400000 in
theorem rfloor_any (P : Nat) (A1 : Option Addr) (c1 : Nat) (A2 : Option Addr) (c2 : Nat) (ks vs : List ByteArray) (k : ByteArray) (w : World) (h : RefAt w P A1 c1 A2 c2 ks vs) :
    Calls Try.prog 71 #[.pointer (some ⟨P, 0, none⟩), .string k] w fun e w' => e = .returned (.tuple #[.string (atK ks (flI ks k)), .string (atK vs (flI ks k)), .bool (atB ks (flI ks k))]) ∧ Below w.heap.size w w' := by
  have gh := Lib.hid h
  have hc := h.cap1
  have hr := rk_le ks k
  clear h
  cases hh : hasK ks k with
  | true =>
    rw [show flI ks k = rk ks k from by unfold flI; rw [hh]; rfl]
    have hh2 := Lib.hid hh
    clear hh
    go_enter Try.func71, Try.ntmps71
    go_wp2_with (first | (go_at_call 66; refine (rhas_any P A1 c1 A2 c2 ks vs k _ gh.out).mono ?_; rintro e w' ⟨rfl, rfl⟩; rw [hh2.out]) | (go_at_call 20; refine (rrank_any P A1 c1 A2 c2 ks vs k _ gh.out).mono ?_; rintro e w' ⟨rfl, rfl⟩) | (go_at_call 138; refine (rat_any P A1 c1 A2 c2 ks vs _ _ gh.out).mono ?_; rintro e w' ⟨rfl, hB⟩))
    go_ret3
    exact ⟨rfl, hB⟩
  | false =>
    rw [show flI ks k = (rk ks k : Int) - 1 from by unfold flI; rw [hh]; rfl]
    have hh2 := Lib.hid hh
    clear hh
    go_enter Try.func71, Try.ntmps71
    go_wp2_with (first | (go_at_call 66; refine (rhas_any P A1 c1 A2 c2 ks vs k _ gh.out).mono ?_; rintro e w' ⟨rfl, rfl⟩; rw [hh2.out]) | (go_at_call 20; refine (rrank_any P A1 c1 A2 c2 ks vs k _ gh.out).mono ?_; rintro e w' ⟨rfl, rfl⟩) | (go_at_call 138; refine (rat_any P A1 c1 A2 c2 ks vs _ _ gh.out).mono ?_; rintro e w' ⟨rfl, hB⟩))
    go_ret3
    exact ⟨rfl, hB⟩

/-- The value of a key. -/
def getV (ks vs : List ByteArray) (k : ByteArray) : ByteArray := if hasK ks k then vs.getD (rk ks k) ⟨#[]⟩ else ⟨#[]⟩
theorem hasK_lt {ks : List ByteArray} {k : ByteArray} (h : hasK ks k = true) : rk ks k < ks.length := by
  unfold hasK at h
  simp at h
  exact h.1
set_option maxHeartbeats 400000 in
theorem rget_nil (k : ByteArray) (w : World) : Calls Try.prog 68 #[.pointer none, .string k] w fun e w' => e = .returned (.tuple #[.string ⟨#[]⟩, .bool false]) ∧ w = w' := by
  go_enter Try.func68, Try.ntmps68
  go_wp2_with (go_at_call 66; refine (rhas_nil _ _).mono ?_; rintro e w' ⟨rfl, rfl⟩)
  go_ret2
  exact ⟨rfl, rfl⟩
set_option maxHeartbeats 800000 in
theorem rget_any (P : Nat) (A1 : Option Addr) (c1 : Nat) (A2 : Option Addr) (c2 : Nat) (ks vs : List ByteArray) (k : ByteArray) (w : World) (h : RefAt w P A1 c1 A2 c2 ks vs) :
    Calls Try.prog 68 #[.pointer (some ⟨P, 0, none⟩), .string k] w fun e w' => e = .returned (.tuple #[.string (getV ks vs k), .bool (hasK ks k)]) ∧ Below w.heap.size w w' := by
  have gh := Lib.hid h
  obtain ⟨hm, hK, hV, rK, rV, hc1, hc2⟩ := h
  have gV := Lib.hid rV
  clear hm hK rK rV hc1
  cases hh : hasK ks k with
  | true =>
    have hlt := hasK_lt hh
    rw [show getV ks vs k = vs.getD (rk ks k) ⟨#[]⟩ from by unfold getV; rw [hh]; rfl]
    obtain ⟨b, o, rfl, hc⟩ := gV.out.2 (by omega)
    have d2 := hc _ hlt
    obtain ⟨y, hy⟩ : ∃ x, x = vs.getD (rk ks k) ⟨#[]⟩ := ⟨_, rfl⟩
    rw [← hy] at d2 ⊢
    obtain ⟨n, hn⟩ : ∃ n, n = ks.length := ⟨_, rfl⟩
    rw [← hn] at hV hc2 hlt
    obtain ⟨r, hr⟩ : ∃ r, r = rk ks k := ⟨_, rfl⟩
    have gr := Lib.hid hr
    rw [← hr] at hlt d2
    have hh2 := Lib.hid hh
    clear hc hh hy hn hr
    have b0 : (0 : Int) ≤ (r : Int) := by omega
    have b1 : (r : Int) < (n : Int) := by omega
    go_enter Try.func68, Try.ntmps68
    go_wp2_with (go_at_call 66; refine (rhas_any P _ c1 _ c2 ks vs k _ gh.out).mono ?_; rintro e w' ⟨rfl, rfl⟩; rw [hh2.out])
    have gh2 := Lib.hid (gh.out.below ((Below.refl _ _).drew))
    go_region_with (go_at_call 20; refine (rrank_any P _ c1 _ c2 ks vs k _ gh2.out).mono ?_; rintro e w' ⟨rfl, rfl⟩; rw [← gr.out])
    all_goals go_wp2_with fail
    all_goals go_ret2
    all_goals exact ⟨rfl, (Below.refl _ _).drew⟩
  | false =>
    rw [show getV ks vs k = ⟨#[]⟩ from by unfold getV; rw [hh]; rfl]
    have hh2 := Lib.hid hh
    clear hh
    go_enter Try.func68, Try.ntmps68
    go_wp2_with (go_at_call 66; refine (rhas_any P A1 c1 A2 c2 ks vs k _ gh.out).mono ?_; rintro e w' ⟨rfl, rfl⟩; rw [hh2.out])
    go_ret2
    exact ⟨rfl, Below.refl _ _⟩
end Go.Proofs.Ytbcakennmnjlcaa
