/- The reference's New, Copy, From. -/
import Derived.Test.YtbcakennmnjlcaaRefOwn
import Derived.Deep.RegionHeld3
namespace Go.Proofs.Ytbcakennmnjlcaa
open Go.RowKit

/-- A new map. -/
def NewRef (w : World) (e : Ending) (w' : World) : Prop := e = .returned (.pointer (some ⟨w.heap.size, 0, none⟩)) ∧ RefOwn w' w.heap.size w.heap.size (.slice none 0 0) (.slice none 0 0) [] [] ∧ Below w.heap.size w w'
theorem nil_owns (w : World) (B e : Nat) : w.ownsRow B e 1 (.slice none 0 0) 0 [] := ⟨rfl, Or.inl ⟨rfl, rfl⟩⟩
set_option maxHeartbeats 400000 in
theorem rnew_any (w : World) : Calls Try.prog 12 #[] w (NewRef w) := by
  go_enter Try.func12, Try.ntmps12
  go_wp2
  go_ret
  exact ⟨rfl, ⟨Nat.le_refl _, heap_alloc_new _ _, nil_owns _ _ _, nil_owns _ _ _, fun g h => by cases h⟩, (Below.refl _ _).alloc (Nat.le_refl _) _⟩

/-- A copy: new memory, the same strings. -/
def CopyRef (w : World) (ks vs : List ByteArray) (e : Ending) (w' : World) : Prop := ∃ P vK vV, e = .returned (.pointer (some ⟨P, 0, none⟩)) ∧ RefOwn w' w.heap.size P vK vV ks vs ∧ Below w.heap.size w w'
set_option maxHeartbeats 400000 in
theorem rcopy_nil (w : World) : Calls Try.prog 18 #[.pointer none] w fun e w' => e = .returned (.pointer none) ∧ w = w' := by
  go_enter Try.func18, Try.ntmps18
  go_wp2_with (go_at_call 65; refine (rvalid_nil _).mono ?_; rintro e w' ⟨rfl, rfl⟩)
  go_ret
  exact ⟨rfl, rfl⟩
theorem empty_owns (w : World) {B : Nat} (h : B ≤ w.heap.size) : (w.alloc (.cells #[] 9)).ownsRow B 9 1 (.slice (some ⟨w.heap.size, 0, none⟩) 0 0) 0 [] :=
  ⟨rfl, Or.inr ⟨w.heap.size, 0, #[], rfl, h, heap_alloc_new _ _, Nat.le_refl _, Nat.zero_le _, rfl, rfl⟩⟩
theorem below_alloc (w : World) (o : Obj) : Below w.heap.size w (w.alloc o) := (Below.refl _ _).alloc (Nat.le_refl _) _
/-- A row that is no part of what grew stays. -/
theorem owns_grown {w w' : World} {B e n : Nat} {v : Value} {xs : List Value} {row : Option Nat} (h : w.ownsRow B e 1 v n xs) (hg : w.grownBy w' row) (hne : v.ownBlock ≠ row ∨ v = .slice none 0 0) : w'.ownsRow B e 1 v n xs := by
  refine ⟨h.1, ?_⟩
  rcases h.2 with h0 | ⟨g, cap, cur, hv, hb, hh, r⟩
  · exact Or.inl h0
  · have hlt : g < w.heap.size := by
      rcases Nat.lt_or_ge g w.heap.size with hlt | hge
      · exact hlt
      · rw [Array.getElem?_eq_none hge] at hh; cases hh
    have hne2 : some g ≠ row := by
      rcases hne with hne | hne
      · rw [hv] at hne; exact hne
      · rw [hv] at hne; cases hne
    exact Or.inr ⟨g, cap, cur, hv, hb, (hg.block g hlt hne2).trans hh, r⟩
theorem owns_drew {w : World} {B e n : Nat} {v : Value} {xs : List Value} (h : w.ownsRow B e 1 v n xs) : w.drew.ownsRow B e 1 v n xs := h
theorem empty_owns2 (w : World) (o : Obj) : ((w.alloc o).alloc (.cells #[] 9)).ownsRow w.heap.size 9 1 (.slice (some ⟨w.heap.size + 1, 0, none⟩) 0 0) 0 [] := by
  have := empty_owns (w.alloc o) (B := w.heap.size) (by simp)
  rwa [show (w.alloc o).heap.size = w.heap.size + 1 from by simp] at this
theorem owns_lt {w : World} {B e n g : Nat} {v : Value} {xs : List Value} (h : w.ownsRow B e 1 v n xs) (hv : v.ownBlock = some g) : B ≤ g ∧ g < w.heap.size := by
  rcases h.2 with ⟨h0, _⟩ | ⟨g', cap, cur, hv', hb, hh, _⟩
  · rw [h0] at hv; cases hv
  · rw [hv'] at hv
    obtain rfl : g' = g := by simpa [Value.ownBlock] using hv
    refine ⟨hb, ?_⟩
    rcases Nat.lt_or_ge g' w.heap.size with hlt | hge
    · exact hlt
    · rw [Array.getElem?_eq_none hge] at hh; cases hh

set_option maxHeartbeats 2000000 in
theorem rcopy_any (B P : Nat) (vK vV : Value) (ks vs : List ByteArray) (w : World) (h : RefOwn w B P vK vV ks vs) (hlen : ks.length ≤ 1000000) :
    Calls Try.prog 18 #[.pointer (some ⟨P, 0, none⟩)] w (CopyRef w ks vs) := by
  obtain ⟨A1, c1, A2, c2, rfl, rfl, n1, n2, hm, hK, hV, rK, rV, hc1, hc2⟩ := h.at
  have gK := Lib.hid rK
  have gV := Lib.hid rV
  have g1 := Lib.hid n1
  have g2 := Lib.hid n2
  clear rK rV n1 n2 h
  obtain ⟨n, hn⟩ : ∃ n, n = ks.length := ⟨_, rfl⟩
  rw [← hn] at hK hV hc1 hc2 gK gV g1 g2 hlen
  have gn := Lib.hid hn
  clear hn
  go_enter Try.func18, Try.ntmps18
  go_wp2_with (go_at_call 65; refine (rvalid_any P _ hm).mono ?_; rintro e w' ⟨rfl, rfl⟩)
  have b1 := Lib.hid ((below_alloc w (.cells #[] 9)).drew)
  have b2 := Lib.hid (((below_alloc w (.cells #[] 9)).alloc (by simp) (.cells #[] 9)).drew)
  have e1 := Lib.hid (owns_drew (empty_owns w (Nat.le_refl _)))
  have e2 := Lib.hid (owns_drew (owns_below (empty_owns w (Nat.le_refl _)) (below_alloc (w.alloc (.cells #[] 9)) (.cells #[] 9))))
  have e3 := Lib.hid (owns_drew (empty_owns2 w (.cells #[] 9)))
  go_region_held3 (fun w' => w'.cell? ⟨P, 1, none⟩ = some (.slice A1 n c1) ∧ w'.cell? ⟨P, 2, none⟩ = some (.slice A2 n c2)) (first | go_keep | exact ⟨k1.out, k2.out⟩ | exact ⟨k3.out, k4.out⟩)
    (first
    | (refine step_app _ rfl (.tmp 6) (.tmp 10) rfl w.heap.size _ 0 [] ?hs e1.out A1 n c1 ks rfl (gK.out.below b1.out) g1.out (by omega) (by simp) ?_
       case hs => rfl
       intro v1 w1 hown1 hg1 hat1
       have bA := Lib.hid (b1.out.grown hg1 (by simp) (by simp [Value.ownBlock]))
       have k1 := Lib.hid ((bA.out.cell (lt_of_cell hK)).trans hK)
       have k2 := Lib.hid ((bA.out.cell (lt_of_cell hV)).trans hV)
       have f1 := Lib.hid (empty_owns w1 (B := w.heap.size) bA.out.size)
       have bW := Lib.hid (bA.out.alloc bA.out.size (.cells #[] 9))
       have o1 := Lib.hid (owns_below hown1 (below_alloc w1 (.cells #[] 9)))
       have hdis := Lib.hid (show v1.ownBlock ≠ some w1.heap.size from fun h => by have := (owns_lt hown1 h).2; omega)
       obtain ⟨A3, c3, rfl, _, _, _, _⟩ := owns_sn (l := ks) (show w1.ownsRow w.heap.size 9 1 v1 (0 + n) (sv ks) from hown1)
       clear hown1 hg1 hat1)
    | (refine step_app _ rfl (.tmp 6) (.tmp 10) rfl w.heap.size _ 0 [] ?hs e2.out A1 n c1 ks rfl (gK.out.below b2.out) g1.out (by omega) (by simp <;> omega) ?_
       case hs => rfl
       intro v1 w1 hown1 hg1 hat1
       have bA := Lib.hid (b2.out.grown hg1 (by simp <;> omega) (by simp [Value.ownBlock]))
       have k1 := Lib.hid ((bA.out.cell (lt_of_cell hK)).trans hK)
       have k2 := Lib.hid ((bA.out.cell (lt_of_cell hV)).trans hV)
       have f1 := Lib.hid (owns_grown e3.out hg1 (Or.inl (by simp [Value.ownBlock])))
       have bW := Lib.hid bA.out
       have o1 := Lib.hid hown1
       have hdis := Lib.hid (show v1.ownBlock ≠ some (w.heap.size + 1) from fun h => by rcases hat1 with h1 | h1 <;> rw [h] at h1 <;> simp [Value.ownBlock] at h1)
       obtain ⟨A3, c3, rfl, _, _, _, _⟩ := owns_sn (l := ks) (show w1.ownsRow w.heap.size 9 1 v1 (0 + n) (sv ks) from hown1)
       clear hown1 hg1 hat1)
    | (refine step_app _ rfl (.tmp 6) (.tmp 10) rfl w.heap.size _ 0 [] ?hs e3.out A1 n c1 ks rfl (gK.out.below b2.out) g1.out (by omega) (by simp <;> omega) ?_
       case hs => rfl
       intro v1 w1 hown1 hg1 hat1
       have bA := Lib.hid (b2.out.grown hg1 (by simp <;> omega) (by simp [Value.ownBlock]))
       have k1 := Lib.hid ((bA.out.cell (lt_of_cell hK)).trans hK)
       have k2 := Lib.hid ((bA.out.cell (lt_of_cell hV)).trans hV)
       have f1 := Lib.hid (owns_grown e2.out hg1 (Or.inl (by simp [Value.ownBlock])))
       have bW := Lib.hid bA.out
       have o1 := Lib.hid hown1
       have hdis := Lib.hid (show v1.ownBlock ≠ some w.heap.size from fun h => by rcases hat1 with h1 | h1 <;> rw [h] at h1 <;> simp [Value.ownBlock] at h1 <;> omega)
       obtain ⟨A3, c3, rfl, _, _, _, _⟩ := owns_sn (l := ks) (show w1.ownsRow w.heap.size 9 1 v1 (0 + n) (sv ks) from hown1)
       clear hown1 hg1 hat1)
    | (refine step_app _ rfl (.tmp 12) (.tmp 16) rfl w.heap.size _ 0 [] ?hs f1.out A2 n c2 vs rfl (gV.out.below bW.out) g2.out (by omega) bW.out.size ?_
       case hs => rfl
       intro v2 w2 hown2 hg2 hat2
       have o2 := Lib.hid (owns_grown o1.out hg2 (Or.inl hdis.out))
       have hne := Lib.hid (show ∀ g, (Value.slice A3 (0 + n) c3).ownBlock = some g → v2.ownBlock ≠ some g from fun g h1 h2 => by
         rcases hat2 with h | h
         · rw [h2] at h
           exact hdis.out (h1.trans h)
         · rw [h2] at h
           have := (owns_lt o1.out h1).2
           have h' := Option.some.inj h
           omega)
       have bB := Lib.hid (bW.out.grown hg2 bW.out.size (fun k hk => (owns_lt f1.out hk).1))
       have k3 := Lib.hid ((bB.out.cell (lt_of_cell hK)).trans hK)
       have k4 := Lib.hid ((bB.out.cell (lt_of_cell hV)).trans hV)
       have gown2 := Lib.hid hown2
       obtain ⟨A4, c4, rfl, _, _, _, _⟩ := owns_sn (l := vs) (show w2.ownsRow w.heap.size 9 1 v2 (0 + n) (sv vs) from hown2)
       clear hown2 hg2 hat2))
  all_goals go_wp2_with fail
  all_goals rw [Nat.zero_add] at o2 gown2 hne
  all_goals obtain rfl := gn.out
  all_goals go_ret
  all_goals exact ⟨w2.heap.size, _, _, rfl, ⟨bB.out.size, heap_alloc_new _ _, owns_below o2.out (below_alloc w2 _), owns_below gown2.out (below_alloc w2 _), hne.out⟩, bB.out.alloc bB.out.size _⟩
end Go.Proofs.Ytbcakennmnjlcaa
