/- The reference's From. -/
import Derived.Test.YtbcakennmnjlcaaRefNew
namespace Go.Proofs.Ytbcakennmnjlcaa
open Go.RowKit

theorem SN.dropA {w : World} {A : Option Addr} {n c r : Nat} {l : List ByteArray} (h : SN w A n l) (hr : r ≤ n) (hc : n ≤ c) (hnil : A = none → n = 0 ∧ c = 0) : SN w (if c = r then A else Option.map (fun x => x.add r) A) (n - r) (l.drop r) := by
  have hl := h.1
  rcases Nat.eq_zero_or_pos (n - r) with h0 | h0
  · rw [h0, List.drop_eq_nil_of_le (by omega)]
    exact SN.nil _ _
  · rw [if_neg (by omega)]
    obtain ⟨b, o, rfl, _⟩ := h.2 (by omega)
    have := h.drop hr
    rw [← add_plain] at this
    exact this
theorem dropA_none {A : Option Addr} {n c r : Nat} (hnil : A = none → n = 0 ∧ c = 0) : (if c = r then A else Option.map (fun x => x.add r) A) = none → n - r = 0 ∧ c - r = 0 := by
  intro h
  have hA : A = none := by
    split at h
    · exact h
    · simpa using h
  have := hnil hA
  omega

/-- The keys that are not less, and their values, in new memory. -/
def FromRef (w : World) (ks vs : List ByteArray) (e : Ending) (w' : World) : Prop := ∃ A3 c3 A4 c4, e = .returned (.tuple #[.slice A3 ks.length c3, .slice A4 ks.length c4]) ∧ SN w' A3 ks.length ks ∧ SN w' A4 ks.length vs ∧ ks.length ≤ c3 ∧ c3 ≤ 9223372036854775807 ∧ ks.length ≤ c4 ∧ c4 ≤ 9223372036854775807 ∧ Below w.heap.size w w'
theorem owns_slice {w : World} {B m c : Nat} {A : Option Addr} {l : List ByteArray} (h : w.ownsRow B 9 1 (.slice A m c) m (sv l)) : SN w A m l ∧ m ≤ c ∧ c ≤ 9223372036854775807 := by
  obtain ⟨A', c', e, _, h1, h2, h3⟩ := owns_sn h
  injection e with e1 _ e3
  subst e1 e3
  exact ⟨h3, h1, h2⟩
theorem from_ends {w w2 : World} {B n r : Nat} {ks vs : List ByteArray} {A3 A4 : Option Addr} {c3 c4 : Nat} (hn : n = ks.length)
    (o2 : w2.ownsRow B 9 1 (.slice A3 (n - r) c3) (n - r) ([] ++ sv (ks.drop r))) (o3 : w2.ownsRow B 9 1 (.slice A4 (n - r) c4) (n - r) ([] ++ sv (vs.drop r))) (hb : Below w.heap.size w w2) :
    FromRef w (ks.drop r) (vs.drop r) (.returned (.tuple #[.slice A3 (n - r) c3, .slice A4 (n - r) c4])) w2 := by
  have hl : (ks.drop r).length = n - r := by rw [List.length_drop, ← hn]
  obtain ⟨h1, h2, h3⟩ := owns_slice o2
  obtain ⟨h4, h5, h6⟩ := owns_slice o3
  unfold FromRef
  rw [hl]
  exact ⟨A3, c3, A4, c4, rfl, h1, h4, h2, h3, h5, h6, hb⟩
set_option maxHeartbeats 400000 in
theorem rfrom_nil (k : ByteArray) (w : World) : Calls Try.prog 85 #[.pointer none, .string k] w fun e w' => e = .returned (.tuple #[.slice none 0 0, .slice none 0 0]) ∧ w = w' := by
  go_enter Try.func85, Try.ntmps85
  go_wp2_with (go_at_call 65; refine (rvalid_nil _).mono ?_; rintro e w' ⟨rfl, rfl⟩)
  go_ret2
  exact ⟨rfl, rfl⟩
set_option maxHeartbeats 2000000 in
theorem rfrom_any (B P : Nat) (vK vV : Value) (ks vs : List ByteArray) (k : ByteArray) (w : World) (h : RefOwn w B P vK vV ks vs) (hlen : ks.length ≤ 1000000) :
    Calls Try.prog 85 #[.pointer (some ⟨P, 0, none⟩), .string k] w (FromRef w (ks.drop (rk ks k)) (vs.drop (rk ks k))) := by
  obtain ⟨A1, c1, A2, c2, rfl, rfl, n1, n2, hRA⟩ := h.at
  have gRA := Lib.hid hRA
  obtain ⟨hm, hK, hV, rK, rV, hc1, hc2⟩ := hRA
  have gK := Lib.hid rK
  have gV := Lib.hid rV
  have g1 := Lib.hid n1
  have g2 := Lib.hid n2
  have hrk := rk_le ks k
  clear rK rV n1 n2 h
  obtain ⟨r, hr⟩ : ∃ r, r = rk ks k := ⟨_, rfl⟩
  obtain ⟨n, hn⟩ : ∃ n, n = ks.length := ⟨_, rfl⟩
  rw [← hr] at hrk ⊢
  rw [← hn] at hK hV hc1 hc2 gK gV g1 g2 hlen hrk
  have gn := Lib.hid hn
  have gr := Lib.hid hr
  clear hn hr
  have i0 : (0 : Int) ≤ (r : Int) := by omega
  have i1 : (r : Int) ≤ (n : Int) := by omega
  have i2 : (r : Int) ≤ (c1 : Int) := by omega
  have i3 : (r : Int) ≤ (c2 : Int) := by omega
  have i4 : (n : Int) ≤ (c1 : Int) := by omega
  have i5 : (n : Int) ≤ (c2 : Int) := by omega
  go_enter Try.func85, Try.ntmps85
  go_wp2_with (first | (go_at_call 65; refine (rvalid_any P _ hm).mono ?_; rintro e w' ⟨rfl, rfl⟩) | (go_at_call 20; refine (rrank_any P A1 c1 A2 c2 ks vs k _ gRA.out).mono ?_; rintro e w' ⟨rfl, rfl⟩; rw [← gr.out]))
  have sK := Lib.hid (gK.out.dropA hrk hc1.1 g1.out)
  have sV := Lib.hid (gV.out.dropA hrk hc2.1 g2.out)
  have d1 := Lib.hid (dropA_none (r := r) g1.out)
  have d2 := Lib.hid (dropA_none (r := r) g2.out)
  have b1 := Lib.hid ((below_alloc w (.cells #[] 9)).drew)
  have b2 := Lib.hid (((below_alloc w (.cells #[] 9)).alloc (by simp) (.cells #[] 9)).drew)
  have e1 := Lib.hid (owns_drew (empty_owns w (Nat.le_refl _)))
  have e2 := Lib.hid (owns_drew (owns_below (empty_owns w (Nat.le_refl _)) (below_alloc (w.alloc (.cells #[] 9)) (.cells #[] 9))))
  have e3 := Lib.hid (owns_drew (empty_owns2 w (.cells #[] 9)))
  go_region_held3 (fun w' => w'.cell? ⟨P, 1, none⟩ = some (.slice A1 n c1) ∧ w'.cell? ⟨P, 2, none⟩ = some (.slice A2 n c2)) (first | go_keep | exact ⟨k1.out, k2.out⟩ | exact ⟨k3.out, k4.out⟩)
    (first
    | (refine step_app _ rfl (.tmp 13) (.tmp 19) rfl w.heap.size _ 0 [] ?hs e1.out _ (n - r) (c1 - r) (ks.drop r) rfl (sK.out.below b1.out) d1.out (by omega) (by simp) ?_
       case hs => rfl
       intro v1 w1 hown1 hg1 hat1
       have bA := Lib.hid (b1.out.grown hg1 (by simp) (by simp [Value.ownBlock]))
       have k1 := Lib.hid ((bA.out.cell (lt_of_cell hK)).trans hK)
       have k2 := Lib.hid ((bA.out.cell (lt_of_cell hV)).trans hV)
       have f1 := Lib.hid (empty_owns w1 (B := w.heap.size) bA.out.size)
       have bW := Lib.hid (bA.out.alloc bA.out.size (.cells #[] 9))
       have o1 := Lib.hid (owns_below hown1 (below_alloc w1 (.cells #[] 9)))
       have hdis := Lib.hid (show v1.ownBlock ≠ some w1.heap.size from fun h => by have := (owns_lt hown1 h).2; omega)
       obtain ⟨A3, c3, rfl, _, _, _, _⟩ := owns_sn (l := ks.drop r) (show w1.ownsRow w.heap.size 9 1 v1 (0 + (n - r)) (sv (ks.drop r)) from hown1)
       clear hown1 hg1 hat1)
    | (refine step_app _ rfl (.tmp 13) (.tmp 19) rfl w.heap.size _ 0 [] ?hs e2.out _ (n - r) (c1 - r) (ks.drop r) rfl (sK.out.below b2.out) d1.out (by omega) (by simp <;> omega) ?_
       case hs => rfl
       intro v1 w1 hown1 hg1 hat1
       have bA := Lib.hid (b2.out.grown hg1 (by simp <;> omega) (by simp [Value.ownBlock]))
       have k1 := Lib.hid ((bA.out.cell (lt_of_cell hK)).trans hK)
       have k2 := Lib.hid ((bA.out.cell (lt_of_cell hV)).trans hV)
       have f1 := Lib.hid (owns_grown e3.out hg1 (Or.inl (by simp [Value.ownBlock])))
       have bW := Lib.hid bA.out
       have o1 := Lib.hid hown1
       have hdis := Lib.hid (show v1.ownBlock ≠ some (w.heap.size + 1) from fun h => by rcases hat1 with h1 | h1 <;> rw [h] at h1 <;> simp [Value.ownBlock] at h1)
       obtain ⟨A3, c3, rfl, _, _, _, _⟩ := owns_sn (l := ks.drop r) (show w1.ownsRow w.heap.size 9 1 v1 (0 + (n - r)) (sv (ks.drop r)) from hown1)
       clear hown1 hg1 hat1)
    | (refine step_app _ rfl (.tmp 13) (.tmp 19) rfl w.heap.size _ 0 [] ?hs e3.out _ (n - r) (c1 - r) (ks.drop r) rfl (sK.out.below b2.out) d1.out (by omega) (by simp <;> omega) ?_
       case hs => rfl
       intro v1 w1 hown1 hg1 hat1
       have bA := Lib.hid (b2.out.grown hg1 (by simp <;> omega) (by simp [Value.ownBlock]))
       have k1 := Lib.hid ((bA.out.cell (lt_of_cell hK)).trans hK)
       have k2 := Lib.hid ((bA.out.cell (lt_of_cell hV)).trans hV)
       have f1 := Lib.hid (owns_grown e2.out hg1 (Or.inl (by simp [Value.ownBlock])))
       have bW := Lib.hid bA.out
       have o1 := Lib.hid hown1
       have hdis := Lib.hid (show v1.ownBlock ≠ some w.heap.size from fun h => by rcases hat1 with h1 | h1 <;> rw [h] at h1 <;> simp [Value.ownBlock] at h1 <;> omega)
       obtain ⟨A3, c3, rfl, _, _, _, _⟩ := owns_sn (l := ks.drop r) (show w1.ownsRow w.heap.size 9 1 v1 (0 + (n - r)) (sv (ks.drop r)) from hown1)
       clear hown1 hg1 hat1)
    | (refine step_app _ rfl (.tmp 21) (.tmp 27) rfl w.heap.size _ 0 [] ?hs f1.out _ (n - r) (c2 - r) (vs.drop r) rfl (sV.out.below bW.out) d2.out (by omega) bW.out.size ?_
       case hs => rfl
       intro v2 w2 hown2 hg2 hat2
       have o2 := Lib.hid (owns_grown o1.out hg2 (Or.inl hdis.out))
       have hne := Lib.hid (show ∀ g, (Value.slice A3 (0 + (n - r)) c3).ownBlock = some g → v2.ownBlock ≠ some g from fun g h1 h2 => by
         rcases hat2 with h | h
         · rw [h2] at h
           exact hdis.out (h1.trans h)
         · rw [h2] at h
           have := (owns_lt o1.out h1).2
           have h' := Option.some.inj h
           omega)
       have bB := Lib.hid (bW.out.grown hg2 bW.out.size (fun k hk => (owns_lt f1.out hk).1))
       have k3 := Lib.hid ((bB.out.cell (lt_of_cell hK)).trans hK)
       have k4 := Lib.hid ((bB.out.cell (lt_of_cell hV)).trans hV)
       have gown2 := Lib.hid hown2
       obtain ⟨A4, c4, rfl, _, _, _, _⟩ := owns_sn (l := vs.drop r) (show w2.ownsRow w.heap.size 9 1 v2 (0 + (n - r)) (sv (vs.drop r)) from hown2)
       clear hown2 hg2 hat2))
  all_goals go_wp2_with fail
  all_goals rw [Nat.zero_add] at o2 gown2 hne
  all_goals go_ret2
  all_goals exact from_ends gn.out o2.out gown2.out bB.out
end Go.Proofs.Ytbcakennmnjlcaa
