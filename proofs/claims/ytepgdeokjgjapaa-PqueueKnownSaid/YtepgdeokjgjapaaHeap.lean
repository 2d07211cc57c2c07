/- Heaps as lists: a place that is given up goes up and down until an item fits into it. -/
namespace Go.Proofs.Ytepgdeokjgjapaa
variable {α : Type}

/-- An order of items: strict, and total. -/
structure IOrd (lt : α → α → Bool) : Prop where
  irrefl : ∀ a, lt a a = false
  trans : ∀ a b c, lt a b = true → lt b c = true → lt a c = true
  tri : ∀ a b, lt a b = false → lt b a = false → a = b
variable {lt : α → α → Bool}
theorem IOrd.asymm (h : IOrd lt) {a b : α} (hab : lt a b = true) : lt b a = false := by
  cases hb : lt b a with
  | false => rfl
  | true => have := h.trans _ _ _ hab hb; rw [h.irrefl] at this; cases this
theorem IOrd.le_trans (h : IOrd lt) {a b c : α} (hab : lt b a = false) (hbc : lt c b = false) : lt c a = false := by
  cases hc : lt c a with
  | false => rfl
  | true =>
    cases ha : lt a b with
    | true => have := h.trans _ _ _ hc ha; rw [hbc] at this; cases this
    | false => have := h.tri _ _ ha hab; subst this; rw [hbc] at hc; cases hc

/-- No item comes ahead of its parent. -/
def Heaped (lt : α → α → Bool) (l : List α) : Prop := ∀ i x y, 0 < i → l[i]? = some x → l[(i - 1) / 2]? = some y → lt x y = false
/-- The same, but for one place, whose item is given up; around it the order stands. -/
structure HoleAt (lt : α → α → Bool) (l : List α) (k : Nat) : Prop where
  rest : ∀ i x y, 0 < i → i ≠ k → (i - 1) / 2 ≠ k → l[i]? = some x → l[(i - 1) / 2]? = some y → lt x y = false
  over : ∀ i x y, 0 < i → (i - 1) / 2 = k → 0 < k → l[i]? = some x → l[(k - 1) / 2]? = some y → lt x y = false

theorem lt_of_some {l : List α} {i : Nat} {x : α} (h : l[i]? = some x) : i < l.length := (List.getElem?_eq_some_iff.1 h).1
theorem set_same {l : List α} {k : Nat} (hk : k < l.length) (a : α) : (l.set k a)[k]? = some a := by simp [hk]
theorem set_other {l : List α} {k i : Nat} (h : i ≠ k) (a : α) : (l.set k a)[i]? = l[i]? := by rw [List.getElem?_set]; simp [Ne.symm h]

theorem heap_hole (ho : IOrd lt) {l : List α} (h : Heaped lt l) (k : Nat) : HoleAt lt l k := by
  refine ⟨fun i x y h0 _ _ hx hy => h i x y h0 hx hy, fun i x y h0 hp hk hx hy => ?_⟩
  have hl := lt_of_some hx
  have hkl : k < l.length := by omega
  obtain ⟨z, hz⟩ : ∃ z, l[k]? = some z := ⟨_, List.getElem?_eq_getElem hkl⟩
  exact ho.le_trans (h k z y hk hz hy) (h i x z h0 hx (by rw [hp]; exact hz))
theorem hole_end {l : List α} (h : Heaped lt l) (z : α) : HoleAt lt (l ++ [z]) l.length := by
  refine ⟨fun i x y h0 h1 _ hx hy => ?_, fun i x y h0 hp _ hx _ => ?_⟩
  · have hl := lt_of_some hx
    simp at hl
    rw [List.getElem?_append_left (by omega)] at hx hy
    exact h i x y h0 hx hy
  · have hl := lt_of_some hx
    simp at hl
    omega
theorem heap_take {l : List α} (h : Heaped lt l) (n : Nat) : Heaped lt (l.take n) := by
  intro i x y h0 hx hy
  have hl := lt_of_some hx
  rw [List.length_take] at hl
  rw [List.getElem?_take_of_lt (by omega)] at hx hy
  exact h i x y h0 hx hy
theorem hole_up (ho : IOrd lt) {l : List α} {k : Nat} {p : α} (h : HoleAt lt l k) (hk : 0 < k) (hl : k < l.length) (hp : l[(k - 1) / 2]? = some p) : HoleAt lt (l.set k p) ((k - 1) / 2) := by
  have hpk : (k - 1) / 2 ≠ k := by omega
  refine ⟨fun i x y h0 h1 h2 hx hy => ?_, fun i x y h0 h1 h2 hx hy => ?_⟩
  · have hik : i ≠ k := fun e => h2 (by rw [e])
    rw [set_other hik] at hx
    by_cases hy2 : (i - 1) / 2 = k
    · rw [hy2, set_same hl] at hy
      obtain rfl : p = y := by injection hy
      exact h.over i x p h0 hy2 hk hx hp
    · rw [set_other hy2] at hy
      exact h.rest i x y h0 hik hy2 hx hy
  · have h3 : ((k - 1) / 2 - 1) / 2 ≠ k := by omega
    rw [set_other h3] at hy
    have h4 := h.rest _ p y h2 hpk h3 hp hy
    by_cases hik : i = k
    · subst hik
      rw [set_same hl] at hx
      obtain rfl : p = x := by injection hx
      exact h4
    · rw [set_other hik] at hx
      exact ho.le_trans h4 (h.rest i x p h0 hik (by rw [h1]; exact hpk) hx (by rw [h1]; exact hp))
theorem hole_down {l : List α} {k c : Nat} {y : α} (h : HoleAt lt l k) (h0 : 0 < c) (hc : (c - 1) / 2 = k) (hl : k < l.length) (hy : l[c]? = some y)
    (hmin : ∀ i z, 0 < i → (i - 1) / 2 = k → l[i]? = some z → lt z y = false) : HoleAt lt (l.set k y) c := by
  have hck : c ≠ k := by omega
  refine ⟨fun i x z h0' h1 h2 hx hz => ?_, fun i x z h0' h1 h2 hx hz => ?_⟩
  · by_cases hik : i = k
    · subst hik
      rw [set_same hl] at hx
      obtain rfl : y = x := by injection hx
      rw [set_other (by omega)] at hz
      exact h.over c y z h0 hc h0' hy hz
    · rw [set_other hik] at hx
      by_cases hz2 : (i - 1) / 2 = k
      · rw [hz2, set_same hl] at hz
        obtain rfl : y = z := by injection hz
        exact hmin i x h0' hz2 hx
      · rw [set_other hz2] at hz
        exact h.rest i x z h0' hik hz2 hx hz
  · rw [hc, set_same hl] at hz
    obtain rfl : y = z := by injection hz
    rw [set_other (by omega)] at hx
    exact h.rest i x y h0' (by omega) (by omega) hx (by rw [h1]; exact hy)
theorem hole_fill {l : List α} {k : Nat} {x : α} (h : HoleAt lt l k) (hl : k < l.length) (hup : 0 < k → ∀ p, l[(k - 1) / 2]? = some p → lt x p = false)
    (hdown : ∀ c y, 0 < c → (c - 1) / 2 = k → l[c]? = some y → lt y x = false) : Heaped lt (l.set k x) := by
  intro i a b h0 ha hb
  by_cases hik : i = k
  · subst hik
    rw [set_same hl] at ha
    obtain rfl : x = a := by injection ha
    rw [set_other (by omega)] at hb
    exact hup h0 b hb
  · rw [set_other hik] at ha
    by_cases hp : (i - 1) / 2 = k
    · rw [hp, set_same hl] at hb
      obtain rfl : x = b := by injection hb
      exact hdown i a h0 hp ha
    · rw [set_other hp] at hb
      exact h.rest i a b h0 hik hp ha hb
theorem heap_min (ho : IOrd lt) {l : List α} {m : α} (h : Heaped lt l) (hm : l[0]? = some m) : ∀ (i : Nat) (x : α), l[i]? = some x → lt x m = false := by
  intro i
  induction i using Nat.strongRecOn with
  | _ i ih =>
    intro x hx
    rcases Nat.eq_zero_or_pos i with rfl | h0
    · rw [hm] at hx
      obtain rfl : m = x := by injection hx
      exact ho.irrefl _
    · have hl := lt_of_some hx
      obtain ⟨z, hz⟩ : ∃ z, l[(i - 1) / 2]? = some z := ⟨_, List.getElem?_eq_getElem (by omega)⟩
      exact ho.le_trans (ih _ (by omega) z hz) (h i x z h0 hx hz)
/-- One step moves an item into the place: what the list will be keeps its items. -/
theorem swap_perm {l : List α} {k k' : Nat} {y x : α} (hk : k < l.length) (hk' : l[k']? = some y) (hne : k ≠ k') : ((l.set k y).set k' x).Perm (l.set k x) := by
  have h1 : k' < l.length := lt_of_some hk'
  have e := List.set_set_perm (as := l.set k x) (i := k) (j := k') (by simpa using hk) (by simpa using h1)
  have e1 : (l.set k x)[k']'(by simpa using h1) = y := by
    have := (List.getElem?_eq_some_iff.1 hk').2
    rw [List.getElem_set_ne hne]; exact this
  have e2 : (l.set k x)[k]'(by simpa using hk) = x := by simp
  rw [e1, e2, List.set_set] at e
  exact e

/-- Where the ids are: places of ids, counted from 1; 0 where an id is in no place. Some ids are left out. -/
def Placed (id : α → Nat) (pl : List Nat) (l : List α) (E : Nat → Prop) : Prop :=
  ∀ i, i < pl.length → ¬ E i → (∀ j y, l[j]? = some y → id y = i → pl[i]? = some (j + 1)) ∧ ((∀ y, y ∈ l → id y ≠ i) → pl[i]? = some 0)
variable {id : α → Nat}
theorem same_place {l : List α} (hn : (l.map id).Nodup) {i j : Nat} {x y : α} (hx : l[i]? = some x) (hy : l[j]? = some y) (e : id x = id y) : i = j := by
  have hi := lt_of_some hx
  exact (List.getElem?_inj (by simpa using hi) hn).1 (by simp [hx, hy, e])
theorem placed_step {pl : List Nat} {l : List α} {k k' : Nat} {x y : α} {E : Nat → Prop} (hn : ((l.set k x).map id).Nodup) (h : Placed id pl (l.set k x) E) (hE : E (id x)) (hk : k < l.length) (hk' : l[k']? = some y) (hne : k ≠ k') :
    Placed id (pl.set (id y) (k + 1)) ((l.set k y).set k' x) E := by
  have hp := swap_perm (x := x) hk hk' hne
  have hn' : (((l.set k y).set k' x).map id).Nodup := (hp.map id).nodup_iff.2 hn
  have hk1 : k' < l.length := lt_of_some hk'
  have hyk : ((l.set k y).set k' x)[k]? = some y := by rw [set_other hne, set_same hk]
  intro i hi hb
  rw [List.length_set] at hi
  have hib : i ≠ id x := fun e => hb (e ▸ hE)
  by_cases hiy : i = id y
  · subst hiy
    refine ⟨fun j z hz e => ?_, fun h => absurd rfl (h y (List.mem_of_getElem? hyk))⟩
    have := same_place hn' hz hyk e
    subst this
    exact set_same hi _
  · refine ⟨fun j z hz e => ?_, fun h2 => ?_⟩
    · rw [set_other hiy]
      have hjk' : j ≠ k' := by
        rintro rfl
        rw [set_same (by simpa using hk1)] at hz
        obtain rfl : x = z := by injection hz
        exact hib e.symm
      have hjk : j ≠ k := by
        rintro rfl
        rw [hyk] at hz
        obtain rfl : y = z := by injection hz
        exact hiy e.symm
      rw [set_other hjk', set_other hjk] at hz
      exact (h i hi hb).1 j z (by rw [set_other hjk]; exact hz) e
    · rw [set_other hiy]
      exact (h i hi hb).2 fun z hz => h2 z (hp.mem_iff.2 hz)
theorem placed_end {pl : List Nat} {l : List α} {k : Nat} {x : α} {E : Nat → Prop} (hn : ((l.set k x).map id).Nodup) (h : Placed id pl (l.set k x) (fun i => i = id x ∨ E i)) (hk : k < l.length) : Placed id (pl.set (id x) (k + 1)) (l.set k x) E := by
  intro i hi hE
  rw [List.length_set] at hi
  have hxk : (l.set k x)[k]? = some x := set_same hk _
  by_cases hix : i = id x
  · subst hix
    refine ⟨fun j z hz e => ?_, fun h => absurd rfl (h x (List.mem_of_getElem? hxk))⟩
    have := same_place hn hz hxk e
    subst this
    exact set_same hi _
  · rw [set_other hix]
    exact h i hi (fun e => e.elim hix hE)
/-- The items in their order. -/
def Rising (lt : α → α → Bool) (s : List α) : Prop := s.Pairwise (fun a b => lt a b = true)
theorem head_first (ho : IOrd lt) {l s : List α} {m : α} (h : Heaped lt l) (hm : l[0]? = some m) (hs : Rising lt s) (hp : s.Perm l) : ∃ t, s = m :: t := by
  have hmem : m ∈ s := hp.mem_iff.2 (List.mem_of_getElem? hm)
  cases s with
  | nil => cases hmem
  | cons a t =>
    rcases List.mem_cons.1 hmem with rfl | hmt
    · exact ⟨t, rfl⟩
    · have h1 := (List.pairwise_cons.1 hs).1 m hmt
      obtain ⟨i, hi, e⟩ := List.mem_iff_getElem.1 (hp.mem_iff.1 (List.mem_cons_self (a := a) (l := t)))
      have h2 := heap_min ho h hm i a (by rw [List.getElem?_eq_getElem hi, e])
      rw [h1] at h2
      cases h2
/-- One item for another. -/
theorem set_swap : ∀ (l : List α) (k : Nat) (x y : α), l[k]? = some x → (x :: l.set k y).Perm (y :: l)
  | [], _, _, _, h => by simp at h
  | a :: l, 0, x, y, h => by
    obtain rfl : a = x := by simpa using h
    exact List.Perm.swap _ _ _
  | a :: l, k + 1, x, y, h => by
    have h' : l[k]? = some x := by simpa using h
    exact (List.Perm.swap a x _).trans (((set_swap l k x y h').cons a).trans (List.Perm.swap y a l))
/-- The item of a place is taken out, and the last one put in its place. -/
theorem take_out {l : List α} {k m : Nat} {x y : α} (hm : l.length = m + 1) (hk : l[k]? = some x) (hy : l[m]? = some y) (hkm : k < m) : l.Perm (x :: (l.take m).set k y) := by
  have e : l = l.take m ++ [y] := by
    have e1 : y = l[m] := ((List.getElem?_eq_some_iff.1 hy).2).symm
    rw [e1, List.take_append_getElem, ← hm, List.take_length]
  have h1 : (l.take m)[k]? = some x := by rw [List.getElem?_take_of_lt hkm]; exact hk
  have h2 := set_swap (l.take m) k x y h1
  have h3 : l.Perm (y :: l.take m) := by
    conv => lhs; rw [e]
    exact List.perm_append_comm
  exact h3.trans h2.symm
theorem take_last {l : List α} {m : Nat} {x : α} (hm : l.length = m + 1) (hx : l[m]? = some x) : l.Perm (x :: l.take m) := by
  have e1 : x = l[m] := ((List.getElem?_eq_some_iff.1 hx).2).symm
  have e : l = l.take m ++ [x] := by rw [e1, List.take_append_getElem, ← hm, List.take_length]
  conv => lhs; rw [e]
  exact List.perm_append_comm
end Go.Proofs.Ytepgdeokjgjapaa
