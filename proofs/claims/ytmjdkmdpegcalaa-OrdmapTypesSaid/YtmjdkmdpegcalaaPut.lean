/- Which pairs a map has behind Set and Delete; a Go map's data beside it. -/
import Derived.Test.YtmjdkmdpegcalaaOrd
import Derived.Maps.Views
namespace Go.Proofs.Ytmjdkmdpegcalaa
open Go Go.Maps
variable {κ β : Type} [BEq κ] [LawfulBEq κ] {lt : κ → κ → Bool}

theorem getL_mem (ho : KOrd lt) {l : List (κ × β)} (ha : Asc lt (keysOf l)) {x : κ × β} (hx : x ∈ l) (z : κ × β) : hasB lt (keysOf l) x.1 = true ∧ getL lt l x.1 z = x.2 := by
  have hm : x.1 ∈ keysOf l := List.mem_map.2 ⟨x, hx, rfl⟩
  have hh := (hasB_mem ho ha x.1).2 hm
  refine ⟨hh, ?_⟩
  obtain ⟨j, hj, rfl⟩ := List.mem_iff_getElem.1 hx
  have hr : rkB lt (keysOf l) l[j].1 = j := by
    have := rkB_at ho ha (j := j) (by simpa using hj)
    simpa using this
  unfold getL
  rw [hh, hr]
  simp [hj]
omit [LawfulBEq κ] in
theorem getL_none {l : List (κ × β)} {k : κ} (h : hasB lt (keysOf l) k = false) (z : κ × β) : getL lt l k z = z.2 := by unfold getL; rw [h]; rfl
theorem has_iff (ho : KOrd lt) {l : List (κ × β)} (ha : Asc lt (keysOf l)) (k : κ) : hasB lt (keysOf l) k = true ↔ ∃ v, (k, v) ∈ l := by
  rw [hasB_mem ho ha]
  constructor
  · intro h
    obtain ⟨x, hx, rfl⟩ := List.mem_map.1 h
    exact ⟨x.2, hx⟩
  · rintro ⟨v, hv⟩
    exact List.mem_map.2 ⟨_, hv, rfl⟩
omit [BEq κ] [LawfulBEq κ] in
theorem key_inj (ho : KOrd lt) {l : List (κ × β)} (ha : Asc lt (keysOf l)) {i j : Nat} (hi : i < l.length) (hj : j < l.length) (h : l[i].1 = l[j].1) : i = j := by
  have e1 := rkB_at ho ha (j := i) (by simpa using hi)
  have e2 := rkB_at ho ha (j := j) (by simpa using hj)
  simp only [keysOf, List.getElem_map] at e1 e2
  rw [h] at e1
  exact e1.symm.trans e2
theorem mem_put (ho : KOrd lt) {l : List (κ × β)} (ha : Asc lt (keysOf l)) (k : κ) (v : β) (x : κ × β) : x ∈ putL lt l k v ↔ x = (k, v) ∨ (x ∈ l ∧ x.1 ≠ k) := by
  unfold putL
  cases hh : hasB lt (keysOf l) k with
  | true =>
    have hlt : rkB lt (keysOf l) k < l.length := by have := hasB_lt hh; simpa using this
    have he : l[rkB lt (keysOf l) k].1 = k := by
      have := eq_of_beq ((hasB_eq (hasB_lt hh)).symm.trans hh)
      simpa using this
    generalize rkB lt (keysOf l) k = r at hlt he
    simp only [if_true]
    constructor
    · intro h
      obtain ⟨j, hj, rfl⟩ := List.mem_iff_getElem.1 h
      rw [List.getElem_set]
      split
      · exact Or.inl rfl
      · rename_i hne
        have hj' : j < l.length := by simpa using hj
        exact Or.inr ⟨List.getElem_mem _, fun e => hne (key_inj ho ha hlt hj' (he.trans e.symm))⟩
    · rintro (rfl | ⟨hx, hne⟩)
      · exact List.mem_iff_getElem.2 ⟨r, by simpa using hlt, by simp⟩
      · obtain ⟨j, hj, rfl⟩ := List.mem_iff_getElem.1 hx
        refine List.mem_iff_getElem.2 ⟨j, by simpa using hj, ?_⟩
        rw [List.getElem_set, if_neg]
        intro e
        subst e
        exact hne he
  | false =>
    simp only [Bool.false_eq_true, if_false, List.mem_append, List.mem_cons]
    have hno : ∀ y ∈ l, y.1 ≠ k := fun y hy e => by
      have := (has_iff ho ha k).2 ⟨y.2, by rw [← e]; exact hy⟩
      rw [this] at hh; cases hh
    generalize rkB lt (keysOf l) k = r
    have hsplit : ∀ y, y ∈ l ↔ y ∈ l.take r ∨ y ∈ l.drop r := fun y => by rw [← List.mem_append, List.take_append_drop]
    constructor
    · rintro (h | h | h)
      · have := (hsplit x).2 (Or.inl h); exact Or.inr ⟨this, hno x this⟩
      · exact Or.inl h
      · have := (hsplit x).2 (Or.inr h); exact Or.inr ⟨this, hno x this⟩
    · rintro (h | ⟨h, _⟩)
      · exact Or.inr (Or.inl h)
      · rcases (hsplit x).1 h with h | h
        · exact Or.inl h
        · exact Or.inr (Or.inr h)
theorem mem_del (ho : KOrd lt) {l : List (κ × β)} (ha : Asc lt (keysOf l)) (k : κ) (x : κ × β) : x ∈ delL lt l k ↔ x ∈ l ∧ x.1 ≠ k := by
  unfold delL
  cases hh : hasB lt (keysOf l) k with
  | true =>
    have hlt : rkB lt (keysOf l) k < l.length := by have := hasB_lt hh; simpa using this
    have he : l[rkB lt (keysOf l) k].1 = k := by
      have := eq_of_beq ((hasB_eq (hasB_lt hh)).symm.trans hh)
      simpa using this
    generalize rkB lt (keysOf l) k = r at hlt he
    simp only [if_true, List.mem_append]
    constructor
    · rintro (h | h)
      · obtain ⟨j, hj, rfl⟩ := List.mem_iff_getElem.1 h
        have hj' : j < r ∧ j < l.length := by simp at hj; omega
        rw [List.getElem_take]
        exact ⟨List.getElem_mem _, fun e => by have := key_inj ho ha hlt hj'.2 (he.trans e.symm); omega⟩
      · obtain ⟨j, hj, rfl⟩ := List.mem_iff_getElem.1 h
        have hj' : r + 1 + j < l.length := by simp at hj; omega
        rw [List.getElem_drop]
        exact ⟨List.getElem_mem _, fun e => by have := key_inj ho ha hlt hj' (he.trans e.symm); omega⟩
    · rintro ⟨hx, hne⟩
      obtain ⟨j, hj, rfl⟩ := List.mem_iff_getElem.1 hx
      rcases Nat.lt_trichotomy j r with h | h | h
      · exact Or.inl (List.mem_iff_getElem.2 ⟨j, by simp; omega, by rw [List.getElem_take]⟩)
      · subst h; exact absurd he hne
      · refine Or.inr (List.mem_iff_getElem.2 ⟨j - (r + 1), by simp; omega, ?_⟩)
        rw [List.getElem_drop]
        congr 1
        omega
  | false =>
    have hno : ∀ y ∈ l, y.1 ≠ k := fun y hy e => by
      have := (has_iff ho ha k).2 ⟨y.2, by rw [← e]; exact hy⟩
      rw [this] at hh; cases hh
    simp only [Bool.false_eq_true, if_false]
    exact ⟨fun h => ⟨h, hno x h⟩, fun h => h.1⟩
/-- What a look-up says behind Set; behind Delete. -/
theorem get_put (ho : KOrd lt) {l : List (κ × β)} (ha : Asc lt (keysOf l)) (k : κ) (v : β) (z : κ × β) (k' : κ) :
    hasB lt (keysOf (putL lt l k v)) k' = (k' == k || hasB lt (keysOf l) k') ∧ getL lt (putL lt l k v) k' z = if (k' == k) = true then v else getL lt l k' z := by
  have ha' := asc_put ho ha k v
  by_cases e : k' = k
  · subst e
    have := getL_mem ho ha' ((mem_put ho ha k' v (k', v)).2 (Or.inl rfl)) z
    rw [if_pos (by simp)]
    exact ⟨by rw [this.1]; simp, this.2⟩
  · rw [if_neg (by simpa using e), show (k' == k) = false from beq_eq_false_iff_ne.2 e, Bool.false_or]
    cases hh : hasB lt (keysOf l) k' with
    | true =>
      obtain ⟨v', hv⟩ := (has_iff ho ha k').1 hh
      have h1 := getL_mem ho ha' ((mem_put ho ha k v (k', v')).2 (Or.inr ⟨hv, e⟩)) z
      have h2 := getL_mem ho ha hv z
      exact ⟨h1.1, h1.2.trans h2.2.symm⟩
    | false =>
      have h1 : hasB lt (keysOf (putL lt l k v)) k' = false := by
        cases h : hasB lt (keysOf (putL lt l k v)) k' with
        | false => rfl
        | true =>
          obtain ⟨v', hv⟩ := (has_iff ho ha' k').1 h
          rcases (mem_put ho ha k v _).1 hv with h | h
          · exact absurd (congrArg Prod.fst h) e
          · have := (has_iff ho ha k').2 ⟨v', h.1⟩
            rw [this] at hh; cases hh
      exact ⟨h1, by rw [getL_none h1, getL_none hh]⟩
theorem get_del (ho : KOrd lt) {l : List (κ × β)} (ha : Asc lt (keysOf l)) (k : κ) (z : κ × β) (k' : κ) :
    hasB lt (keysOf (delL lt l k)) k' = (!(k' == k) && hasB lt (keysOf l) k') ∧ getL lt (delL lt l k) k' z = if (k' == k) = true then z.2 else getL lt l k' z := by
  have ha' := asc_del ha k
  by_cases e : k' = k
  · subst e
    have h1 : hasB lt (keysOf (delL lt l k')) k' = false := by
      cases h : hasB lt (keysOf (delL lt l k')) k' with
      | false => rfl
      | true =>
        obtain ⟨v', hv⟩ := (has_iff ho ha' k').1 h
        exact absurd rfl ((mem_del ho ha k' _).1 hv).2
    rw [if_pos (by simp)]
    exact ⟨by rw [h1]; simp, getL_none h1 z⟩
  · rw [if_neg (by simpa using e), show (k' == k) = false from beq_eq_false_iff_ne.2 e, Bool.not_false, Bool.true_and]
    cases hh : hasB lt (keysOf l) k' with
    | true =>
      obtain ⟨v', hv⟩ := (has_iff ho ha k').1 hh
      have h1 := getL_mem ho ha' ((mem_del ho ha k (k', v')).2 ⟨hv, e⟩) z
      have h2 := getL_mem ho ha hv z
      exact ⟨h1.1, h1.2.trans h2.2.symm⟩
    | false =>
      have h1 : hasB lt (keysOf (delL lt l k)) k' = false := by
        cases h : hasB lt (keysOf (delL lt l k)) k' with
        | false => rfl
        | true =>
          obtain ⟨v', hv⟩ := (has_iff ho ha' k').1 h
          have := (has_iff ho ha k').2 ⟨v', ((mem_del ho ha k _).1 hv).1⟩
          rw [this] at hh; cases hh
      exact ⟨h1, by rw [getL_none h1, getL_none hh]⟩
omit [LawfulBEq κ] in
theorem len_put {l : List (κ × β)} {k : κ} {v : β} : (putL lt l k v).length = if hasB lt (keysOf l) k then l.length else l.length + 1 := by
  unfold putL
  split
  · rw [List.length_set]
  · exact length_ins _ _ _ (by have := rkB_le (lt := lt) (keysOf l) k; simpa using this)
omit [LawfulBEq κ] in
theorem len_del {l : List (κ × β)} {k : κ} : (delL lt l k).length + (if hasB lt (keysOf l) k then 1 else 0) = l.length := by
  unfold delL
  split
  · rename_i h
    have : rkB lt (keysOf l) k < l.length := by have := hasB_lt h; simpa using this
    simp; omega
  · simp

/-- A Go map of ints whose data are l's. -/
structure MapIs {H : Type} (D : DataW H) (l : List (Int × Int)) : Prop where
  tidy : Tidy D
  has : ∀ k : Int, Maps.has D (.int .i64 k) = hasB (fun a b : Int => decide (a < b)) (keysOf l) k
  at_ : ∀ k : Int, D.atKey (.int .i64 k) (.lit (.int .i64 0)) = .lit (.int .i64 (getL (fun a b : Int => decide (a < b)) l k (0, 0)))
  size : Maps.size D = l.length
theorem isKeyLit (k : Int) : WideAt.IsKeyLit (.int .i64 k) := trivial
theorem mapIs_nil {H : Type} : MapIs (H := H) (.map []) [] := ⟨tidy_empty, fun _ => rfl, fun _ => rfl, rfl⟩
theorem MapIs.put {H : Type} {D : DataW H} {l : List (Int × Int)} (h : MapIs D l) (ha : Asc (fun a b : Int => decide (a < b)) (keysOf l)) (k v : Int) : MapIs (D.put (.int .i64 k) (.lit (.int .i64 v))) (putL (fun a b : Int => decide (a < b)) l k v) := by
  refine ⟨h.tidy.put (isKeyLit k) _, fun k' => ?_, fun k' => ?_, ?_⟩
  · rw [(get_put kord_int ha k v (0, 0) k').1]
    by_cases e : k' = k
    · subst e; rw [has_put_same h.tidy.isMap (isKeyLit _)]; simp
    · rw [has_put_other (by intro h; injection h with _ h; exact e h), h.has, show (k' == k) = false from beq_eq_false_iff_ne.2 e, Bool.false_or]
  · rw [(get_put kord_int ha k v (0, 0) k').2]
    by_cases e : k' = k
    · subst e; rw [atKey_put_same h.tidy.isMap (isKeyLit _), if_pos (by simp)]
    · rw [atKey_put_other (by intro h; injection h with _ h; exact e h), h.at_, if_neg (by simpa using e)]
  · rw [size_put h.tidy, h.has, h.size, len_put]
theorem MapIs.del {H : Type} {D : DataW H} {l : List (Int × Int)} (h : MapIs D l) (ha : Asc (fun a b : Int => decide (a < b)) (keysOf l)) (k : Int) : MapIs (D.del (.int .i64 k)) (delL (fun a b : Int => decide (a < b)) l k) := by
  refine ⟨h.tidy.del _, fun k' => ?_, fun k' => ?_, ?_⟩
  · rw [(get_del kord_int ha k (0, 0) k').1]
    by_cases e : k' = k
    · subst e; rw [has_del_same]; simp
    · rw [has_del_other (by intro h; injection h with _ h; exact e h), h.has, show (k' == k) = false from beq_eq_false_iff_ne.2 e]; rfl
  · rw [(get_del kord_int ha k (0, 0) k').2]
    by_cases e : k' = k
    · subst e; rw [atKey_del_same, if_pos (by simp)]
    · rw [atKey_del_other (by intro h; injection h with _ h; exact e h), h.at_, if_neg (by simpa using e)]
  · have h1 := size_del (k := Lit.int .i64 k) h.tidy
    have h2 := len_del (lt := fun a b : Int => decide (a < b)) (l := l) (k := k)
    rw [h.has, h.size] at h1
    omega
end Go.Proofs.Ytmjdkmdpegcalaa
