/- Made: a key of bytes. -/
import Derived.Test.YtipammomoeklnaaDoorWorks
import Derived.Laws.AppendOwn
import Derived.Laws.AppendOwnNone
import Derived.OwnWalk
namespace Go.Proofs.YtipammomoeklnaaDoor
open Go.RowKit Go.PlainAid

/-- Bytes as values. -/
def bv (l : List Int) : List Value := l.map (Value.int .u8)
theorem length_bv (l : List Int) : (bv l).length = l.length := List.length_map ..
theorem bv_one (l : List Int) : ∀ v ∈ bv l, v.oneCell' = true := fun v h => by
  obtain ⟨z, _, rfl⟩ := List.mem_map.1 h
  rfl
theorem info5 : (Tryd.prog.info? 5).map (fun i => (i.zero, i.size, i.bytes)) = some (some (.int .u8 0), 1, 1) := by kernel_rfl
/-- 'append(s, c)' where s is the call's own: one byte, in a slice that has just been made. -/
theorem app_one {ops : Array Oper} {rest : List Oper} {o : Oper} {a : Act} {Q : Exit → Act → World → Prop} (w : World) (hw : Region.wanted o (yielded ops a.tmps) = true) (s x : Operand)
    (ho : o.op = .call { callee := .builtin .append, args := #[s, x], argTypes := #[33, 33] }) (base : Nat)
    (v : Value) (nv : Nat) (xs : List Value) (hs : a.eval s = v) (hown : w.ownsRow base 5 1 v nv xs) (g c : Nat) (z : Int)
    (hx : a.eval x = .slice (some ⟨g, 0, none⟩) 1 c) (hc : w.cell? ⟨g, 0, none⟩ = some (.int .u8 z))
    (hn : nv + 1 ≤ 140737488355328) (hbase : base ≤ w.heap.size)
    (h : ∀ v' w', w'.ownsRow base 5 1 v' (nv + 1) (xs ++ [.int .u8 z]) → w.grownBy w' v.ownBlock → wpList Tryd.prog ops Q rest (a.put o.dst v') w') : wpList Tryd.prog ops Q (o :: rest) a w := by
  obtain ⟨i0, hi0, hz0, hz1, hz2⟩ := info_parts info5
  refine wpList_step fun K hK => ?_
  rw [if_pos hw]
  exact wp_append_own w s x 33 ho base 5 i0 _ 1 1 Tryd.underlying33 hi0 hz0 hz1 hz2 rfl (by omega) v nv xs hs hown ⟨g, 0, none⟩ 1 c [.int .u8 z] hx rfl (fun j u hj => by
      cases j with
      | zero => simp at hj; subst hj; simpa [Addr.add] using hc
      | succ j => simp at hj) (fun u hu => by rw [List.mem_singleton.1 hu]; rfl) (by unfold maxLen; omega) (by omega) hbase
      fun v' w' h1 h2 _ => hK _ _ (h v' w' h1 h2)
theorem own_str {w : World} {B n : Nat} {v : Value} {l : List Int} (h : w.ownsRow B 5 1 v n (bv l)) (hn : 0 < n) : (convert 33 9 v).run Tryd.prog w = .ok (.string (strOfNums l)) w ∧ ∃ A c, v = .slice A n c := by
  have hl : l.length = n := by have := h.1; rw [length_bv] at this; omega
  rcases h.2 with ⟨rfl, rfl⟩ | ⟨g, cap, cur, rfl, _⟩
  · omega
  · refine ⟨run_convert_bytes_arg (P := Tryd.prog) w 33 5 Tryd.underlying33 Tryd.underlying5 g 0 n cap l hl (fun i hi => ?_) 9 Tryd.underlying9, _, _, rfl⟩
    have hc := h.cells (g := g) rfl i (.int .u8 (l.getD i 0)) (by unfold bv; rw [List.getElem?_map, List.getElem?_eq_getElem (by omega)]; simp [show i < l.length from by omega])
    have e : (⟨g, 0, none⟩ : Addr).add i = ⟨g, 0 + i, none⟩ := by unfold Addr.add; split <;> simp_all
    rw [e] at hc
    exact hc
theorem own_len {w : World} {B n : Nat} {v : Value} {xs : List Value} (h : w.ownsRow B 5 1 v n xs) : ∃ A c, v = .slice A n c := by
  rcases h.2 with ⟨rfl, rfl⟩ | ⟨g, cap, cur, rfl, _⟩
  · exact ⟨_, _, rfl⟩
  · exact ⟨_, _, rfl⟩

/-- Made gives a key. -/
def MadeK (w : World) (e : Ending) (w' : World) : Prop := ∃ s : ByteArray, e = .returned (.string s) ∧ chkE (bts s) = 0 ∧ Below w.heap.size w w'
theorem chk_strOf {l : List Int} (h1 : 1 ≤ l.length) (h2 : l.length ≤ 32) (h : ∀ z ∈ l, kch z = true) : chkE (bts (strOfNums l)) = 0 := by
  rw [bts_str _ (fun z hz => by have := kch_bd (h z hz); omega)]
  exact chkE_of h1 h2 h
set_option maxRecDepth 100000 in
set_option maxHeartbeats 2000000 in
theorem made_core (A : Option Addr) (m c : Nat) (zs : List Int) (w : World) (hb : BI w A m zs) (len0 : Nat) (hl : m ≤ len0) (hlc : len0 ≤ c) (_hc : c ≤ 9223372036854775807) (hmin : (min (len0 : Int) 32) = (m : Int)) :
    Calls Tryd.prog 24 #[.slice A len0 c] w (MadeK w) := by
  have hm32 : m ≤ 32 := by omega
  have gb := Lib.hid hb
  have hls := get_bt lets
  have hz := lets_size
  obtain ⟨B, hB⟩ : ∃ B, B = w.heap.size := ⟨_, rfl⟩
  have gB := Lib.hid hB
  clear hb
  go_enter Tryd.func24, Tryd.ntmps24
  go_wp2_with fail
  clear hmin
  go_loopw [3, 12] (fun v i wr => ∃ (k : Nat) (l : List Int), k ≤ m ∧ i = .int .i64 k ∧ Hid (wr.ownsRow B 5 1 v k (bv l) ∧ l.length = k ∧ (∀ z ∈ l, kch z = true) ∧ Below B w wr)) (fun _ i _ => m - (intOf i).toNat)
  case atStart => exact ⟨0, [], Nat.zero_le _, rfl, World.ownsRow_nil _ _ _ _, rfl, (fun z hz => by cases hz), Below.refl _ _⟩
  case round =>
    obtain ⟨k, l, hk, rfl, gI⟩ := hrel
    by_cases hlt : k < m
    · have hbw := gb.out.below (show Below w.heap.size w wr by rw [← gB.out]; exact gI.out.2.2.2)
      obtain ⟨b, o, rfl, hat⟩ := hbw.2.2 (by omega)
      have hcell := hat k hlt
      have hzb : 0 ≤ zs.getD k 0 ∧ zs.getD k 0 ≤ 255 := by
        have hkl : k < zs.length := by have := gb.out.1; omega
        rw [List.getD, List.getElem?_eq_getElem hkl]
        exact gb.out.2.1 _ (List.getElem_mem hkl)
      obtain ⟨x, hx⟩ : ∃ x : Nat, zs.getD k 0 = (x : Int) := ⟨(zs.getD k 0).toNat, by omega⟩
      rw [hx] at hcell hzb
      obtain ⟨j, hj⟩ : ∃ j, j = x % 39 := ⟨_, rfl⟩
      have eT : Int.tmod (x : Int) 39 = (j : Int) := by rw [hj]; rfl
      have eI : (x : Int) % 39 = (j : Int) := by rw [hj]; rfl
      have q1 : IntKind.i64.wrap (x : Int) = x := IntWalk.i64_in _ ⟨by omega, by omega⟩
      have hj39 : j < 39 := by rw [hj]; omega
      have b1 := bt_lets j hj39
      have gk := Lib.hid (chr_kch (j : Int) (by omega) (by omega))
      have x0 : (0 : Int) ≤ (x : Int) := by omega
      have hown := gI.out.1.alloc (.cells #[.int .u8 (chr (j : Int))] 5)
      have hc0 : (wr.alloc (.cells #[.int .u8 (chr (j : Int))] 5)).cell? ⟨wr.heap.size, 0, none⟩ = some (.int .u8 (chr (j : Int))) := (cell_of_row _ _ 0 _ _ (0, 0) (heap_alloc_new wr (.cells #[.int .u8 (chr (j : Int))] 5))).trans rfl
      have hBs := gI.out.2.2.2.size
      have hsz : B ≤ (wr.alloc (.cells #[.int .u8 (chr (j : Int))] 5)).heap.size := by have := gB.out; simp; omega
      have gD := Lib.hid (gI.out.2.2.2.alloc (by have := gB.out; omega) (.cells #[.int .u8 (chr (j : Int))] 5))
      clear hbw hat hx hj hBs hzb
      go_wp2_with (at_builtin
                   refine app_one _ rfl (.tmp 16) (.tmp 21) rfl B _ k (bv l) rfl hown wr.heap.size 1 (chr (j : Int)) rfl hc0 (by omega) hsz ?_
                   intro v' w' hown' hg'
                   have gO := Lib.hid (show w'.ownsRow B 5 1 v' (k + 1) (bv (l ++ [chr (j : Int)])) by unfold bv at *; rw [List.map_append]; exact hown')
                   have gG := Lib.hid (gD.out.grown hg' hsz (fun q hq => (hown.lt q hq).1))
                   clear hown hown' hg' hc0 hsz)
      go_roundw
      case rel => exact ⟨k + 1, l ++ [chr (j : Int)], by omega, by go_num, gO.out, by rw [List.length_append, gI.out.2.1]; rfl, fun z hz => by
        rcases List.mem_append.1 hz with h | h
        · exact gI.out.2.2.1 z h
        · rw [List.mem_singleton.1 h]; exact gk.out, gG.out⟩
      case measure => simp [intOf]; omega
    · obtain rfl : k = m := by omega
      have gE := Lib.hid (show Below w.heap.size w wr by rw [← gB.out]; exact gI.out.2.2.2)
      by_cases h0 : k = 0
      · obtain ⟨A2, c2, hv⟩ := own_len gI.out.1
        subst hv
        subst h0
        go_wp2_with fail
        go_ret
        exact ⟨_, rfl, by decide +kernel, gE.out⟩
      · obtain ⟨hcv, A2, c2, hv⟩ := own_str gI.out.1 (by omega)
        subst hv
        have gs := Lib.hid (chk_strOf (l := l) (by have := gI.out.2.1; omega) (by have := gI.out.2.1; omega) gI.out.2.2.1)
        have hne : ((k : Int) == 0) = false := beq_eq_false_iff_ne.2 (by omega)
        go_wp2_with fail
        go_ret
        exact ⟨_, rfl, gs.out, gE.out⟩
end Go.Proofs.YtipammomoeklnaaDoor
