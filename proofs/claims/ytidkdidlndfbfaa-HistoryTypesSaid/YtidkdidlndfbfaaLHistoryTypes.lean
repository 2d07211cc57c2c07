/- HistoryTypes: the walk. -/
import Derived.Test.YtidkdidlndfbfaaPointAt
import Derived.Test.YtidkdidlndfbfaaRow
import Derived.Test.YtidkdidlndfbfaaWorks
namespace Go.Proofs.Ytidkdidlndfbfaa
open Go.RowKit HP
theorem slice_shorts (A : Option Addr) (n c r : Nat) (h : r ≤ c) (w' : World) : (Instr.slice 67 (.slice A n c) none (some (.int .i64 (r : Int))) none).run Try.prog w' = .ok (.slice A r c) w' := by
  cases A <;> simp [Instr.slice, run_underlying Try.underlying67, Instr.sliceBounds, Instr.sliceBound, asIntOf, h, Addr.add]
theorem low_ok {f : Nat} (h : f < 65536) : wrap64 (-1 - (f : Int)) = -1 - (f : Int) := by unfold wrap64; omega
theorem high_ok {f : Nat} (h : f < 65536) : wrap64 (100001 + (f : Int)) = 100001 + (f : Int) := by unfold wrap64; omega
/-- The limits that are refused. -/
def bads (f : Nat) : Array Value := #[.int .i64 (-1 - (f : Int)), .int .i64 (100001 + (f : Int)), .int .i64 (-9223372036854775808), .int .i64 9223372036854775807]
theorem bads_at {w : World} {f : Nat} (k : Nat) (hk : k < 4) : ∃ n : Int, (w.alloc (.cells (bads f) 3)).cell? ⟨w.heap.size, k, none⟩ = some (.int .i64 n) ∧ (n < 0 ∨ 100000 < n) := by
  rcases k with _ | _ | _ | _ | k
  · exact ⟨_, World.cell?_alloc_new _ _ _ _, .inl (by omega)⟩
  · exact ⟨_, World.cell?_alloc_new _ _ _ _, .inr (by omega)⟩
  · exact ⟨_, World.cell?_alloc_new _ _ _ _, .inl (by omega)⟩
  · exact ⟨_, World.cell?_alloc_new _ _ _ _, .inr (by omega)⟩
  · omega
/-- The points so far. -/
def pts (zs : List Int) (k : Nat) : List E := (List.range k).map fun (i : Nat) => ((i : Int), zs.getD i 0)
theorem pts_suc {zs : List Int} {k n : Nat} (h : zs[k]? = some (n : Int)) : pts zs (k + 1) = pts zs k ++ [((k : Int), (n : Int))] := by
  simp [pts, List.range_succ, List.getD, h]
theorem pts_len (zs : List Int) (k : Nat) : (pts zs k).length = k := by simp [pts]
theorem pts_at {zs : List Int} {k m n : Nat} (h : zs[k]? = some (n : Int)) (hk : k < m) : (pts zs m)[k]? = some ((k : Int), (n : Int)) := by
  simp [pts, hk, List.getD, h]
def PHas (w0 : World) (P lim : Nat) (l : List E) (w : World) : Prop := ∃ v, HOwn w w0.heap.size P lim v l ∧ Below w0.heap.size w0 w
theorem phas_add {w0 w : World} {P lim : Nat} {l : List E} (h : PHas w0 P lim l w) (hl : l.length < lim) (x : E) : Calls Try.prog 38 #[.pointer (some ⟨P, 0, none⟩), .agg #[.int .i64 x.1, .int .i64 x.2]] w fun e w' => e = .returned (.int .i64 0) ∧ PHas w0 P lim (l ++ [x]) w' := by
  obtain ⟨v, h1, h2⟩ := h
  refine (add_any h1 hl x).mono ?_
  rintro e w' ⟨rfl, v', h3, h4⟩
  exact ⟨rfl, v', h3, h2.trans (h4.below h2.size h1.foot_le).1⟩
theorem PHas.low {w0 w : World} {P lim : Nat} {l : List E} (h : PHas w0 P lim l w) : Below w0.heap.size w0 w := by
  obtain ⟨v, h1, h2⟩ := h
  exact h2
theorem PHas.below {w0 w w' : World} {P lim : Nat} {l : List E} (h : PHas w0 P lim l w) (hb : Below w.heap.size w w') : PHas w0 P lim l w' := by
  obtain ⟨v, h1, h2⟩ := h
  exact ⟨v, h1.below hb, h2.trans (hb.mono h2.size)⟩
theorem phas_at {w0 w : World} {P lim : Nat} {l : List E} (h : PHas w0 P lim l w) (i : Nat) (x : E) (hx : l[i]? = some x) : Calls Try.prog 39 #[.pointer (some ⟨P, 0, none⟩), .int .i64 (i : Nat)] w fun e w' => e = .returned (.tuple #[.agg #[.int .i64 x.1, .int .i64 x.2], .int .i64 0]) ∧ PHas w0 P lim l w' := by
  obtain ⟨v, h1, h2⟩ := h
  refine (at_any h1 i x hx).mono ?_
  rintro e w' ⟨rfl, hb⟩
  exact ⟨rfl, PHas.below ⟨v, h1, h2⟩ hb⟩
theorem phas_full {w0 w : World} {P lim : Nat} {l : List E} (h : PHas w0 P lim l w) (hl : l.length = lim) (x : E) : Calls Try.prog 38 #[.pointer (some ⟨P, 0, none⟩), .agg #[.int .i64 x.1, .int .i64 x.2]] w fun e w' => e = .returned (.int .i64 4) ∧ Below w.heap.size w w' := by
  obtain ⟨v, h1, h2⟩ := h
  exact add_full h1 hl x
theorem phas_new {w0 w : World} (n : Nat) (h : n ≤ 100000) (hb : Below w0.heap.size w0 w) : Calls Try.prog 37 #[.int .i64 (n : Nat)] w fun e w' => e = .returned (.tuple #[.pointer (some ⟨w.heap.size, 0, none⟩), .int .i64 0]) ∧ Hid (PHas w0 w.heap.size n [] w' ∧ Below w.heap.size w w') := by
  refine (new_any n w h).mono ?_
  rintro e w' ⟨rfl, g⟩
  obtain ⟨h1, h2⟩ := g.out
  have hs := hb.size
  exact ⟨rfl, ⟨_, ⟨hs, h1.blk, h1.row.mono hs, h1.le, h1.lim_le⟩, hb.trans (h2.mono hs)⟩, h2⟩
set_option maxRecDepth 1000000 in
set_option maxHeartbeats 16000000 in
theorem historyTypes_walk (a0 : Option Addr) (len0 cap0 : Nat) (z0 : List Int) (a1 : Int) (w : World) (w0 : IsRow .u16 w a0 len0 cap0 z0) (w1 : (Lit.int .u16 a1).wf = true) :
    Calls Try.prog 9 #[.slice a0 len0 cap0, .int .u16 a1] w fun e w' => e = .returned (.bool true) ∧ Below w.heap.size w w' := by
  obtain ⟨far, rfl, hfar⟩ := u16_nat w1
  have hc0 := w0.len
  obtain ⟨m, hm⟩ : ∃ m, m = min len0 60 := ⟨_, rfl⟩
  have hmi : (min (len0 : Int) 60) = (m : Nat) := by omega
  have hmn : m ≤ len0 := by omega
  have hm60 : m ≤ 60 := by omega
  have hsl := slice_shorts a0 len0 cap0 m (by omega)
  have hlow := low_ok hfar
  have hhigh := high_ok hfar
  have gM := Lib.hid w0
  clear w0 w1 hm
  go_enter Try.func9, Try.ntmps9
  go_wp2_with fail
  have gsl := Lib.hid hsl
  have gmi := Lib.hid hmi
  clear hlow hhigh hsl hmi
  obtain ⟨W, hW⟩ : ∃ W, W = w.alloc (.cells (bads far) 3) := ⟨_, rfl⟩
  have gW := Lib.hid hW
  go_loopw [26] (fun i wr => ∃ k : Nat, k ≤ 4 ∧ i = .int .i64 (k : Nat) ∧ Hid (wr = W)) (fun i _ => 4 - (intOf i).toNat)
  case atStart => exact ⟨0, by omega, rfl, hW.symm⟩
  case round =>
    obtain ⟨k, hk, rfl, gR⟩ := hrel
    obtain rfl := gR.out
    by_cases hlt : k < 4
    · obtain ⟨n, hc, hbad⟩ := bads_at (w := w) (f := far) k hlt
      rw [← hW] at hc
      clear hW
      go_wp2_with fail
      refine (new_bad n _ hbad).mono ?_
      rintro e _ ⟨rfl, rfl⟩
      clear hbad hc
      go_wp2_with fail
      go_roundw
      case rel => exact ⟨k + 1, by omega, by simp, trivial⟩
      case measure => simp [intOf]; omega
    · obtain rfl : k = 4 := by omega
      have hBW : Below w.heap.size w wr := by rw [hW]; exact (Below.refl _ w).alloc (Nat.le_refl _) _
      have hsl := gsl.out
      have hmi := gmi.out
      clear hW gW gR gsl gmi hk hlt
      go_wp2_with fail
      refine (phas_new (w0 := w) m (by omega) hBW).mono ?_
      rintro e w1 ⟨rfl, g⟩
      obtain ⟨P, hP⟩ : ∃ P, P = wr.heap.size := ⟨_, rfl⟩
      rw [← hP] at g ⊢
      have gH0 := Lib.hid g.out.1
      clear g hP hBW hsl hmi
      go_wp2_with fail
      go_loopw [57] (fun i wr => ∃ k : Nat, k ≤ m ∧ i = .int .i64 (k : Nat) ∧ Hid (PHas w P m (pts z0 k) wr)) (fun i _ => m - (intOf i).toNat)
      case atStart => exact ⟨0, by omega, rfl, gH0.out⟩
      case round =>
        obtain ⟨k, hk, rfl, gR⟩ := hrel
        clear gH0
        by_cases hlt : k < m
        · obtain ⟨b, o, n, rfl, hz, hn, hc⟩ := gM.out.at16 gR.out.low (show k < len0 by omega)
          have gz := Lib.hid hz
          clear hz
          go_wp2_with fail
          refine (phas_add gR.out (by rw [pts_len]; exact hlt) ((k : Int), (n : Int))).mono ?_
          rintro e W2 ⟨rfl, h2⟩
          have g2 := Lib.hid (show PHas w P m (pts z0 (k + 1)) W2 by rw [pts_suc gz.out]; exact h2)
          clear h2 gR hc gz
          go_wp2_with fail
          go_roundw
          case rel => exact ⟨k + 1, by omega, by simp, g2.out⟩
          case measure => simp [intOf]; omega
        · obtain rfl : k = m := by omega
          have gH := Lib.hid gR.out
          clear gR hlt hk
          go_wp2_with fail
          go_loopw [72] (fun i wr => ∃ j : Nat, j ≤ k ∧ i = .int .i64 (j : Nat) ∧ Hid (PHas w P k (pts z0 k) wr)) (fun i _ => k - (intOf i).toNat)
          case atStart => exact ⟨0, by omega, rfl, gH.out⟩
          case round =>
            obtain ⟨j, hj, rfl, gR⟩ := hrel
            clear gH
            by_cases hlt : j < k
            · obtain ⟨b, o, n, rfl, hz, hn, hc⟩ := gM.out.at16 gR.out.low (show j < len0 by omega)
              have gz := Lib.hid hz
              clear hz
              go_wp2_with fail
              refine (phas_at gR.out j ((j : Int), (n : Int)) (pts_at gz.out hlt)).mono ?_
              rintro e W2 ⟨rfl, h2⟩
              have g2 := Lib.hid (h2.below ((Below.refl _ W2).alloc (Nat.le_refl _) (.cells #[.int .i64 (j : Int), .int .i64 (n : Int)] 72)))
              clear h2 gR hc gz
              go_wp2_with fail
              go_roundw
              case rel => exact ⟨j + 1, by omega, by simp, g2.out⟩
              case measure => simp [intOf]; omega
            · obtain rfl : j = k := by omega
              have gH := Lib.hid gR.out
              clear gR hlt hj
              go_wp2_with fail
              refine (phas_new (w0 := w) 100000 (by omega) gH.out.low).mono ?_
              rintro e w1 ⟨rfl, g⟩
              obtain ⟨D, hD⟩ : ∃ D, D = wr.heap.size := ⟨_, rfl⟩
              rw [← hD]
              have gX := Lib.hid (gH.out.below g.out.2)
              have gD := Lib.hid (show PHas w D 100000 [] w1 by rw [hD]; exact g.out.1)
              clear g gH hD
              go_wp2_with fail
              refine (phas_full gX.out (pts_len _ _) ((0 : Int), (0 : Int))).mono ?_
              rintro e w2 ⟨rfl, hb2⟩
              have gD2 := Lib.hid (gD.out.below hb2)
              clear hb2 gX gD
              go_wp2_with fail
              refine (phas_add gD2.out (by decide) ((0 : Int), (0 : Int))).mono ?_
              rintro e w3 ⟨rfl, h3⟩
              have gD3 := Lib.hid h3.low
              clear h3 gD2
              go_wp2_with fail
              refine (works_any _).mono ?_
              rintro e w4 ⟨rfl, hb4⟩
              have gE := Lib.hid (gD3.out.trans (hb4.mono gD3.out.size))
              clear hb4 gD3
              go_wp2_with fail
              go_ret
              exact ⟨rfl, gE.out⟩
end Go.Proofs.Ytidkdidlndfbfaa
