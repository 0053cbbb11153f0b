/- The newest version up to a time, and of an id: what the specification answers. -/
import Derived.Test.YtkafanjfjplakaaGreatDoorColL
namespace Go.Proofs.YtkafanjfjplakaaGreatDoor.Co
open Go.RowKit Tr
set_option linter.unusedVariables false

theorem atS_take (time : Int) (l : List Ver) (k : Nat) (h : k < l.length) : atS time zG (l.take (k + 1)) = if l[k].tm ≤ time then l[k] else atS time zG (l.take k) := by
  unfold atS; rw [List.take_succ_eq_append_getElem h, List.foldl_append]; rfl
/-- What came in, the answer's own place, and what is found so far. -/
structure AtB (w W : World) (id : Int) (s : Value) (cur : Ver) : Prop where
  bel : Below w.heap.size w W
  lt : w.heap.size + 2 < W.heap.size
  xb : W.heap[w.heap.size]? = some (.cells #[.int .i64 id, s] 94)
  rb : W.heap[w.heap.size + 1]? = some (.cells #[.int .i64 0, .bool false, .int .i64 0, .int .i64 0, .string em] 96)
  ob : W.heap[w.heap.size + 2]? = some (.cells #[.int .i64 cur.tm, .bool cur.gone, .int .i64 cur.doc.k, .int .i64 cur.doc.n, .string cur.doc.t] 96)
theorem two {W : World} {b : Nat} {T : TypeId} {v0 v1 : Value} (h : W.heap[b]? = some (.cells #[v0, v1] T)) : W.cell? ⟨b, 0, none⟩ = some v0 ∧ W.cell? ⟨b, 1, none⟩ = some v1 := by
  refine ⟨?_, ?_⟩ <;> simp [World.cell?, h]
theorem AtB.put {w W : World} {id : Int} {s : Value} {cur : Ver} (h : AtB w W id s cur) (v : Ver) :
    AtB w (((((W.setCell ⟨w.heap.size + 2, 0, none⟩ (.int .i64 v.tm)).setCell ⟨w.heap.size + 2, 1, none⟩ (.bool v.gone)).setCell ⟨w.heap.size + 2, 2, none⟩ (.int .i64 v.doc.k)).setCell ⟨w.heap.size + 2, 3, none⟩ (.int .i64 v.doc.n)).setCell ⟨w.heap.size + 2, 4, none⟩ (.string v.doc.t)) id s v := by
  refine ⟨?_, by simpa [World.setCell] using h.lt, ?_, ?_, ?_⟩
  · have hb := h.bel
    exact ((((hb.setCell (by show w.heap.size ≤ w.heap.size + 2; omega) _).setCell (by show w.heap.size ≤ w.heap.size + 2; omega) _).setCell (by show w.heap.size ≤ w.heap.size + 2; omega) _).setCell (by show w.heap.size ≤ w.heap.size + 2; omega) _).setCell (by show w.heap.size ≤ w.heap.size + 2; omega) _
  · rw [set_other (by omega), set_other (by omega), set_other (by omega), set_other (by omega), set_other (by omega)]; exact h.xb
  · rw [set_other (by omega), set_other (by omega), set_other (by omega), set_other (by omega), set_other (by omega)]; exact h.rb
  · rw [set_same (set_same (set_same (set_same (set_same h.ob))))]; rfl
theorem AtB.start (w : World) (id : Int) (s : Value) : AtB w (((w.alloc (.cells #[.int .i64 id, s] 94)).alloc (.cells #[.int .i64 0, .bool false, .int .i64 0, .int .i64 0, .string em] 96)).alloc (.cells #[.int .i64 0, .bool true, .int .i64 0, .int .i64 0, .string em] 96)) id s zG := by
  refine ⟨((Below.refl _ _).alloc (Nat.le_refl _) _ |>.alloc (by simp) _).alloc (by simp; omega) _, by simp, ?_, ?_, ?_⟩
  · rw [heap_alloc_old _ _ (by simp; omega), heap_alloc_old _ _ (by simp)]; exact heap_alloc_new _ _
  · rw [heap_alloc_old _ _ (by simp)]
    have := heap_alloc_new (w.alloc (.cells #[.int .i64 id, s] 94)) (.cells #[.int .i64 0, .bool false, .int .i64 0, .int .i64 0, .string em] 96)
    rw [heap_size_alloc] at this; exact this
  · have := heap_alloc_new ((w.alloc (.cells #[.int .i64 id, s] 94)).alloc (.cells #[.int .i64 0, .bool false, .int .i64 0, .int .i64 0, .string em] 96)) (.cells #[.int .i64 0, .bool true, .int .i64 0, .int .i64 0, .string em] 96)
    rw [heap_size_alloc, heap_size_alloc] at this; exact this

set_option maxRecDepth 4000 in
set_option maxHeartbeats 1000000 in
theorem l08At_any (id time : Int) (p : Option Addr) (cap : Nat) (l : List Ver) (w : World) (hin : InVr w p l) (hl : l.length ≤ 1048576) :
    Calls Tryz.prog 167 #[.agg #[.int .i64 id, .slice p l.length cap], .int .i64 time] w fun e w' => e = .returned (.agg #[.int .i64 (atS time zG l).tm, .bool (atS time zG l).gone, .int .i64 (atS time zG l).doc.k, .int .i64 (atS time zG l).doc.n, .string (atS time zG l).doc.t]) ∧ Below w.heap.size w w' := by
  obtain ⟨R, hR⟩ : ∃ R, R = atS time zG l := ⟨_, rfl⟩
  rw [← hR]
  have HR : Hid (R = atS time zG l) := hR
  have HI : Hid (InVr _ _ _) := hin
  have K0 := AtB.start w id (.slice p l.length cap)
  clear hR hin
  go_enter Tryz.func167, Tryz.ntmps167
  go_wp2_with fail
  generalize (((w.alloc (.cells #[.int .i64 id, .slice p l.length cap] 94)).alloc (.cells #[.int .i64 0, .bool false, .int .i64 0, .int .i64 0, .string em] 96)).alloc (.cells #[.int .i64 0, .bool true, .int .i64 0, .int .i64 0, .string em] 96)) = W0 at K0 ⊢
  go_loopw [6] (fun i wr => ∃ k : Nat, k ≤ l.length ∧ i = .int .i64 k ∧ AtB w wr id (.slice p l.length cap) (atS time zG (l.take k))) (fun i _ => l.length - (intOf i).toNat)
  case atStart => exact ⟨0, Nat.zero_le _, rfl, K0⟩
  case round =>
    obtain ⟨k, hk, rfl, K⟩ := hrel
    clear K0
    obtain ⟨x0, x1⟩ := two K.xb
    by_cases hlt : k < l.length
    · rcases HI.out.step K.bel with h0 | ⟨b, off, rfl, hbl, hcell⟩
      · omega
      obtain ⟨y0, y1, y2, y3, y4⟩ := hcell k hlt
      have hst := atS_take time l k hlt
      have hlt2 : (k : Int) < (l.length : Int) := by omega
      obtain ⟨v, hv⟩ : ∃ v, v = l[k] := ⟨_, rfl⟩
      rw [← hv] at y0 y1 y2 y3 y4 hst
      obtain ⟨cur, hcur⟩ : ∃ cur, cur = atS time zG (l.take k) := ⟨_, rfl⟩
      rw [← hcur] at hst K
      obtain ⟨t0, t1, t2, t3, t4⟩ := five K.ob
      have hs := fun o => soft K.ob o
      clear hcell hv hcur
      by_cases hle : v.tm ≤ time
      · rw [if_pos hle] at hst
        have HST : Hid (atS time zG (l.take (k + 1)) = v) := hst
        have K2 := K.put v
        have HK2 : Hid (AtB _ _ _ _ _) := K2
        clear hst K2
        go_wp2_with fail
        go_roundw
        case rel => exact ⟨k + 1, by omega, by go_num, by rw [HST.out]; exact HK2.out⟩
        case measure => simp [intOf]; omega
      · rw [if_neg hle] at hst
        have HST : Hid (atS time zG (l.take (k + 1)) = cur) := hst
        have HK2 : Hid (AtB _ _ _ _ _) := K
        clear hst
        go_wp2_with fail
        go_roundw
        case rel => exact ⟨k + 1, by omega, by go_num, by rw [HST.out]; exact HK2.out⟩
        case measure => simp [intOf]; omega
    · have hlt2 : ¬ (k : Int) < (l.length : Int) := by omega
      have hRk : R = atS time zG (l.take k) := by rw [HR.out, List.take_of_length_le (by omega)]
      rw [← hRk] at K
      obtain ⟨t0, t1, t2, t3, t4⟩ := five K.ob
      obtain ⟨q0, q1, q2, q3, q4⟩ := five K.rb
      have hq := fun o => soft K.rb o
      have hbw := K.bel
      clear hRk
      go_wp2_with fail
      refine bodyPost_ret (v := .agg #[.int .i64 R.tm, .bool R.gone, .int .i64 R.doc.k, .int .i64 R.doc.n, .string R.doc.t]) (by simp [results, Tryz.results167, go_sem, *]) rfl ⟨rfl, ?_⟩
      (repeat (first | (with_reducible exact Below.refl _ _) | (with_reducible assumption) | (with_reducible apply below_drewN) | (with_reducible apply Below.drew) | ((with_reducible refine Below.setCell ?_ ?_ _); rotate_left; focus (first | (simp; done) | (simp; omega) | omega)) | ((with_reducible refine Below.alloc ?_ ?_ _); rotate_left; focus (first | (simp; done) | (simp; omega) | omega))))

/-- The newest version of an id, zero but gone without any. -/
def lastS (c : List Chn) (id : Int) : Ver := match findC id c with | some x => atS 10000 zG x.vs | none => zG
theorem box3_res (w : World) (a b d : Value) : ((w.alloc (.cells #[a, b, d] 30)).alloc (.cells #[.int .i64 0, .bool false, .int .i64 0, .int .i64 0, .string em] 96)).heap[w.heap.size + 1]? = some (.cells #[.int .i64 0, .bool false, .int .i64 0, .int .i64 0, .string em] 96) := by
  have := heap_alloc_new (w.alloc (.cells #[a, b, d] 30)) (.cells #[.int .i64 0, .bool false, .int .i64 0, .int .i64 0, .string em] 96)
  rw [heap_size_alloc] at this; exact this
set_option maxRecDepth 4000 in
set_option maxHeartbeats 2000000 in
theorem l08Last_any (n : ByteArray) (q : Value) (chs : List Chn) (id : Int) (g1 cp : Nat) (w : World) (hr : ReadCc w g1 chs) (hl : chs.length ≤ 1048576) (hs : ∀ x ∈ chs, x.vs.length ≤ 1048576) :
    Calls Tryz.prog 118 #[.agg #[.string n, .slice (some ⟨g1, 0, none⟩) chs.length cp, q], .int .i64 id] w fun e w' => e = .returned (.agg #[.int .i64 (lastS chs id).tm, .bool (lastS chs id).gone, .int .i64 (lastS chs id).doc.k, .int .i64 (lastS chs id).doc.n, .string (lastS chs id).doc.t]) ∧ Below w.heap.size w w' := by
  have X0 := Boxed.start w (.string n) (.slice (some ⟨g1, 0, none⟩) chs.length cp) q 30
  have hb0 : Below (w.alloc (.cells #[.string n, .slice (some ⟨g1, 0, none⟩) chs.length cp, q] 30)).heap.size (w.alloc (.cells #[.string n, .slice (some ⟨g1, 0, none⟩) chs.length cp, q] 30)) ((w.alloc (.cells #[.string n, .slice (some ⟨g1, 0, none⟩) chs.length cp, q] 30)).alloc (.cells #[.int .i64 0, .bool false, .int .i64 0, .int .i64 0, .string em] 96)) := (Below.refl _ _).alloc (Nat.le_refl _) _
  have hrb := box3_res w (.string n) (.slice (some ⟨g1, 0, none⟩) chs.length cp) q
  have X1 := X0.step hb0
  have HR : Hid (ReadCc _ _ _) := hr.next X1.bel
  have HS : Hid _ := hs
  obtain ⟨L, hL⟩ : ∃ L, L = lastS chs id := ⟨_, rfl⟩
  rw [← hL]
  have HL : Hid (L = lastS chs id) := hL
  clear hr hs X0 hb0 hL
  go_enter Tryz.func118, Tryz.ntmps118
  go_wp2_with fail
  generalize ((w.alloc (.cells #[.string n, .slice (some ⟨g1, 0, none⟩) chs.length cp, q] 30)).alloc (.cells #[.int .i64 0, .bool false, .int .i64 0, .int .i64 0, .string em] 96)) = W0 at X1 hrb HR ⊢
  have hl0 : w.heap.size + 1 < W0.heap.size := by
    rcases Nat.lt_or_ge (w.heap.size + 1) W0.heap.size with h | h
    · exact h
    · rw [Array.getElem?_eq_none h] at hrb; cases hrb
  go_loopw [5] (fun i wr => ∃ k : Nat, k ≤ chs.length ∧ i = .int .i64 k ∧ (∀ j (h : j < chs.length), j < k → chs[j].id ≠ id) ∧ Below W0.heap.size W0 wr) (fun i _ => chs.length - (intOf i).toNat)
  case atStart => exact ⟨0, Nat.zero_le _, rfl, (fun j h hj => by omega), Below.refl _ _⟩
  case round =>
    obtain ⟨k, hk, rfl, hno, hbel⟩ := hrel
    have HNO : Hid (∀ j (h : j < chs.length), j < k → chs[j].id ≠ id) := hno
    have X := X1.step hbel
    have c1 := X.c1
    have hrbk := (hbel.block _ hl0).trans hrb
    have hlk := Nat.lt_of_lt_of_le hl0 hbel.size
    clear hno
    by_cases hlt : k < chs.length
    · have RD := HR.out.next hbel
      obtain ⟨x0, pv, cv, x1, hcv, hT⟩ := RD.cells k hlt
      have hgl := RD.lt
      have hlt2 : (k : Int) < (chs.length : Int) := by omega
      have hsx := HS.out chs[k] (List.getElem_mem _)
      have HLK : Hid (chs[k].id = id → L = atS 10000 zG chs[k].vs) := fun e => by rw [HL.out]; unfold lastS; rw [findC_at id chs k hlt HNO.out e]
      obtain ⟨v, hv⟩ : ∃ v, v = chs[k] := ⟨_, rfl⟩
      have HVK : Hid (v = chs[k]) := hv
      rw [← hv] at x0 x1 hT hsx HLK
      have HAT : Hid (Calls _ _ _ _ _) := l08At_any v.id 10000 pv cv v.vs wr hT hsx
      clear hT hsx RD hv
      by_cases he : v.id = id
      · have he2 : (v.id == id) = true := by simp [he]
        rw [← HLK.out he] at HAT
        clear HLK he
        go_wp2_with fail
        refine HAT.out.mono ?_
        rintro e w1 ⟨rfl, hb⟩
        have hrb1 := (hb.block _ hlk).trans hrbk
        obtain ⟨q0, q1, q2, q3, q4⟩ := five hrb1
        have hq := fun o => soft hrb1 o
        have hbw := (X.step hb).bel
        clear hb HAT
        go_wp2_with fail
        refine bodyPost_ret (v := .agg #[.int .i64 L.tm, .bool L.gone, .int .i64 L.doc.k, .int .i64 L.doc.n, .string L.doc.t]) (by simp [results, Tryz.results118, go_sem, *]) rfl ⟨rfl, ?_⟩
        (repeat (first | (with_reducible exact Below.refl _ _) | (with_reducible assumption) | (with_reducible apply below_drewN) | (with_reducible apply Below.drew) | ((with_reducible refine Below.setCell ?_ ?_ _); rotate_left; focus (first | (simp; done) | (simp; omega) | omega)) | ((with_reducible refine Below.alloc ?_ ?_ _); rotate_left; focus (first | (simp; done) | (simp; omega) | omega))))
      · have he2 : (v.id == id) = false := beq_eq_false_iff_ne.mpr he
        have HNE : Hid (v.id ≠ id) := he
        clear HLK he HAT
        go_wp2_with fail
        go_roundw
        case rel =>
          refine ⟨k + 1, by omega, by go_num, fun j h hj => ?_, hbel⟩
          rcases Nat.lt_or_ge j k with h2 | h2
          · exact HNO.out j h h2
          · obtain rfl : j = k := by omega
            rw [← HVK.out]; exact HNE.out
        case measure => simp [intOf]; omega
    · have hlt2 : ¬ (k : Int) < (chs.length : Int) := by omega
      have hLz : L = zG := by
        rw [HL.out]; unfold lastS
        rw [findC_none id chs (fun x hx => by obtain ⟨j, hj, rfl⟩ := List.getElem_of_mem hx; exact HNO.out j hj (by omega))]
      have HLZ : Hid (L = zG) := hLz
      obtain ⟨q0, q1, q2, q3, q4⟩ := five hrbk
      have hq := fun o => soft hrbk o
      have hbw := X.bel
      clear hLz
      go_wp2_with fail
      refine bodyPost_ret (v := .agg #[.int .i64 0, .bool true, .int .i64 0, .int .i64 0, .string em]) (by simp [results, Tryz.results118, go_sem, *]) rfl ⟨by rw [HLZ.out]; rfl, ?_⟩
      (repeat (first | (with_reducible exact Below.refl _ _) | (with_reducible assumption) | (with_reducible apply below_drewN) | (with_reducible apply Below.drew) | ((with_reducible refine Below.setCell ?_ ?_ _); rotate_left; focus (first | (simp; done) | (simp; omega) | omega)) | ((with_reducible refine Below.alloc ?_ ?_ _); rotate_left; focus (first | (simp; done) | (simp; omega) | omega))))

/-- A version in its block. -/
structure V5 (U : World) (b : Nat) (v : Ver) : Prop where
  lt : b < U.heap.size
  cb : U.heap[b]? = some (.cells #[.int .i64 v.tm, .bool v.gone, .int .i64 v.doc.k, .int .i64 v.doc.n, .string v.doc.t] 96)
theorem V5.new (U : World) (v : Ver) : V5 (U.alloc (.cells #[.int .i64 v.tm, .bool v.gone, .int .i64 v.doc.k, .int .i64 v.doc.n, .string v.doc.t] 96)) U.heap.size v := ⟨by simp, heap_alloc_new _ _⟩
theorem V5.step {U U' : World} {b : Nat} {v : Ver} (h : V5 U b v) (hb : Below U.heap.size U U') : V5 U' b v := ⟨Nat.lt_of_lt_of_le h.lt hb.size, (hb.block _ h.lt).trans h.cb⟩

end Go.Proofs.YtkafanjfjplakaaGreatDoor.Co
