/- Copies of versions, and where a chain stands: what the program answers. -/
import Derived.Test.YtkafanjfjplakaaGreatDoorColT
import Derived.Test.YtkafanjfjplakaaGreatDoorOwn
import Derived.Test.YtkafanjfjplakaaGreatDoorOrdI
import Derived.Deep.RegionHeld3
namespace Go.Proofs.YtkafanjfjplakaaGreatDoor.Co
open Go.RowKit Tr
set_option linter.unusedVariables false

/-- A version's five cells in the first new block, five empty ones that may be written in the second. -/
structure OwnVe (w W : World) (t : Ver) : Prop where
  bel : Below w.heap.size w W
  lt : w.heap.size + 1 < W.heap.size
  cb : W.heap[w.heap.size]? = some (.cells #[.int .i64 t.tm, .bool t.gone, .int .i64 t.doc.k, .int .i64 t.doc.n, .string t.doc.t] 96)
  db : W.heap[w.heap.size + 1]? = some (.cells #[.int .i64 0, .bool false, .int .i64 0, .int .i64 0, .string em] 96)
theorem OwnVe.start (w : World) (t : Ver) : OwnVe w ((w.alloc (.cells #[.int .i64 t.tm, .bool t.gone, .int .i64 t.doc.k, .int .i64 t.doc.n, .string t.doc.t] 96)).alloc (.cells #[.int .i64 0, .bool false, .int .i64 0, .int .i64 0, .string em] 96)) t := by
  refine ⟨((Below.refl _ _).alloc (Nat.le_refl _) _).alloc (by simp) _, by simp, ?_, ?_⟩
  · rw [heap_alloc_old _ _ (by simp)]; exact heap_alloc_new _ _
  · have := heap_alloc_new (w.alloc (.cells #[.int .i64 t.tm, .bool t.gone, .int .i64 t.doc.k, .int .i64 t.doc.n, .string t.doc.t] 96)) (.cells #[.int .i64 0, .bool false, .int .i64 0, .int .i64 0, .string em] 96)
    rw [heap_size_alloc] at this; exact this
theorem OwnVe.step {w W W' : World} {t : Ver} (h : OwnVe w W t) (hb : Below W.heap.size W W') : OwnVe w W' t :=
  have hl : w.heap.size < W.heap.size := Nat.lt_of_succ_lt h.lt
  ⟨h.bel.trans (hb.mono h.bel.size), Nat.lt_of_lt_of_le h.lt hb.size, (hb.block _ hl).trans h.cb, (hb.block _ h.lt).trans h.db⟩
theorem keepVe {w W W' : World} {t : Ver} (h : OwnVe w W t) (hb : Below (w.heap.size + 1) W W') : W'.cell? ⟨w.heap.size, 0, none⟩ = some (.int .i64 t.tm) ∧ W'.cell? ⟨w.heap.size, 1, none⟩ = some (.bool t.gone) ∧ W'.cell? ⟨w.heap.size, 2, none⟩ = some (.int .i64 t.doc.k) ∧ W'.cell? ⟨w.heap.size, 3, none⟩ = some (.int .i64 t.doc.n) ∧ W'.cell? ⟨w.heap.size, 4, none⟩ = some (.string t.doc.t) :=
  have hl : w.heap.size < w.heap.size + 1 := Nat.lt_succ_self _
  have hc := five h.cb
  ⟨(hb.cell hl).trans hc.1, (hb.cell hl).trans hc.2.1, (hb.cell hl).trans hc.2.2.1, (hb.cell hl).trans hc.2.2.2.1, (hb.cell hl).trans hc.2.2.2.2⟩

set_option maxRecDepth 4000 in
set_option maxHeartbeats 4000000 in
theorem ownVer_any (t : Ver) (w : World) (hs : t.doc.t.size ≤ 1048576) :
    Calls Tryz.prog 72 #[.agg #[.int .i64 t.tm, .bool t.gone, .int .i64 t.doc.k, .int .i64 t.doc.n, .string t.doc.t]] w fun e w' => e = .returned (.agg #[.int .i64 t.tm, .bool t.gone, .int .i64 t.doc.k, .int .i64 t.doc.n, .string t.doc.t]) ∧ Below w.heap.size w w' := by
  have X0 := OwnVe.start w t
  have HV : Hid (∀ W : World, Calls _ _ _ W _) := fun W => ownValue_any t.doc.k t.doc.n t.doc.t W hs
  clear hs
  go_enter Tryz.func72, Tryz.ntmps72
  go_wp2_with fail
  generalize (w.alloc (.cells #[.int .i64 t.tm, .bool t.gone, .int .i64 t.doc.k, .int .i64 t.doc.n, .string t.doc.t] 96)).alloc (.cells #[.int .i64 0, .bool false, .int .i64 0, .int .i64 0, .string em] 96) = W0 at X0 ⊢
  obtain ⟨a0, a1, a2, a3, a4⟩ := five X0.cb
  have hlt0 := X0.lt
  have hltw : w.heap.size < W0.heap.size := Nat.lt_of_succ_lt hlt0
  have hbw := X0.bel
  go_region_held3 (fun w0 => w0.cell? ⟨w.heap.size, 0, none⟩ = some (.int .i64 t.tm) ∧ w0.cell? ⟨w.heap.size, 1, none⟩ = some (.bool t.gone) ∧ w0.cell? ⟨w.heap.size, 2, none⟩ = some (.int .i64 t.doc.k) ∧ w0.cell? ⟨w.heap.size, 3, none⟩ = some (.int .i64 t.doc.n) ∧ w0.cell? ⟨w.heap.size, 4, none⟩ = some (.string t.doc.t)) ((refine keepVe X0 ?_; (repeat (first | (with_reducible exact Below.refl _ _) | (with_reducible assumption) | (with_reducible apply below_drewN) | (with_reducible apply Below.drew) | ((with_reducible refine Below.setCell ?_ ?_ _); rotate_left; focus (first | (simp; done) | (simp; omega) | omega)) | ((with_reducible refine Below.alloc ?_ ?_ _); rotate_left; focus (first | (simp; done) | (simp; omega) | omega)))))) ((go_at_call 127; refine (HV.out _).mono ?_; rintro e w2 ⟨rfl, hb⟩; have hB2 : Below W0.heap.size W0 w2 := (show Below W0.heap.size W0 _ by (repeat (first | (with_reducible exact Below.refl _ _) | (with_reducible assumption) | (with_reducible apply below_drewN) | (with_reducible apply Below.drew) | ((with_reducible refine Below.setCell ?_ ?_ _); rotate_left; focus (first | (simp; done) | (simp; omega) | omega)) | ((with_reducible refine Below.alloc ?_ ?_ _); rotate_left; focus (first | (simp; done) | (simp; omega) | omega))))).trans (hb.mono (by first | (simp; done) | (simp; omega) | omega)); have hB2' : Below (w.heap.size + 1) W0 w2 := hB2.mono (by omega); have hzb2 := hB2.size; have hn2 := Nat.lt_of_lt_of_le hltw hzb2; have ho2 := Nat.lt_of_lt_of_le hlt0 hzb2; have Y2 := X0.step hB2; have k0 := (five Y2.db).1; have k1 := (five Y2.db).2.1; have k2 := (five Y2.db).2.2.1; have k3 := (five Y2.db).2.2.2.1; have k4 := (five Y2.db).2.2.2.2; have m0 := soft Y2.db 0; have m1 := soft Y2.db 1; have m2 := soft Y2.db 2; have m3 := soft Y2.db 3; have m4 := soft Y2.db 4; clear hb Y2))
  all_goals
    try go_wp2_with fail
    refine bodyPost_ret (v := .agg #[.int .i64 t.tm, .bool t.gone, .int .i64 t.doc.k, .int .i64 t.doc.n, .string t.doc.t]) (by simp [results, Tryz.results72, go_sem, *]) rfl ⟨rfl, ?_⟩
    have hbb := hbw.trans (hB2.mono hbw.size)
    (repeat (first | (with_reducible exact Below.refl _ _) | (with_reducible assumption) | (with_reducible apply below_drewN) | (with_reducible apply Below.drew) | ((with_reducible refine Below.setCell ?_ ?_ _); rotate_left; focus (first | (simp; done) | (simp; omega) | omega)) | ((with_reducible refine Below.alloc ?_ ?_ _); rotate_left; focus (first | (simp; done) | (simp; omega) | omega))))

/-- Chains that rise. -/
def RiseC (l : List Chn) : Prop := ∀ i j (hi : i < l.length) (hj : j < l.length), i < j → l[i].id < l[j].id
theorem chsB_first : ∀ (l : List Chn) (last : Int), chsB last l = true → ∀ c ∈ l, last < c.id
  | [], _, _, c, hc => by simp at hc
  | x :: r, last, h, c, hc => by
    rw [chsB] at h
    simp only [Bool.and_eq_true, decide_eq_true_eq] at h
    obtain ⟨a1, a2, a3, a4⟩ := h
    rcases List.mem_cons.mp hc with rfl | hc
    · exact a1
    · have := chsB_first r x.id a4 c hc; omega
theorem riseC_of : ∀ (l : List Chn) (last : Int), chsB last l = true → RiseC l
  | [], _, _ => fun i j hi => by simp at hi
  | x :: r, last, h => by
    rw [chsB] at h
    simp only [Bool.and_eq_true, decide_eq_true_eq] at h
    obtain ⟨a1, a2, a3, a4⟩ := h
    have ih := riseC_of r x.id a4
    have hf := chsB_first r x.id a4
    intro i j hi hj hij
    cases j with
    | zero => omega
    | succ j =>
      have hj' : j < r.length := by simpa using hj
      cases i with
      | zero => exact hf r[j] (List.getElem_mem _)
      | succ i => exact ih i j (by simpa using hi) hj' (by omega)
/-- Where the chain of an id stands, or would, and whether it does. -/
structure PlaceC (l : List Chn) (id : Int) (i : Nat) (b : Bool) : Prop where
  le : i ≤ l.length
  lo : ∀ q (h : q < l.length), q < i → l[q].id < id
  hi : ∀ q (h : q < l.length), i ≤ q → id ≤ l[q].id
  at_ : b = true ↔ ∃ h : i < l.length, l[i].id = id
def findC (id : Int) (l : List Chn) : Option Chn := l.find? (fun x => decide (x.id = id))
theorem findC_none (id : Int) : ∀ l : List Chn, (∀ x ∈ l, x.id ≠ id) → findC id l = none
  | [], _ => rfl
  | x :: r, h => by
    show List.find? _ (x :: r) = none
    rw [List.find?_cons, decide_eq_false (h x (by simp))]
    exact findC_none id r (fun y hy => h y (by simp [hy]))
theorem findC_at (id : Int) : ∀ (l : List Chn) (i : Nat) (hi : i < l.length), (∀ q (h : q < l.length), q < i → l[q].id ≠ id) → l[i].id = id → findC id l = some l[i]
  | x :: r, 0, _, _, e => by
    show List.find? _ (x :: r) = _
    rw [List.find?_cons, decide_eq_true (show x.id = id from e)]; rfl
  | x :: r, i + 1, hi, hlo, e => by
    show List.find? _ (x :: r) = _
    rw [List.find?_cons, decide_eq_false (show ¬ x.id = id from hlo 0 (by simp) (by omega))]
    exact findC_at id r i (by simpa using hi) (fun q h hq => hlo (q + 1) (by simpa using h) (by omega)) e
theorem PlaceC.some {l : List Chn} {id : Int} {i : Nat} (h : PlaceC l id i true) : ∃ hi : i < l.length, l[i].id = id ∧ findC id l = some l[i] := by
  obtain ⟨hi, e⟩ := h.at_.1 rfl
  exact ⟨hi, e, findC_at id l i hi (fun q hq hlt => by have := h.lo q hq hlt; omega) e⟩
theorem PlaceC.none {l : List Chn} {id : Int} {i : Nat} (hr : RiseC l) (h : PlaceC l id i false) : findC id l = none := by
  apply findC_none
  intro x hx e
  obtain ⟨q, hq, rfl⟩ := List.getElem_of_mem hx
  have hlt : ¬ q < i := fun hlt => by have := h.lo q hq hlt; omega
  have hi : i < l.length := by omega
  have h1 := h.hi i hi (Nat.le_refl _)
  have hne : l[i].id ≠ id := fun e2 => by have := h.at_.2 ⟨hi, e2⟩; cases this
  rcases Nat.lt_or_ge i q with hlq | hge
  · have := hr i q hi hq hlq; omega
  · obtain rfl : q = i := by omega
    exact hne e
/-- What the search answers. -/
structure PlR (l : List Chn) (id : Int) (e : Ending) : Prop where
  out : ∃ (i : Nat) (b : Bool), e = .returned (.tuple #[.int .i64 (i : Nat), .bool b]) ∧ PlaceC l id i b
set_option maxRecDepth 4000 in
set_option maxHeartbeats 1000000 in
theorem compareChain_any (x : Int) (v : Value) (y : Int) (w : World) :
    Calls Tryz.prog 122 #[.agg #[.int .i64 x, v], .int .i64 y] w fun e w' => e = .returned (.int .i64 (cI x y)) ∧ Below w.heap.size w w' := by
  have X0 := Box2.start w (.int .i64 x) v 94
  have hbw := X0.bel
  have HC : Hid (∀ W : World, Calls _ _ _ W _) := fun W => cmpInt_any x y W
  go_enter Tryz.func122, Tryz.ntmps122
  go_wp2_with fail
  refine (HC.out _).mono ?_
  rintro e w1 ⟨rfl, rfl⟩
  go_wp2_with fail
  go_ret
  exact ⟨rfl, hbw⟩
theorem cI_neg (x y : Int) : decide (cI x y < 0) = decide (x < y) := by
  unfold cI Lib.compareInt
  rw [decide_eq_decide]
  constructor <;> intro h <;> (repeat' split at *) <;> omega
set_option maxRecDepth 8000 in
set_option maxHeartbeats 2000000 in
theorem searchC_any (p : Option Addr) (cap : Nat) (l : List Chn) (id : Int) (w : World) (hr : InCh w p l) (hs : RiseC l) (hl : l.length ≤ 1048576) :
    Calls Tryz.prog 121 #[.slice p l.length cap, .int .i64 id, .func (.func 122) #[] #[]] w fun e' w' => PlR l id e' ∧ Below w.heap.size w w' := by
  have HR : Hid (InCh _ _ _) := hr
  have HS : Hid (RiseC _) := hs
  clear hr hs
  go_enter Tryz.func121, Tryz.ntmps121
  go_wp2_with fail
  go_loopw [9, 10] (fun u v wr => ∃ i j : Nat, i ≤ j ∧ j ≤ l.length ∧ u = .int .i64 i ∧ v = .int .i64 j ∧ (∀ q (h : q < l.length), q < i → l[q].id < id) ∧ (∀ q (h : q < l.length), j ≤ q → id ≤ l[q].id) ∧ Below w.heap.size w wr) (fun u v _ => (intOf v).toNat - (intOf u).toNat)
  case atStart => exact ⟨0, l.length, Nat.zero_le _, Nat.le_refl _, rfl, rfl, (fun q h h2 => absurd h2 (by omega)), (fun q h h2 => absurd h2 (by omega)), Below.refl _ _⟩
  case round =>
    obtain ⟨i, j, hij, hj, rfl, rfl, hlo, hhi, hbel⟩ := hrel
    have HL : Hid _ := hlo
    have HH : Hid _ := hhi
    clear hlo hhi
    by_cases hlt : i < j
    · rcases HR.out.step hbel with h0 | ⟨b2, off, rfl, hbl, hc⟩
      · omega
      have hlt2 : (i : Int) < (j : Int) := by omega
      have hh1 : (i + j) / 2 < l.length := by omega
      have hh2 : ((i : Int) + (j : Int)) / 2 < (l.length : Int) := by omega
      obtain ⟨z0, pv, cv, z1, _⟩ := hc ((i + j) / 2) hh1
      obtain ⟨fe, hfe⟩ : ∃ fe, fe = l[(i + j) / 2] := ⟨_, rfl⟩
      rw [← hfe] at z0 z1
      have HFE : Hid (fe = l[(i + j) / 2]) := hfe
      have hcm := cI_neg fe.id id
      have HCM : Hid (∀ W : World, Calls _ _ _ W _) := fun W => compareChain_any fe.id (.slice pv fe.vs.length cv) id W
      obtain ⟨cm, hcm0⟩ : ∃ cm, cm = cI fe.id id := ⟨_, rfl⟩
      rw [← hcm0] at hcm HCM
      clear hc hfe hcm0
      by_cases hC : fe.id < id
      · rw [decide_eq_true hC] at hcm
        have hnl : cm < 0 := of_decide_eq_true hcm
        have HC : Hid (fe.id < id) := hC
        clear hC hcm
        go_wp2_with fail
        refine (HCM.out _).mono ?_
        rintro e w1 ⟨rfl, hb⟩
        have hb1 := hbel.trans (hb.mono hbel.size)
        clear hb
        go_wp2_with fail
        go_roundw
        case rel =>
          refine ⟨(i + j) / 2 + 1, j, by omega, by omega, congrArg (Value.int .i64) (by omega), rfl, ?_, HH.out, hb1⟩
          intro q hq hlt3
          have hm : l[(i + j) / 2].id < id := by rw [← HFE.out]; exact HC.out
          rcases Nat.lt_or_ge q ((i + j) / 2) with h3 | h3
          · have := HS.out q _ hq hh1 h3; omega
          · obtain rfl : q = (i + j) / 2 := by omega
            exact hm
        case measure => simp [intOf]; omega
      · rw [decide_eq_false hC] at hcm
        have hnl : ¬ cm < 0 := of_decide_eq_false hcm
        have HC : Hid (¬ fe.id < id) := hC
        clear hC hcm
        go_wp2_with fail
        refine (HCM.out _).mono ?_
        rintro e w1 ⟨rfl, hb⟩
        have hb1 := hbel.trans (hb.mono hbel.size)
        clear hb
        go_wp2_with fail
        go_roundw
        case rel =>
          refine ⟨i, (i + j) / 2, by omega, by omega, rfl, congrArg (Value.int .i64) (by omega), HL.out, ?_, hb1⟩
          intro q hq hge
          have hm : ¬ l[(i + j) / 2].id < id := by rw [← HFE.out]; have := HC.out; omega
          rcases Nat.lt_or_ge ((i + j) / 2) q with h3 | h3
          · have := HS.out _ q hh1 hq h3; omega
          · obtain rfl : q = (i + j) / 2 := by omega
            omega
        case measure => simp [intOf]; omega
    · obtain rfl : i = j := by omega
      by_cases hi : i < l.length
      · rcases HR.out.step hbel with h0 | ⟨b2, off, rfl, hbl, hc⟩
        · omega
        obtain ⟨z0, pv, cv, z1, _⟩ := hc i hi
        obtain ⟨fe, hfe⟩ : ∃ fe, fe = l[i] := ⟨_, rfl⟩
        rw [← hfe] at z0 z1
        have HFE : Hid (fe = l[i]) := hfe
        have hi2 : (i : Int) < (l.length : Int) := by omega
        have HCZ : Hid (cI fe.id id = 0 ↔ fe.id = id) := cI_zero fe.id id
        have HCM : Hid (∀ W : World, Calls _ _ _ W _) := fun W => compareChain_any fe.id (.slice pv fe.vs.length cv) id W
        obtain ⟨cm, hcm0⟩ : ∃ cm, cm = cI fe.id id := ⟨_, rfl⟩
        rw [← hcm0] at HCZ HCM
        clear hc hfe hcm0
        cases hz0 : (cm == 0)
        · have HZ : Hid (¬ cm = 0) := beq_eq_false_iff_ne.mp hz0
          go_wp2_with fail
          refine (HCM.out _).mono ?_
          rintro e w1 ⟨rfl, hb⟩
          have hb1 := hbel.trans (hb.mono hbel.size)
          clear hb
          go_wp2_with fail
          go_ret2
          exact ⟨⟨⟨i, false, rfl, ⟨hj, HL.out, HH.out, ⟨(fun h => by cases h), (fun ⟨_, h⟩ => absurd (HCZ.out.2 (by rw [HFE.out]; exact h)) HZ.out)⟩⟩⟩⟩, hb1⟩
        · have HZ : Hid (cm = 0) := beq_iff_eq.mp hz0
          go_wp2_with fail
          refine (HCM.out _).mono ?_
          rintro e w1 ⟨rfl, hb⟩
          have hb1 := hbel.trans (hb.mono hbel.size)
          clear hb
          go_wp2_with fail
          go_ret2
          exact ⟨⟨⟨i, true, rfl, ⟨hj, HL.out, HH.out, ⟨(fun _ => ⟨hi, by rw [← HFE.out]; exact HCZ.out.1 HZ.out⟩), (fun _ => rfl)⟩⟩⟩⟩, hb1⟩
      · have hi2 : ¬ (i : Int) < (l.length : Int) := by omega
        go_wp2_with fail
        go_ret2
        exact ⟨⟨⟨i, false, rfl, ⟨hj, HL.out, HH.out, ⟨(fun h => by cases h), (fun ⟨h, _⟩ => absurd h hi)⟩⟩⟩⟩, hbel⟩
set_option maxRecDepth 4000 in
set_option maxHeartbeats 1000000 in
theorem chainPlace_any (p : Option Addr) (cap : Nat) (l : List Chn) (id : Int) (w : World) (hr : InCh w p l) (hs : RiseC l) (hl : l.length ≤ 1048576) :
    Calls Tryz.prog 69 #[.slice p l.length cap, .int .i64 id] w fun e' w' => PlR l id e' ∧ Below w.heap.size w w' := by
  have HC : Hid (Calls _ _ _ _ _) := searchC_any p cap l id w hr hs hl
  clear hr hs
  go_enter Tryz.func69, Tryz.ntmps69
  go_wp2_with fail
  refine HC.out.mono ?_
  rintro e w1 ⟨⟨⟨i, b, rfl, hp⟩⟩, hb⟩
  have HP : Hid (PlaceC _ _ _ _) := hp
  clear hp HC
  go_wp2_with fail
  go_ret2
  exact ⟨⟨⟨i, b, rfl, HP.out⟩⟩, hb⟩

end Go.Proofs.YtkafanjfjplakaaGreatDoor.Co
