/- Marks on rows of parts, and on a definition: what the laws' helpers answer, and which memory they change. -/
import Derived.Test.YtdchhjnmhnehiaaGreatDoorChgBQ
import Derived.Test.YtdchhjnmhnehiaaGreatDoorDefIQ
import Derived.Test.YtdchhjnmhnehiaaGreatDoorDkyMQ
import Derived.Deep.RegionHeld3
import Derived.Deep.Slices
import Derived.Deep.Strs
import Derived.ChangeSame
import Derived.Lib.SmallJoins
import Derived.OpenShut
import Derived.Test.YtdchhjnmhnehiaaGreatDoorRows
import Derived.Test.YtdchhjnmhnehiaaGreatDoorTie
import Derived.Test.YtdchhjnmhnehiaaGreatDoorCards
import Derived.LaidMore
import Derived.Lay
import Derived.Stop.Joined
import Derived.SevenTiedAt
import Derived.ProofKit
import Derived.ShutString
import Derived.ChangeOld
import Derived.Below
namespace Go.Proofs.YtdchhjnmhnehiaaGreatDoor.Dk
open Go.RowKit Tr
set_option linter.unusedVariables false

theorem markText_at (n : Nat) (z : Int) (hz : z = (n : Int)) (h1 : 1 ≤ n) (h2 : n ≤ 17592186044416) (w : World) :
    Calls Tryz.prog 44 #[.int .i64 z] w fun e w' => e = .returned (.string (Tr.mt n)) ∧ Below w.heap.size w w' := by
  subst hz; exact Tr.markText_any n h1 h2 w
/-- Whether a mark's number makes true. -/
def boolM (n : Int) : Bool := n % 3 == 0
/-- The part that marks a place, from number n on. -/
def markPt (n : Nat) : Prt := ⟨Tr.mt n, boolM ((n : Int) + 1)⟩
def marksPt : Nat → Nat → List Prt
  | _, 0 => []
  | q, n + 1 => markPt q :: marksPt (q + 2) n
theorem marksPt_len : ∀ (n q : Nat), (marksPt q n).length = n
  | 0, _ => rfl
  | n + 1, q => by rw [marksPt, List.length_cons, marksPt_len n]
theorem marksPt_snoc : ∀ (k q : Nat), marksPt q (k + 1) = marksPt q k ++ [markPt (q + 2 * k)]
  | 0, q => rfl
  | k + 1, q => by
    rw [marksPt, marksPt_snoc k (q + 2), marksPt, List.cons_append, show q + 2 + 2 * k = q + 2 * (k + 1) by omega]
theorem marksPt_get : ∀ (n q i : Nat) (h : i < (marksPt q n).length), (marksPt q n)[i] = markPt (q + 2 * i)
  | 0, q, i, h => by simp [marksPt] at h
  | n + 1, q, 0, h => by simp [marksPt]
  | n + 1, q, i + 1, h => by
    have := marksPt_get n (q + 2) i (by rw [marksPt_len] at *; omega)
    simp only [marksPt, List.getElem_cons_succ]
    rw [this]
    congr 1
    omega
def markMixPt (q : Nat) (l : List Prt) (k : Nat) : List Prt := marksPt q k ++ l.drop k
theorem markMixPt_len (q : Nat) (l : List Prt) (k : Nat) (h : k ≤ l.length) : (markMixPt q l k).length = l.length := by unfold markMixPt; rw [List.length_append, marksPt_len, List.length_drop]; omega
theorem markMixPt_zero (q : Nat) (l : List Prt) : markMixPt q l 0 = l := by unfold markMixPt marksPt; simp
theorem markMixPt_full (q : Nat) (l : List Prt) : markMixPt q l l.length = marksPt q l.length := by unfold markMixPt; simp
theorem markMixPt_set (q : Nat) (l : List Prt) (k : Nat) (h : k < l.length) : (markMixPt q l k).set k (markPt (q + 2 * k)) = markMixPt q l (k + 1) := by
  unfold markMixPt
  rw [List.set_append_right _ _ (by rw [marksPt_len]; omega), marksPt_len, Nat.sub_self, marksPt_snoc, List.append_assoc]
  congr 1
  rw [List.drop_eq_getElem_cons h]; rfl

set_option maxRecDepth 4000 in
set_option maxHeartbeats 2000000 in
theorem markPartS_any (base : Nat) (v : Value) (l : List Prt) (q : Nat) (w : World) (hown : OwnD w base v l) (h1 : 1 ≤ q) (h2 : q + 2 * l.length ≤ 17592186044416) (hl : l.length ≤ 1048576) :
    Calls Tryz.prog 43 #[v, .int .i64 q] w fun e w' => e = .returned (.int .i64 ((q + 2 * l.length : Nat) : Int)) ∧ OwnD w' base v (marksPt q l.length) ∧ w.grownBy w' v.ownBlock := by
  rcases hown.form with ⟨rfl, rfl⟩ | ⟨g, c, rfl, hgb, hgl⟩
  · have HO0 : Hid (OwnD _ _ _ _) := hown
    clear hown
    go_enter Tryz.func43, Tryz.ntmps43
    go_wp2_with fail
    refine wp_loop_rounds 1 ?_
    rw [rounds_succ]
    go_wp2_with fail
    go_ret
    exact ⟨rfl, HO0.out, grown_refl _ _⟩
  · have HO0 : Hid (OwnD _ _ _ _) := hown
    clear hown
    go_enter Tryz.func43, Tryz.ntmps43
    go_wp2_with fail
    go_loopw [1, 5] (fun x i wr => ∃ (k E : Nat), k ≤ l.length ∧ i = .int .i64 k ∧ x = .int .i64 (E : Int) ∧ E = q + 2 * k ∧ wr.ownsRow base 28 2 (.slice (some ⟨g, 0, none⟩) l.length c) l.length (flatD (markMixPt q l k)) ∧ w.grownBy wr (some g)) (fun _ i _ => l.length - (intOf i).toNat)
    case atStart => exact ⟨0, q, Nat.zero_le _, rfl, rfl, by omega, by rw [markMixPt_zero]; exact HO0.out, grown_refl _ _⟩
    case round =>
      obtain ⟨k, E, hk, rfl, rfl, hE, hown, hgr⟩ := hrel
      have HB : Hid (World.grownBy _ _ _) := hgr
      have hz := hgr.size
      clear hgr HO0
      by_cases hlt : k < l.length
      · have hlt2 : (k : Int) < (l.length : Int) := by omega
        have hm := markMixPt_len q l k hk
        have hglr : g < wr.heap.size := (hown.lt g rfl).2
        have HO : Hid (World.ownsRow _ _ _ _ _ _ _) := hown
        obtain ⟨B, hB⟩ : ∃ B : Bool, B = boolM ((E : Int) + 1) := ⟨_, rfl⟩
        have hB' : (((E : Int) + 1) % 3 == 0) = B := by rw [hB]; rfl
        have hT' : Int.tmod ((E : Int) + 1) 3 = ((E : Int) + 1) % 3 := Int.tmod_eq_emod_of_nonneg (by omega)
        have he : ((flatD (markMixPt q l k)).set (k * 2) (.string (Tr.mt E))).set (k * 2 + 1) (.bool B) = flatD (markMixPt q l (k + 1)) := by
          rw [← markMixPt_set q l k hlt, hB, ← hE]; exact flatD_set (markMixPt q l k) k (markPt E) (by omega)
        have HE : Hid _ := he
        have HEQ : Hid (E = q + 2 * k) := hE
        have hEb : E ≤ 17592186044414 := by omega
        have hE1 : 1 ≤ E := by omega
        clear hown he hB hE
        go_wp2_with fail
        refine (markText_at E _ (by omega) (by omega) (by omega) _).mono ?_
        rintro e w2 ⟨rfl, hb2⟩
        have hown2 := owns_below HO.out hb2
        obtain ⟨z0, y0⟩ := own_there hown2 (k * 2) (by omega)
        obtain ⟨z1, y1⟩ := own_there hown2 (k * 2 + 1) (by omega)
        have f0 := World.ownsRow.frozenAt hown2 (k * 2)
        have f1 := World.ownsRow.frozenAt hown2 (k * 2 + 1)
        have hst := (World.ownsRow.stored (World.ownsRow.stored hown2 (k * 2) (.string (Tr.mt E))).1 (k * 2 + 1) (.bool B)).1
        rw [HE.out] at hst
        have HS : Hid (World.ownsRow _ _ _ _ _ _ _) := hst
        have HB2 : Hid (World.grownBy _ _ _) := grown_trans HB.out (grown_below hb2)
        have hz2 := hb2.size
        clear hst hown2 hb2 hm HO
        go_wp2_with fail
        go_roundw
        case rel => exact ⟨k + 1, E + 2, by omega, by go_num, by go_num, by have := HEQ.out; omega, HS.out, grown_trans (grown_trans HB2.out grown_set) grown_set⟩
        case measure => simp [intOf]; omega
      · obtain rfl : k = l.length := by omega
        rw [markMixPt_full] at hown
        have HO : Hid (World.ownsRow _ _ _ _ _ _ _) := hown
        clear hown
        subst hE
        go_wp2_with fail
        go_ret
        exact ⟨rfl, by unfold OwnD; rw [marksPt_len]; exact HO.out, HB.out⟩


set_option maxRecDepth 4000 in
set_option maxHeartbeats 1000000 in
theorem markDef_any (base : Nat) (n : ByteArray) (v : Value) (l : List Prt) (w : World) (hown : OwnD w base v l) (hl : l.length ≤ 1048576) :
    Calls Tryz.prog 20 #[.agg #[.string n, v], .int .i64 1] w fun e w' => (∃ k : Nat, e = .returned (.int .i64 (k : Int))) ∧ (∃ W, Below w.heap.size w W ∧ W.grownBy w' v.ownBlock) := by
  have hb0 : Below w.heap.size w (w.alloc (.cells #[.string n, v] 31)) := (Below.refl _ _).alloc (Nat.le_refl _) _
  obtain ⟨p, cap, rfl, _⟩ := OwnD.inD hown
  have HC : Hid (Calls _ _ _ _ _) := markPartS_any base (.slice p l.length cap) l 1 (w.alloc (.cells #[.string n, .slice p l.length cap] 31)) (owns_below hown hb0) (by omega) (by omega) hl
  clear hown
  go_enter Tryz.func20, Tryz.ntmps20
  go_wp2_with fail
  refine HC.out.mono ?_
  rintro e w1 ⟨rfl, _, hg⟩
  have HG : Hid (World.grownBy _ _ _) := hg
  clear hg HC
  go_wp2_with fail
  go_ret
  exact ⟨⟨_, rfl⟩, _, hb0, HG.out⟩

end Go.Proofs.YtdchhjnmhnehiaaGreatDoor.Dk

/- The law on a document's keys, walked (whole). -/
namespace Go.Proofs.YtdchhjnmhnehiaaGreatDoor.Dk
open Go.RowKit Tr
set_option linter.unusedVariables false

set_option maxRecDepth 4000 in
set_option maxHeartbeats 1000000 in
theorem szDefB_any (n : ByteArray) (a : Option Addr) (cap : Nat) (l : List Prt) (w : World) (hin : InD w a l) (hn : n.size ≤ maxLen) (hl : l.length ≤ maxLen) (hs : ∀ v ∈ l, maxPt v) :
    Calls Tryz.prog 13 #[.agg #[.string n, .slice a l.length cap], .int .i64 1048576] w fun e w' => (∃ r : Int, e = .returned (.int .i64 r) ∧ (r < 0 ∨ (0 ≤ r ∧ r ≤ 1048576 ∧ n.size ≤ 1048576 ∧ l.length ≤ 1048576 ∧ ∀ v ∈ l, szPt v))) ∧ Below w.heap.size w w' := by
  unfold maxLen at hn
  have X0 := BoxD.start w n (.slice a l.length cap) 49
  have hbw0 := X0.bel
  by_cases hbig : (1048576 : Int) < n.size
  · have hneg : (1048576 : Int) - (n.size : Int) < 0 := by omega
    clear hin hs
    go_enter Tryz.func13, Tryz.ntmps13
    go_wp2_with fail
    go_ret
    exact ⟨⟨-1, rfl, .inl (by omega)⟩, hbw0⟩
  · have hneg : ¬ ((1048576 : Int) - (n.size : Int) < 0) := by omega
    have HC : Hid (∀ W : World, Below w.heap.size w W → Calls _ _ _ W _) := fun W hW => szPartS_any a cap l (1048576 - (n.size : Int)) W (hin.step hW) hl hs (by omega) (by omega)
    clear hin hs
    go_enter Tryz.func13, Tryz.ntmps13
    go_wp2_with fail
    refine (HC.out _ X0.bel).mono ?_
    rintro e w1 ⟨⟨r, rfl, hr⟩, hb⟩
    have hbw := (X0.step hb).bel
    clear hb HC
    rcases hr with hneg2 | ⟨hr0, hr1, hr2, hr3⟩
    · go_wp2_with fail
      go_ret
      exact ⟨⟨-1, rfl, .inl (by omega)⟩, hbw⟩
    · have hnn : ¬ r < 0 := by omega
      have HS : Hid (∀ v ∈ l, szPt v) := hr3
      clear hr3
      go_wp2_with fail
      go_ret
      exact ⟨⟨r, rfl, .inr ⟨hr0, by omega, by omega, hr2, HS.out⟩⟩, hbw⟩
/-- The law's two arguments in their boxes. -/
structure BxK (w W : World) (n : ByteArray) (v : Value) (k m : Int) (t : ByteArray) : Prop where
  bel : Below w.heap.size w W
  lt : w.heap.size + 1 < W.heap.size
  c0 : W.cell? ⟨w.heap.size, 0, none⟩ = some (.string n)
  c1 : W.cell? ⟨w.heap.size, 1, none⟩ = some v
  d0 : W.cell? ⟨w.heap.size + 1, 0, none⟩ = some (.int .i64 k)
  d1 : W.cell? ⟨w.heap.size + 1, 1, none⟩ = some (.int .i64 m)
  d2 : W.cell? ⟨w.heap.size + 1, 2, none⟩ = some (.string t)
theorem BxK.start (w : World) (n : ByteArray) (v : Value) (k m : Int) (t : ByteArray) (T U : TypeId) : BxK w ((w.alloc (.cells #[.string n, v] T)).alloc (.cells #[.int .i64 k, .int .i64 m, .string t] U)) n v k m t :=
  ⟨((Below.refl _ _).alloc (Nat.le_refl _) _).alloc (by simp) _, by simp, by simp [go_sem], by simp [go_sem], by simp [go_sem], by simp [go_sem], by simp [go_sem]⟩
theorem BxK.low {w W W' : World} {n : ByteArray} {v : Value} {k m : Int} {t : ByteArray} (h : BxK w W n v k m t) (hb : Below (w.heap.size + 2) W W') : BxK w W' n v k m t := by
  have h1 : ∀ o, W'.cell? ⟨w.heap.size, o, none⟩ = W.cell? ⟨w.heap.size, o, none⟩ := fun o => hb.cell (p := ⟨w.heap.size, o, none⟩) (by show w.heap.size < w.heap.size + 2; omega)
  have h2 : ∀ o, W'.cell? ⟨w.heap.size + 1, o, none⟩ = W.cell? ⟨w.heap.size + 1, o, none⟩ := fun o => hb.cell (p := ⟨w.heap.size + 1, o, none⟩) (by show w.heap.size + 1 < w.heap.size + 2; omega)
  exact ⟨h.bel.trans (hb.mono (by omega)), Nat.lt_of_lt_of_le h.lt hb.size, (h1 0).trans h.c0, (h1 1).trans h.c1, (h2 0).trans h.d0, (h2 1).trans h.d1, (h2 2).trans h.d2⟩
theorem BxK.step {w W W' : World} {n : ByteArray} {v : Value} {k m : Int} {t : ByteArray} (h : BxK w W n v k m t) (hb : Below W.heap.size W W') : BxK w W' n v k m t := h.low (hb.mono (by have := h.lt; omega))
theorem keepL {w W w0 : World} {n : ByteArray} {v : Value} {k m : Int} {t : ByteArray} (X : BxK w W n v k m t) (hb : Below W.heap.size W w0) :
    w0.cell? ⟨w.heap.size, 0, none⟩ = some (.string n) ∧ w0.cell? ⟨w.heap.size, 1, none⟩ = some v ∧ w0.cell? ⟨w.heap.size + 1, 0, none⟩ = some (.int .i64 k) ∧ w0.cell? ⟨w.heap.size + 1, 1, none⟩ = some (.int .i64 m) ∧ w0.cell? ⟨w.heap.size + 1, 2, none⟩ = some (.string t) :=
  have Y := X.step hb
  ⟨Y.c0, Y.c1, Y.d0, Y.d1, Y.d2⟩
theorem keepLB {w W w0 : World} {n : ByteArray} {v : Value} {k m : Int} {t : ByteArray} {bx : Nat} {b0 b1 : Value} (X : BxK w W n v k m t) (mb : bx < W.heap.size) (y0 : W.cell? ⟨bx, 0, none⟩ = some b0) (y1 : W.cell? ⟨bx, 1, none⟩ = some b1) (hb : Below W.heap.size W w0) :
    w0.cell? ⟨w.heap.size, 0, none⟩ = some (.string n) ∧ w0.cell? ⟨w.heap.size, 1, none⟩ = some v ∧ w0.cell? ⟨w.heap.size + 1, 0, none⟩ = some (.int .i64 k) ∧ w0.cell? ⟨w.heap.size + 1, 1, none⟩ = some (.int .i64 m) ∧ w0.cell? ⟨w.heap.size + 1, 2, none⟩ = some (.string t) ∧ w0.cell? ⟨bx, 0, none⟩ = some b0 ∧ w0.cell? ⟨bx, 1, none⟩ = some b1 :=
  have Y := X.step hb
  ⟨Y.c0, Y.c1, Y.d0, Y.d1, Y.d2, (hb.cell mb).trans y0, (hb.cell mb).trans y1⟩
theorem ownS_in {w : World} {base n c : Nat} {p : Option Addr} {l : List ByteArray} (h : OwnS w base (.slice p n c) l) : InT1 w p l := by
  obtain ⟨p', c', e, i⟩ := OwnS.in1 h
  injection e with e
  rw [e]; exact i
theorem dkL_len (n : ByteArray) (ps : List Prt) (doc : Val) : (dkL n ps doc).length ≤ 100000 := by
  unfold dkL
  split
  · rename_i h
    rw [Bool.and_eq_true] at h
    obtain ⟨h1, h2⟩ := h
    obtain ⟨a1, a2, _⟩ := def_parts n ps h1
    have hb := (docK_bounds doc (docB_ok doc h2) ps.length ps rfl a2).1
    have : (301 : Nat) ^ ps.length ≤ 301 ^ 2 := Nat.pow_le_pow_right (by omega) a2
    omega
  · simp
theorem ownD_row {w : World} {base g n cap : Nat} {l : List Prt} (h : OwnD w base (.slice (some ⟨g, 0, none⟩) n cap) l) (hn : n = l.length) : InD w (some ⟨g, 0, none⟩) l := by
  subst hn
  exact (ReadD.of_own h).inD

set_option maxRecDepth 8000 in
set_option maxHeartbeats 16000000 in
theorem lawDK (n : ByteArray) (a : Option Addr) (cap : Nat) (l : List Prt) (hn : n.size ≤ maxLen) (hl : l.length ≤ maxLen) (hs : ∀ v ∈ l, maxPt v) (k m : Int) (t : ByteArray) (ht : t.size ≤ maxLen) (w : World) (hin : InD w a l) :
    Calls Tryz.prog 4 #[.agg #[.string n, .slice a l.length cap], .agg #[.int .i64 k, .int .i64 m, .string t]] w fun e w' => e = .returned (.bool true) ∧ Below w.heap.size w w' := by
  have X0 := BxK.start w n (.slice a l.length cap) k m t 49 50
  have HIN : Hid (InD w a l) := hin
  have HZ : Hid (∀ W : World, InD W a l → Calls _ _ _ W _) := fun W hW => szDefB_any n a cap l W hW hn hl hs
  clear hin hs
  go_enter Tryz.func4, Tryz.ntmps4
  go_wp2_with fail
  refine (HZ.out _ (HIN.out.step X0.bel)).mono ?_
  rintro e w1 ⟨⟨r, rfl, hr⟩, hb⟩
  have X1 := X0.step hb
  clear hb HZ X0
  rcases hr with hneg | ⟨hr0, hr4, hr1, hr2, hr3⟩
  · have hbw := X1.bel
    go_wp2_with fail
    go_ret
    exact ⟨rfl, hbw⟩
  have hnn : ¬ r < 0 := by omega
  have HSZ : Hid (∀ v ∈ l, szPt v) := hr3
  clear hr3
  have f0 := X1.d0
  have f1 := X1.d1
  have f2 := X1.d2
  go_wp2_with fail
  refine (szValue_any k m t _ _ ht (by omega) (by omega)).mono ?_
  rintro e w2 ⟨rfl, hb⟩
  have HX2 : Hid (BxK w w2 n (.slice a l.length cap) k m t) := X1.step hb
  clear hb X1 f0 f1 f2
  by_cases hbig : r < t.size
  · rw [if_pos hbig]
    have hbw := HX2.out.bel
    go_wp2_with fail
    go_ret
    exact ⟨rfl, hbw⟩
  rw [if_neg hbig]
  have hnn2 : ¬ (r - (t.size : Int) < 0) := by omega
  have h2 : t.size ≤ 1048576 := by omega
  have HTD : Hid (∀ W : World, Below w.heap.size w W → Calls Tryz.prog 16 #[.agg #[.string n, .slice a l.length cap]] W fun e w' => (∃ g, e = .returned (.agg #[.string n, .slice (some ⟨g, 0, none⟩) l.length l.length]) ∧ OwnD w' W.heap.size (.slice (some ⟨g, 0, none⟩) l.length l.length) l) ∧ Below W.heap.size W w') := fun W hW => toDef_any n a cap l W (HIN.out.step hW) hr2
  obtain ⟨L, hL⟩ : ∃ L, L = dkL n l ⟨k, m, t⟩ := ⟨_, rfl⟩
  obtain ⟨C, hC⟩ : ∃ C, C = dkC n l ⟨k, m, t⟩ := ⟨_, rfl⟩
  have HR : Hid (∀ (W : World) (e : Ending) (w' : World), DkR n l ⟨k, m, t⟩ W e w' → ∃ p c, e = .returned (.tuple #[.slice p L.length c, .int .i64 C]) ∧ OwnS w' W.heap.size (.slice p L.length c) L ∧ Below W.heap.size W w') := fun W e w' h => by
    obtain ⟨⟨v, h1, h2⟩, h3⟩ := h
    rw [hL, hC]
    obtain ⟨p, c, rfl, _⟩ := OwnS.in1 h2
    exact ⟨p, c, h1, h2, h3⟩
  have hLl : L.length ≤ 100000 := by rw [hL]; exact dkL_len n l ⟨k, m, t⟩
  have HS : Hid (∀ (g : Nat) (W : World), RowD W (some ⟨g, 0, none⟩) l → Calls Tryz.prog 15 #[.agg #[.string n, .slice (some ⟨g, 0, none⟩) l.length l.length], .agg #[.int .i64 k, .int .i64 m, .string t]] W fun e w' => DkR n l ⟨k, m, t⟩ W e w') := fun g W hW => specDK_any n (some ⟨g, 0, none⟩) l.length l ⟨k, m, t⟩ W hW hr1 hr2 (Nat.le_refl _) HSZ.out h2
  have HI : Hid (∀ (g : Nat) (W : World), RowD W (some ⟨g, 0, none⟩) l → Calls Tryz.prog 11 #[.agg #[.string n, .slice (some ⟨g, 0, none⟩) l.length l.length], .agg #[.int .i64 k, .int .i64 m, .string t]] W fun e w' => DkR n l ⟨k, m, t⟩ W e w') := fun g W hW => implDK_any n (some ⟨g, 0, none⟩) l.length l ⟨k, m, t⟩ W hW hr1 hr2 (Nat.le_refl _) HSZ.out h2
  clear hL hC
  go_wp2_with fail
  go_region_held3 (fun w0 => w0.cell? ⟨w.heap.size, 0, none⟩ = some (.string n) ∧ w0.cell? ⟨w.heap.size, 1, none⟩ = some (.slice a l.length cap) ∧ w0.cell? ⟨w.heap.size + 1, 0, none⟩ = some (.int .i64 k) ∧ w0.cell? ⟨w.heap.size + 1, 1, none⟩ = some (.int .i64 m) ∧ w0.cell? ⟨w.heap.size + 1, 2, none⟩ = some (.string t)) ((refine keepL HX2.out ?_; (repeat (first | (with_reducible exact Below.refl _ _) | (with_reducible assumption) | (with_reducible apply below_drewN) | (with_reducible apply Below.drew) | ((with_reducible refine Below.setCell ?_ ?_ _); rotate_left; focus (first | (simp; done) | (simp; omega) | omega)) | ((with_reducible refine Below.alloc ?_ ?_ _); rotate_left; focus (first | (simp; done) | (simp; omega) | omega)))))) (first | (go_at_call 16; refine (HTD.out _ (HX2.out.bel.trans ((show Below w2.heap.size w2 _ by (repeat (first | (with_reducible exact Below.refl _ _) | (with_reducible assumption) | (with_reducible apply below_drewN) | (with_reducible apply Below.drew) | ((with_reducible refine Below.setCell ?_ ?_ _); rotate_left; focus (first | (simp; done) | (simp; omega) | omega)) | ((with_reducible refine Below.alloc ?_ ?_ _); rotate_left; focus (first | (simp; done) | (simp; omega) | omega))))).mono HX2.out.bel.size))).mono ?_; rintro e w3 ⟨⟨g3, rfl, R3⟩, hb⟩; have hB3 : Below w2.heap.size w2 w3 := (show Below w2.heap.size w2 _ by (repeat (first | (with_reducible exact Below.refl _ _) | (with_reducible assumption) | (with_reducible apply below_drewN) | (with_reducible apply Below.drew) | ((with_reducible refine Below.setCell ?_ ?_ _); rotate_left; focus (first | (simp; done) | (simp; omega) | omega)) | ((with_reducible refine Below.alloc ?_ ?_ _); rotate_left; focus (first | (simp; done) | (simp; omega) | omega))))).trans (hb.mono (by first | (simp; done) | (simp; omega) | omega)); have hs3 := hB3.size; have HD3 : Hid (OwnD _ _ _ _) := R3; clear hb R3) | (go_at_call 17; refine (toValue_any k m t _).mono ?_; rintro e w4 ⟨rfl, hb⟩; have hB4 : Below w2.heap.size w2 w4 := (show Below w2.heap.size w2 _ by (repeat (first | (with_reducible exact Below.refl _ _) | (with_reducible assumption) | (with_reducible apply below_drewN) | (with_reducible apply Below.drew) | ((with_reducible refine Below.setCell ?_ ?_ _); rotate_left; focus (first | (simp; done) | (simp; omega) | omega)) | ((with_reducible refine Below.alloc ?_ ?_ _); rotate_left; focus (first | (simp; done) | (simp; omega) | omega))))).trans (hb.mono (by first | (simp; done) | (simp; omega) | omega)); have hs4 := hB4.size; have hV4 := hb; clear hb) | (go_at_call 15; refine (HS.out g3 _ (OwnD.rowD (owns_below HD3.out (by (repeat (first | (with_reducible exact Below.refl _ _) | (with_reducible assumption) | (with_reducible apply below_drewN) | (with_reducible apply Below.drew) | ((with_reducible refine Below.setCell ?_ ?_ _); rotate_left; focus (first | (simp; done) | (simp; omega) | omega)) | ((with_reducible refine Below.alloc ?_ ?_ _); rotate_left; focus (first | (simp; done) | (simp; omega) | omega)))))) rfl)).mono ?_; intro e w5 h5; obtain ⟨p5, c5, rfl, O5, hb⟩ := HR.out _ _ _ h5; clear h5; have hB5 : Below w2.heap.size w2 w5 := (show Below w2.heap.size w2 _ by (repeat (first | (with_reducible exact Below.refl _ _) | (with_reducible assumption) | (with_reducible apply below_drewN) | (with_reducible apply Below.drew) | ((with_reducible refine Below.setCell ?_ ?_ _); rotate_left; focus (first | (simp; done) | (simp; omega) | omega)) | ((with_reducible refine Below.alloc ?_ ?_ _); rotate_left; focus (first | (simp; done) | (simp; omega) | omega))))).trans (hb.mono (by first | (simp; done) | (simp; omega) | omega)); have hs5 := hB5.size; have HO5 : Hid (OwnS _ _ _ _) := O5; clear hb O5))
  have HX5 : Hid (BxK w w5 n (.slice a l.length cap) k m t) := HX2.out.step hB5
  have q0 := HX5.out.c0
  have q1 := HX5.out.c1
  clear hB3 hB4 hB5 hs3 hs4 hs5 HD3 HX2 hV4
  go_wp2_with fail
  refine (HTD.out _ HX5.out.bel).mono ?_
  rintro e w6 ⟨⟨g6, rfl, O6⟩, hb⟩
  have hg6 : w5.heap.size ≤ g6 := (World.ownsRow.lt O6 g6 rfl).1
  have hlow : w.heap.size + 2 ≤ g6 := by have := HX5.out.lt; omega
  have hg6l : g6 < w6.heap.size := (World.ownsRow.lt O6 g6 rfl).2
  have hal : Below w6.heap.size w6 (w6.alloc (.cells #[.string n, .slice (some ⟨g6, 0, none⟩) l.length l.length] 31)) := (Below.refl _ _).alloc (Nat.le_refl _) _
  have HX7 : Hid (BxK w _ n (.slice a l.length cap) k m t) := (HX5.out.step hb).step hal
  have HD7 : Hid (OwnD _ _ _ _) := owns_below O6 hal
  have HO7 : Hid (OwnS _ _ _ _) := owns_below (owns_below HO5.out hb) hal
  have y0 : (w6.alloc (.cells #[.string n, .slice (some ⟨g6, 0, none⟩) l.length l.length] 31)).cell? ⟨w6.heap.size, 0, none⟩ = some (.string n) := by simp [go_sem]
  have y1 : (w6.alloc (.cells #[.string n, .slice (some ⟨g6, 0, none⟩) l.length l.length] 31)).cell? ⟨w6.heap.size, 1, none⟩ = some (.slice (some ⟨g6, 0, none⟩) l.length l.length) := by simp [go_sem]
  have mb : w6.heap.size < (w6.alloc (.cells #[.string n, .slice (some ⟨g6, 0, none⟩) l.length l.length] 31)).heap.size := by simp
  have HG5 : Hid (∀ gg, (Value.slice p5 L.length c5).ownBlock = some gg → gg < g6) := fun gg hg => by have := (World.ownsRow.lt HO5.out gg hg).2; omega
  clear hb hal HX5 HO5 O6 q0 q1
  go_wp2_with fail
  generalize w6.alloc (.cells #[.string n, .slice (some ⟨g6, 0, none⟩) l.length l.length] 31) = W7 at HX7 HD7 HO7 y0 y1 mb ⊢
  obtain ⟨bx, hbx⟩ : ∃ bx, bx = w6.heap.size := ⟨_, rfl⟩
  rw [← hbx] at y0 y1 mb ⊢
  have hg7 : g6 < W7.heap.size := by omega
  have hbg : g6 < bx := by omega
  clear hbx hg6l
  go_region_held3 (fun w0 => w0.cell? ⟨w.heap.size, 0, none⟩ = some (.string n) ∧ w0.cell? ⟨w.heap.size, 1, none⟩ = some (.slice a l.length cap) ∧ w0.cell? ⟨w.heap.size + 1, 0, none⟩ = some (.int .i64 k) ∧ w0.cell? ⟨w.heap.size + 1, 1, none⟩ = some (.int .i64 m) ∧ w0.cell? ⟨w.heap.size + 1, 2, none⟩ = some (.string t) ∧ w0.cell? ⟨bx, 0, none⟩ = some (.string n) ∧ w0.cell? ⟨bx, 1, none⟩ = some (.slice (some ⟨g6, 0, none⟩) l.length l.length)) ((refine keepLB HX7.out mb y0 y1 ?_; (repeat (first | (with_reducible exact Below.refl _ _) | (with_reducible assumption) | (with_reducible apply below_drewN) | (with_reducible apply Below.drew) | ((with_reducible refine Below.setCell ?_ ?_ _); rotate_left; focus (first | (simp; done) | (simp; omega) | omega)) | ((with_reducible refine Below.alloc ?_ ?_ _); rotate_left; focus (first | (simp; done) | (simp; omega) | omega)))))) (first | (go_at_call 17; refine (toValue_any k m t _).mono ?_; rintro e w8 ⟨rfl, hb⟩; have hB8 : Below W7.heap.size W7 w8 := (show Below W7.heap.size W7 _ by (repeat (first | (with_reducible exact Below.refl _ _) | (with_reducible assumption) | (with_reducible apply below_drewN) | (with_reducible apply Below.drew) | ((with_reducible refine Below.setCell ?_ ?_ _); rotate_left; focus (first | (simp; done) | (simp; omega) | omega)) | ((with_reducible refine Below.alloc ?_ ?_ _); rotate_left; focus (first | (simp; done) | (simp; omega) | omega))))).trans (hb.mono (by first | (simp; done) | (simp; omega) | omega)); have hs8 := hB8.size; have hV8 := hb; clear hb) | (go_at_call 11; refine (HI.out g6 _ (OwnD.rowD (owns_below HD7.out (by (repeat (first | (with_reducible exact Below.refl _ _) | (with_reducible assumption) | (with_reducible apply below_drewN) | (with_reducible apply Below.drew) | ((with_reducible refine Below.setCell ?_ ?_ _); rotate_left; focus (first | (simp; done) | (simp; omega) | omega)) | ((with_reducible refine Below.alloc ?_ ?_ _); rotate_left; focus (first | (simp; done) | (simp; omega) | omega)))))) rfl)).mono ?_; intro e w9 h9; obtain ⟨p9, c9, rfl, O9, hb⟩ := HR.out _ _ _ h9; clear h9; have hB9 : Below W7.heap.size W7 w9 := (show Below W7.heap.size W7 _ by (repeat (first | (with_reducible exact Below.refl _ _) | (with_reducible assumption) | (with_reducible apply below_drewN) | (with_reducible apply Below.drew) | ((with_reducible refine Below.setCell ?_ ?_ _); rotate_left; focus (first | (simp; done) | (simp; omega) | omega)) | ((with_reducible refine Below.alloc ?_ ?_ _); rotate_left; focus (first | (simp; done) | (simp; omega) | omega))))).trans (hb.mono (by first | (simp; done) | (simp; omega) | omega)); have hs9 := hB9.size; have HO9 : Hid (OwnS w9 _ _ L) := owns_mono O9 hs8; clear hb O9))
  have HX9 : Hid (BxK w w9 n (.slice a l.length cap) k m t) := HX7.out.step hB9
  have HD9 : Hid (OwnD _ _ _ _) := owns_below HD7.out hB9
  have HP9 : Hid (OwnS _ _ _ _) := owns_below HO7.out hB9
  have z0 := (hB9.cell mb).trans y0
  have z1 := (hB9.cell mb).trans y1
  have mb9 := Nat.lt_of_lt_of_le mb hB9.size
  have hg9 := Nat.lt_of_lt_of_le hg7 hB9.size
  have HG9 : Hid (∀ gg, (Value.slice p9 L.length c9).ownBlock = some gg → g6 < gg) := fun gg hg => by have := (World.ownsRow.lt HO9.out gg hg).1; omega
  clear hB8 hB9 hs8 hs9 HX7 HD7 HO7 y0 y1 hV8
  go_wp2_with (go_at_call 18; refine (eqStrings_any p9 p5 c9 c5 L _ (ownS_in HO9.out) (ownS_in HP9.out) (by omega)).mono ?_; rintro e wA ⟨rfl, hbA⟩)
  have HXA : Hid (BxK w wA n (.slice a l.length cap) k m t) := HX9.out.step hbA
  have HDA : Hid (OwnD _ _ _ _) := owns_below HD9.out hbA
  have HPA : Hid (OwnS _ _ _ _) := owns_below HP9.out hbA
  have HOA : Hid (OwnS _ _ _ _) := owns_below HO9.out hbA
  have zA0 := (hbA.cell mb9).trans z0
  have zA1 := (hbA.cell mb9).trans z1
  have mbA := Nat.lt_of_lt_of_le mb9 hbA.size
  have hgA := Nat.lt_of_lt_of_le hg9 hbA.size
  clear hbA HX9 HD9 HP9 HO9 z0 z1 mb9 hg9
  go_region_held3 (fun w0 => w0.cell? ⟨w.heap.size, 0, none⟩ = some (.string n) ∧ w0.cell? ⟨w.heap.size, 1, none⟩ = some (.slice a l.length cap) ∧ w0.cell? ⟨w.heap.size + 1, 0, none⟩ = some (.int .i64 k) ∧ w0.cell? ⟨w.heap.size + 1, 1, none⟩ = some (.int .i64 m) ∧ w0.cell? ⟨w.heap.size + 1, 2, none⟩ = some (.string t) ∧ w0.cell? ⟨bx, 0, none⟩ = some (.string n) ∧ w0.cell? ⟨bx, 1, none⟩ = some (.slice (some ⟨g6, 0, none⟩) l.length l.length)) ((refine keepLB HXA.out mbA zA0 zA1 ?_; (repeat (first | (with_reducible exact Below.refl _ _) | (with_reducible assumption) | (with_reducible apply below_drewN) | (with_reducible apply Below.drew) | ((with_reducible refine Below.setCell ?_ ?_ _); rotate_left; focus (first | (simp; done) | (simp; omega) | omega)) | ((with_reducible refine Below.alloc ?_ ?_ _); rotate_left; focus (first | (simp; done) | (simp; omega) | omega)))))) (first | (go_at_call 16; refine (HTD.out _ (HXA.out.bel.trans ((show Below wA.heap.size wA _ by (repeat (first | (with_reducible exact Below.refl _ _) | (with_reducible assumption) | (with_reducible apply below_drewN) | (with_reducible apply Below.drew) | ((with_reducible refine Below.setCell ?_ ?_ _); rotate_left; focus (first | (simp; done) | (simp; omega) | omega)) | ((with_reducible refine Below.alloc ?_ ?_ _); rotate_left; focus (first | (simp; done) | (simp; omega) | omega))))).mono HXA.out.bel.size))).mono ?_; rintro e wB ⟨⟨gB, rfl, RB⟩, hb⟩; have hBB : Below wA.heap.size wA wB := (show Below wA.heap.size wA _ by (repeat (first | (with_reducible exact Below.refl _ _) | (with_reducible assumption) | (with_reducible apply below_drewN) | (with_reducible apply Below.drew) | ((with_reducible refine Below.setCell ?_ ?_ _); rotate_left; focus (first | (simp; done) | (simp; omega) | omega)) | ((with_reducible refine Below.alloc ?_ ?_ _); rotate_left; focus (first | (simp; done) | (simp; omega) | omega))))).trans (hb.mono (by first | (simp; done) | (simp; omega) | omega)); have hsB := hBB.size; have HDB : Hid (OwnD _ _ _ _) := RB; clear hb RB) | (go_at_call 19; refine (eqDef_same n _ _ _ _ l _ (ownD_row (owns_below HDA.out hBB) rfl) (ownD_row HDB.out rfl) hr2).mono ?_; rintro e wC ⟨rfl, hb⟩; have hBC : Below wA.heap.size wA wC := hBB.trans (hb.mono hsB); clear hb))
  have HXC : Hid (BxK w wC n (.slice a l.length cap) k m t) := HXA.out.step hBC
  have HDC : Hid (OwnD _ _ _ _) := owns_below HDA.out hBC
  have HPC : Hid (OwnS _ _ _ _) := owns_below HPA.out hBC
  have HOC : Hid (OwnS _ _ _ _) := owns_below HOA.out hBC
  have zC0 := (hBC.cell mbA).trans zA0
  have zC1 := (hBC.cell mbA).trans zA1
  have mbC := Nat.lt_of_lt_of_le mbA hBC.size
  have hgC := Nat.lt_of_lt_of_le hgA hBC.size
  clear hBB hBC hsB HDB HXA HDA HPA HOA zA0 zA1 mbA hgA
  go_wp2_with fail
  refine (markDef_any _ n _ l _ HDC.out hr2).mono ?_
  rintro e wD ⟨⟨kk, rfl⟩, WE, hbE, hgD⟩
  have hB1 : Below (w.heap.size + 2) wC wD := Below.grown (hbE.mono (by have := HXC.out.lt; omega)) hgD (by have := HXC.out.lt; have := hbE.size; omega) (fun b hb => by have e : g6 = b := (by simpa [Value.ownBlock] using hb); omega)
  have HXD : Hid (BxK w wD n (.slice a l.length cap) k m t) := HXC.out.low hB1
  have HPD : Hid (OwnS wD _ _ L) := World.ownsRow.kept (owns_below HPC.out hbE) hgD (by
    cases hv : (Value.slice p5 L.length c5).ownBlock with
    | none => exact .inl rfl
    | some gg => exact .inr (fun e => by injection e with e; have := HG5.out gg hv; simp at e; omega))
  have HOD : Hid (OwnS wD _ _ L) := World.ownsRow.kept (owns_below HOC.out hbE) hgD (by
    cases hv : (Value.slice p9 L.length c9).ownBlock with
    | none => exact .inl rfl
    | some gg => exact .inr (fun e => by injection e with e; have := HG9.out gg hv; simp at e; omega))
  have hk0 : ¬ ((kk : Nat) : Int) < 0 := by omega
  clear hbE hgD hB1 HXC HDC HPC HOC zC0 zC1 mbC hgC
  go_wp2_with (go_at_call 18; refine (eqStrings_any p9 p5 c9 c5 L _ (ownS_in HOD.out) (ownS_in HPD.out) (by omega)).mono ?_; rintro e wF ⟨rfl, hbF⟩)
  have HXF : Hid (BxK w wF n (.slice a l.length cap) k m t) := HXD.out.step hbF
  have HPF : Hid (OwnS _ _ _ _) := owns_below HPD.out hbF
  have HOF : Hid (OwnS _ _ _ _) := owns_below HOD.out hbF
  clear hbF HXD HPD HOD
  refine (markStringS_any _ _ L 1 _ HOF.out (by omega) (by omega) (by omega)).mono ?_
  rintro e wG ⟨rfl, OG, hgG⟩
  have HXG : Hid (BxK w wG n (.slice a l.length cap) k m t) := HXF.out.low (Below.grown (Below.refl _ _) hgG (by have := HXF.out.lt; omega) (fun b hb => by have := HG9.out b hb; omega))
  have HPG : Hid (OwnS wG _ _ L) := World.ownsRow.kept HPF.out hgG (by
    cases hv : (Value.slice p5 L.length c5).ownBlock with
    | none => exact .inl rfl
    | some gg => exact .inr (fun e => by have h1 := HG5.out gg hv; have h2 := HG9.out gg e.symm; omega))
  have HIG : Hid (InT1 wG p9 (marksS 1 L.length)) := by
    obtain ⟨p', c', e', i'⟩ := OwnS.in1 OG
    injection e' with e'
    rw [e']; exact i'
  clear OG hgG HXF HPF HOF
  go_wp2_with (go_at_call 22; refine (heldStringS_any p9 c9 L.length 1 _ HIG.out (by omega) (by omega) (by omega)).mono ?_; rintro e wH ⟨rfl, hbH⟩)
  have HXH : Hid (BxK w wH n (.slice a l.length cap) k m t) := HXG.out.step hbH
  have HPH : Hid (OwnS _ _ _ _) := owns_below HPG.out hbH
  have HIH : Hid (InT1 _ _ _) := HIG.out.step hbH
  clear hbH HXG HPG HIG
  go_region_held3 (fun w0 => w0.cell? ⟨w.heap.size, 0, none⟩ = some (.string n) ∧ w0.cell? ⟨w.heap.size, 1, none⟩ = some (.slice a l.length cap) ∧ w0.cell? ⟨w.heap.size + 1, 0, none⟩ = some (.int .i64 k) ∧ w0.cell? ⟨w.heap.size + 1, 1, none⟩ = some (.int .i64 m) ∧ w0.cell? ⟨w.heap.size + 1, 2, none⟩ = some (.string t)) ((refine keepL HXH.out ?_; (repeat (first | (with_reducible exact Below.refl _ _) | (with_reducible assumption) | (with_reducible apply below_drewN) | (with_reducible apply Below.drew) | ((with_reducible refine Below.setCell ?_ ?_ _); rotate_left; focus (first | (simp; done) | (simp; omega) | omega)) | ((with_reducible refine Below.alloc ?_ ?_ _); rotate_left; focus (first | (simp; done) | (simp; omega) | omega)))))) (first | (go_at_call 16; refine (HTD.out _ (HXH.out.bel.trans ((show Below wH.heap.size wH _ by (repeat (first | (with_reducible exact Below.refl _ _) | (with_reducible assumption) | (with_reducible apply below_drewN) | (with_reducible apply Below.drew) | ((with_reducible refine Below.setCell ?_ ?_ _); rotate_left; focus (first | (simp; done) | (simp; omega) | omega)) | ((with_reducible refine Below.alloc ?_ ?_ _); rotate_left; focus (first | (simp; done) | (simp; omega) | omega))))).mono HXH.out.bel.size))).mono ?_; rintro e wI ⟨⟨gI, rfl, RI⟩, hb⟩; have hBI : Below wH.heap.size wH wI := (show Below wH.heap.size wH _ by (repeat (first | (with_reducible exact Below.refl _ _) | (with_reducible assumption) | (with_reducible apply below_drewN) | (with_reducible apply Below.drew) | ((with_reducible refine Below.setCell ?_ ?_ _); rotate_left; focus (first | (simp; done) | (simp; omega) | omega)) | ((with_reducible refine Below.alloc ?_ ?_ _); rotate_left; focus (first | (simp; done) | (simp; omega) | omega))))).trans (hb.mono (by first | (simp; done) | (simp; omega) | omega)); have hsI := hBI.size; have HDI : Hid (OwnD _ _ _ _) := RI; clear hb RI) | (go_at_call 17; refine (toValue_any k m t _).mono ?_; rintro e wJ ⟨rfl, hb⟩; have hBJ : Below wH.heap.size wH wJ := (show Below wH.heap.size wH _ by (repeat (first | (with_reducible exact Below.refl _ _) | (with_reducible assumption) | (with_reducible apply below_drewN) | (with_reducible apply Below.drew) | ((with_reducible refine Below.setCell ?_ ?_ _); rotate_left; focus (first | (simp; done) | (simp; omega) | omega)) | ((with_reducible refine Below.alloc ?_ ?_ _); rotate_left; focus (first | (simp; done) | (simp; omega) | omega))))).trans (hb.mono (by first | (simp; done) | (simp; omega) | omega)); have hsJ := hBJ.size; have hVJ := hb; clear hb) | (go_at_call 11; refine (HI.out gI _ (OwnD.rowD (owns_below HDI.out (by (repeat (first | (with_reducible exact Below.refl _ _) | (with_reducible assumption) | (with_reducible apply below_drewN) | (with_reducible apply Below.drew) | ((with_reducible refine Below.setCell ?_ ?_ _); rotate_left; focus (first | (simp; done) | (simp; omega) | omega)) | ((with_reducible refine Below.alloc ?_ ?_ _); rotate_left; focus (first | (simp; done) | (simp; omega) | omega)))))) rfl)).mono ?_; intro e wK hK; obtain ⟨pK, cK, rfl, OK, hb⟩ := HR.out _ _ _ hK; clear hK; have hBK : Below wH.heap.size wH wK := (show Below wH.heap.size wH _ by (repeat (first | (with_reducible exact Below.refl _ _) | (with_reducible assumption) | (with_reducible apply below_drewN) | (with_reducible apply Below.drew) | ((with_reducible refine Below.setCell ?_ ?_ _); rotate_left; focus (first | (simp; done) | (simp; omega) | omega)) | ((with_reducible refine Below.alloc ?_ ?_ _); rotate_left; focus (first | (simp; done) | (simp; omega) | omega))))).trans (hb.mono (by first | (simp; done) | (simp; omega) | omega)); have hsK := hBK.size; have HOK : Hid (OwnS _ _ _ _) := OK; clear hb OK))
  have HXK : Hid (BxK w wK n (.slice a l.length cap) k m t) := HXH.out.step hBK
  have HPK : Hid (OwnS _ _ _ _) := owns_below HPH.out hBK
  have HIK : Hid (InT1 _ _ _) := HIH.out.step hBK
  clear hBI hBJ hBK hsI hsJ hsK HDI hVJ HXH HPH HIH
  go_wp2_with (go_at_call 18; refine (eqStrings_any pK p5 cK c5 L _ (ownS_in HOK.out) (ownS_in HPK.out) (by omega)).mono ?_; rintro e wM ⟨rfl, hbM⟩)
  have HXM : Hid (BxK w wM n (.slice a l.length cap) k m t) := HXK.out.step hbM
  have HIM : Hid (InT1 _ _ _) := HIK.out.step hbM
  clear hbM HXK HPK HIK HOK
  refine (heldStringS_any p9 c9 L.length 1 _ HIM.out (by omega) (by omega) (by omega)).mono ?_
  rintro e wN ⟨rfl, hbN⟩
  have hbw := (HXM.out.step hbN).bel
  clear hbN HXM HIM
  go_wp2_with fail
  go_ret
  exact ⟨rfl, hbw⟩

end Go.Proofs.YtdchhjnmhnehiaaGreatDoor.Dk

/- A definition that comes in, opened. -/
namespace Go.Proofs.YtdchhjnmhnehiaaGreatDoor.Tr
open Go.RowKit Go.Joins Go.Deep Go.ChangeShapes Go.WideShapes Go.ChangeAt
set_option linter.unusedVariables false

instance : Inhabited Prt := ⟨zpt⟩
theorem cellsODp : Tryz.prog.cellsOf 106 = 2 := by kernel_rfl
theorem cellsODd : Tryz.prog.cellsOf 49 = 2 := by kernel_rfl
theorem cellsOB : Tryz.prog.cellsOf 4 = 1 := by kernel_rfl
theorem cellsOS : Tryz.prog.cellsOf 9 = 1 := by kernel_rfl
theorem cellsODq : Tryz.prog.cellsOf 47 = 1 := by kernel_rfl
set_option maxRecDepth 100000 in
theorem open_part_cells {H : Type} {enc : TypeId × Value → H} {w : World} {base : Nat} {spare : Nat → Bool} {held : Bool} {fuel : Nat} {c0 c1 : Value} {x : DataW H × List MemPlace}
    (h : DataW.trod enc Tryz.prog w base spare held fuel 106 [c0, c1] = some x) :
    ∃ (k : ByteArray) (i : Bool), c0 = .string k ∧ c1 = .bool i ∧ k.size ≤ maxLen := by
  obtain ⟨y0, y1, m, _, _, t0, t1⟩ := trod_struct2 Tryz.underlying106 h
  obtain ⟨z0, e0, _, hk⟩ := DataW.trod_string Tryz.underlying9 t0
  obtain ⟨z1, e1, _⟩ := DataW.trod_bool Tryz.underlying4 t1
  simp [cellsOB, cellsOS] at e0 e1
  exact ⟨z0, z1, e0, e1, hk⟩
set_option maxRecDepth 100000 in
theorem open_parts {H : Type} {enc : TypeId × Value → H} {w : World} {base : Nat} {spare : Nat → Bool} {held : Bool} {fuel : Nat} {cs : List Value} {x : DataW H × List MemPlace}
    (h : DataW.trod enc Tryz.prog w base spare held fuel 47 cs = some x) :
    ∃ (a : Option Addr) (len cap : Nat) (l : List Prt), cs = [.slice a len cap] ∧ l.length = len ∧ (l.length ≤ maxLen ∧ ∀ v ∈ l, maxPt v) ∧ InD w a l := by
  rcases open_slice Tryz.underlying47 h with ⟨rfl, _⟩ | ⟨a, len, cap, m, n, D, Pl, rfl, hb, hl, hm, hmm, _, hx⟩
  · exact ⟨none, 0, 0, [], rfl, rfl, ⟨Nat.zero_le _, (fun v hv => by simp at hv)⟩, .inl rfl⟩
  · have hlm : len ≤ m := by rw [hmm]; split <;> omega
    rw [cellsODp] at hx
    obtain ⟨f, hf⟩ := choose_lt (α := Prt) (n := len) (p := fun i t => w.cell? (a.add (i * 2)) = some (.string t.path) ∧ w.cell? ((a.add (i * 2)).add 1) = some (.bool t.desc) ∧ maxPt t) (fun i hi => by
      obtain ⟨cs', h1, h2⟩ := hx i (by omega)
      obtain ⟨_, hlen, hc⟩ := World.cells?_some h1
      match cs', hlen with
      | [c0, c1], _ =>
        obtain ⟨k, id, rfl, rfl, hk⟩ := open_part_cells h2
        refine ⟨⟨k, id⟩, ?_, ?_, hk⟩
        · have := hc 0 (by omega); simpa [Addr.add] using this
        · exact hc 1 (by omega))
    refine ⟨some a, len, cap, (List.range len).map f, rfl, by simp, ⟨by simp; omega, ?_⟩, ?_⟩
    · intro v hv
      obtain ⟨i, hi, rfl⟩ := List.mem_map.mp hv
      exact (hf i (by simpa using hi)).2.2
    · by_cases h0 : len = 0
      · exact .inl (by simp [h0])
      · obtain ⟨b, off, spot⟩ := a
        have hc0 := (hf 0 (by omega)).1
        have hspot : spot = none := by simpa [Addr.add] using World.cell?_spot hc0
        subst hspot
        have hlt : b < w.heap.size := by
          rcases Nat.lt_or_ge b w.heap.size with h | h
          · exact h
          · simp [World.cell?, Addr.add, Array.getElem?_eq_none h] at hc0
        refine .inr ⟨b, off, rfl, hlt, fun i hi => ?_⟩
        have hi2 : i < len := by simpa using hi
        have := hf i hi2
        simp only [addO] at this
        simp only [List.getElem_map, List.getElem_range]
        exact ⟨this.1, this.2.1⟩
set_option maxRecDepth 100000 in
theorem open_def {H : Type} {enc : TypeId × Value → H} {w : World} {base b0 : Nat} {spare : Nat → Bool} {held : Bool} {r : Reach} {v : Value} {d : DataW H} {ps : List MemPlace}
    (hv : Value.okWide Tryz.prog w r b0 49 v) (h : DataW.Trod enc Tryz.prog w base spare held 49 v d ps) :
    ∃ (n : ByteArray) (a : Option Addr) (cap : Nat) (l : List Prt), v = .agg #[.string n, .slice a l.length cap] ∧ n.size ≤ maxLen ∧ l.length ≤ maxLen ∧ (∀ v ∈ l, maxPt v) ∧ InD w a l := by
  obtain ⟨cs, rfl, hsz⟩ := okWide_struct Tryz.underlying49 hv
  obtain ⟨fuel, hf⟩ := h
  rw [cellsODd] at hsz
  obtain ⟨l⟩ := cs
  match l, hsz with
  | [c0, c1], _ =>
    obtain ⟨y0, y1, n', _, _, t0, t1⟩ := trod_struct2 Tryz.underlying49 (show DataW.trod enc Tryz.prog w base spare held fuel 49 [c0, c1] = some _ by simpa [Value.cells] using hf)
    obtain ⟨z0, e0, _, hk⟩ := DataW.trod_string Tryz.underlying9 t0
    obtain ⟨p, ln, c, f, e, hln, h1, h3⟩ := open_parts t1
    simp [cellsODq, cellsOS] at e e0
    subst e e0 hln
    exact ⟨z0, p, c, f, rfl, hk, h1.1, h1.2, h3⟩

end Go.Proofs.YtdchhjnmhnehiaaGreatDoor.Tr

/- What the law of definitions leans on, together. -/
namespace Go.Proofs.YtdchhjnmhnehiaaGreatDoor.Tr

end Go.Proofs.YtdchhjnmhnehiaaGreatDoor.Tr

/- What the frame of the law on a document's keys leans on. -/
namespace Go.Proofs.YtdchhjnmhnehiaaGreatDoor
end Go.Proofs.YtdchhjnmhnehiaaGreatDoor

/- The law's own walk. -/
namespace Go.Proofs.YtdchhjnmhnehiaaGreatDoor
open Go.ChangeShapes Go.WideShapes Go.ChangeAt Go.RowKit Go.Joins
open Go.ChangeMaps (open_string shut_string)
set_option linter.unusedVariables false
namespace DefKeysf
open Tr

theorem walk (n : ByteArray) (a : Option Addr) (cap : Nat) (l : List Prt) (hn : n.size ≤ maxLen) (hl : l.length ≤ maxLen) (hs : ∀ v ∈ l, maxPt v) (k m : Int) (t : ByteArray) (ht : t.size ≤ maxLen) (_ : (Lit.int .i64 k).wf = true) (_ : (Lit.int .i64 m).wf = true) (w : World) (hin : InD w a l) :
    Calls Tryz.prog 4 #[.agg #[.string n, .slice a l.length cap], .agg #[.int .i64 k, .int .i64 m, .string t]] w fun e w' => e = .returned (.bool true) ∧ Below w.heap.size w w' :=
  Dk.lawDK n a cap l hn hl hs k m t ht w hin

end DefKeysf
end Go.Proofs.YtdchhjnmhnehiaaGreatDoor

/- The law's walk, lifted to the row. -/
namespace Go.Proofs.YtdchhjnmhnehiaaGreatDoor
open Go.ChangeShapes Go.WideShapes Go.ChangeAt Go.RowKit Go.Joins
open Go.ChangeMaps (open_string shut_string)
set_option linter.unusedVariables false
namespace DefKeysf
open Tr
theorem own : ownKnob Tryz.prog.godebug = none := by kernel_rfl
theorem laidOut : laidOutB Tryz.prog = true := by kernel_rfl
theorem cellsV : Tryz.prog.cellsOf 50 = 3 := by kernel_rfl

set_option maxRecDepth 100000 in
theorem lifted (os : Os) (started : os.Started) (H : Type) (enc : TypeId × Value → H) :
    ReturnsInHanded {} Tryz.checked os 4 .any (fun w args => (Rows.fnExactDocKeysSpec.pre enc Tryz.prog Tryz.f4 Rows.fnExactDocKeysRow.domain false w args ∧ laidMetH Tryz.prog Rows.fnExactDocKeysRow.laid w) ∧ sizedMet enc Tryz.prog Tryz.f4 (OpenSpec.ofChange Rows.fnExactDocKeysSpec) false w args)
      (Rows.fnExactDocKeysSpec.post enc Tryz.prog Tryz.f4 false true false false) := by
  refine returnsInHanded_of_change_and (C := Tryz.checked) (X := fun w _ => laidMetH Tryz.prog Rows.fnExactDocKeysRow.laid w) (fun _ _ _ hh h => h.of_heap hh) own started (by kernel_rfl) Tryz.func4
    (ChangeSpec.witness_shaped (enc := enc) (C := Tryz.checked) (os := os) (X := fun w _ => laidMetH Tryz.prog Rows.fnExactDocKeysRow.laid w) false (World.laidAll Tryz.prog os Rows.fnExactDocKeysRow.laid) #[.agg #[.string ByteArray.empty, .slice none 0 0], .agg #[.int .i64 0, .int .i64 0, .string ByteArray.empty]] 8 (World.laidAll_os _ _ _)
      (World.shaped_of_ZipB (by kernel_rfl) (by kernel_rfl)) (by kernel_rfl) (by kernel_rfl) (by kernel_rfl)
      (by rw [MakeChecks.laidMetH_plain _ _ _ (by kernel_rfl)]; exact laidMet_laidAll _ (by kernel_rfl) (by kernel_rfl))) ?_
  intro W base args ds gs before hval0 hW hcnd _ hL _
  have hval : ∀ (j : Nat) t v, Tryz.f4.params[j]? = some t → args[j]? = some v → Value.okWide Tryz.prog W .any base t v := hval0
  have hW' := hW
  obtain ⟨p, q, hA0, hV, rfl, hfz, hnd⟩ := hW
  have hA : DataW.TrodAll enc Tryz.prog W 0 (fun _ => true) true Tryz.f4.params.toList args.toList ds p := hA0
  rw [Tryz.params4] at hA hval
  obtain ⟨v0, vs0, d0, ds0, p0, q0, hargs, rfl, rfl, h0, r0⟩ := trodAll_cons hA
  obtain ⟨v1, vs1, d1, ds1, p1, q1, rfl, rfl, rfl, h1, r1⟩ := trodAll_cons r0
  obtain ⟨rfl, rfl, rfl⟩ := trodAll_nil r1
  obtain rfl : args = #[v0, v1] := by cases args; simp_all
  obtain ⟨rfl, rfl⟩ := trodVars_none hV
  have k0 := h0
  have lt0 : ∀ x ∈ p0, x.block < W.heap.size := by obtain ⟨m, hm⟩ := k0; exact DataW.trod_lt m _ _ _ hm
  obtain ⟨nm0, x0, cap0, l0, rfl, wn0, hl0, hs0, i0⟩ := open_def (hval 0 49 v0 rfl rfl) h0
  have k1 := h1
  have lt1 : ∀ x ∈ p1, x.block < W.heap.size := by obtain ⟨m, hm⟩ := k1; exact DataW.trod_lt m _ _ _ hm
  obtain ⟨c10, c11, c12, y10, y11, y12, m1, rfl, hd1, hp1, hy10, hy11, hy12⟩ := open_agg3 Tryz.underlying50 (by kernel_rfl) cellsV (hval 1 50 v1 rfl rfl) h1
  obtain ⟨a1, e10, _, wa1⟩ := DataW.trod_int Tryz.underlying3 hy10
  obtain ⟨b1, e11, _, wb1⟩ := DataW.trod_int Tryz.underlying3 hy11
  obtain ⟨s1, e12, _, ws1⟩ := DataW.trod_string Tryz.underlying9 hy12
  simp at e10 e11 e12
  subst e10 e11 e12
  clear hA0 hval0
  refine (walk nm0 x0 cap0 l0 wn0 hl0 hs0 a1 b1 s1 ws1 wa1 wb1 W i0).mono fun e W' ⟨he, bel⟩ => ?_
  subst he
  exact ⟨_, rfl, _, _, _, [], _, [], hW', trodAll_mk1 (shut_bool Tryz.underlying4 _), (trodAll_cons_mk (Below.trod laidOut (by kernel_rfl) (of_decide_eq_true (by kernel_rfl)) k0 bel lt0) (trodAll_cons_mk (Below.trod laidOut (by kernel_rfl) (of_decide_eq_true (by kernel_rfl)) k1 bel lt1) trodAll_mk0)), rfl, bel.frame _, fun h => by cases h⟩
end DefKeysf
end Go.Proofs.YtdchhjnmhnehiaaGreatDoor
