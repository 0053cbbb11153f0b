/- The law on lists and documents returns true for every two codes. -/
import Derived.Test.YtklicfcafpehfaaDocIQ
import Derived.Test.YtklicfcafpehfaaItemsOQ
import Derived.Test.YtklicfcafpehfaaDepthIQ
import Derived.Test.YtklicfcafpehfaaDocKQ
import Derived.Test.YtklicfcafpehfaaDrawSQ
import Derived.Deep.Cut
namespace Go.Proofs.Ytklicfcafpehfaa
open Go.RowKit
set_option linter.unusedVariables false

theorem ok_size {v : Val} (h : okB v = true) : v.t.size ≤ 1048576 := by
  rcases Nat.lt_or_ge 300 v.t.size with h' | h'
  · rw [ok_big v h'] at h; cases h
  · omega
/-- The names that the law gives to its fields, and the fields. -/
def nmL : List ByteArray := [⟨#[98]⟩, ⟨#[97]⟩, ⟨#[100]⟩, ⟨#[99]⟩]
def fldsAt : List ByteArray → List Val → List Fld
  | n :: ns, v :: vs => ⟨n, v⟩ :: fldsAt ns vs
  | _, _ => []
theorem fldsAt_len : ∀ (ns : List ByteArray) (l : List Val), l.length ≤ ns.length → (fldsAt ns l).length = l.length
  | _, [], _ => by cases ‹List ByteArray› <;> rfl
  | [], v :: vs, h => by simp at h
  | n :: ns, v :: vs, h => by simp only [fldsAt, List.length_cons]; rw [fldsAt_len ns vs (by simpa using h)]
theorem fldsAt_get : ∀ (ns : List ByteArray) (l : List Val) (k : Nat) (h : k < (fldsAt ns l).length) (h1 : k < ns.length) (h2 : k < l.length), (fldsAt ns l)[k] = ⟨ns[k], l[k]⟩
  | [], l, k, h, h1, h2 => by simp at h1
  | n :: ns, [], k, h, h1, h2 => by simp at h2
  | n :: ns, v :: vs, 0, h, h1, h2 => rfl
  | n :: ns, v :: vs, k + 1, h, h1, h2 => by simpa [fldsAt] using fldsAt_get ns vs k (by simpa [fldsAt] using h) (by simpa using h1) (by simpa using h2)
def lflds (l : List Val) : List Fld := fldsAt nmL l
theorem lflds_len (l : List Val) (h : l.length < 4) : (lflds l).length = l.length := fldsAt_len nmL l (by simp [nmL]; omega)
theorem lflds_take (l : List Val) (k : Nat) (h : l.length < 4) (hk : k < l.length) (h4 : k < nmL.length) : (lflds l).take (k + 1) = (lflds l).take k ++ [⟨nmL[k], l[k]⟩] := by
  rw [List.take_succ_eq_append_getElem (by rw [lflds_len l h]; exact hk)]
  congr 2
  exact fldsAt_get nmL l k _ h4 hk
theorem fldsAt_sizes : ∀ (ns : List ByteArray) (l : List Val), (∀ n ∈ ns, n.size ≤ 1048576) → (∀ v ∈ l, v.t.size ≤ 1048576) → ∀ f ∈ fldsAt ns l, f.name.size ≤ 1048576 ∧ f.v.t.size ≤ 1048576
  | [], l, _, _, f, hf => by cases l <;> simp [fldsAt] at hf
  | n :: ns, [], _, _, f, hf => by simp [fldsAt] at hf
  | n :: ns, v :: vs, h1, h2, f, hf => by
    rcases List.mem_cons.mp (show f ∈ (⟨n, v⟩ : Fld) :: fldsAt ns vs from hf) with rfl | hf
    · exact ⟨h1 n (List.mem_cons_self ..), h2 v (List.mem_cons_self ..)⟩
    · exact fldsAt_sizes ns vs (fun x hx => h1 x (List.mem_cons_of_mem _ hx)) (fun x hx => h2 x (List.mem_cons_of_mem _ hx)) f hf
theorem lflds_sizes (l : List Val) (h : ∀ v ∈ l, v.t.size ≤ 1048576) : ∀ f ∈ lflds l, f.name.size ≤ 1048576 ∧ f.v.t.size ≤ 1048576 :=
  fldsAt_sizes nmL l (fun n hn => by simp [nmL] at hn; rcases hn with rfl | rfl | rfl | rfl <;> decide) h
theorem fld_eq (a b : Fld) : ((a.name.toList == b.name.toList) && ((a.v.k == b.v.k) && ((a.v.n == b.v.n) && (a.v.t.toList == b.v.t.toList)))) = true ↔ a = b := by
  obtain ⟨an, ⟨ak, am, at'⟩⟩ := a
  obtain ⟨bn, ⟨bk, bm, bt⟩⟩ := b
  simp only [Bool.and_eq_true, Fld.mk.injEq, Val.mk.injEq]
  rw [eqL, eqL]
  simp only [beq_iff_eq]
/-- The names lie in a block. -/
abbrev NamesAt (W : World) (b : Nat) : Prop := W.heap[b]? = some (.cells #[.string ⟨#[98]⟩, .string ⟨#[97]⟩, .string ⟨#[100]⟩, .string ⟨#[99]⟩] 9 (0, 0))
theorem names_cell {W : World} {b : Nat} (h : NamesAt W b) (k : Nat) (hk : k < nmL.length) : W.cell? ⟨b, k, none⟩ = some (.string nmL[k]) := by
  have h4 : k < 4 := hk
  match k, h4 with
  | 0, _ => simp [World.cell?, h]; rfl
  | 1, _ => simp [World.cell?, h]; rfl
  | 2, _ => simp [World.cell?, h]; rfl
  | 3, _ => simp [World.cell?, h]; rfl
theorem names_lt {W : World} {b : Nat} (h : NamesAt W b) : b < W.heap.size := by
  rcases Nat.lt_or_ge b W.heap.size with h' | h'
  · exact h'
  · rw [NamesAt, Array.getElem?_eq_none h'] at h; cases h
theorem names_keep {W W' : World} {b base n : Nat} {v : Value} {xs : List Value} (h : NamesAt W b) (ho : W.ownsRow base 36 4 v n xs) (hg : W.grownBy W' v.ownBlock) : NamesAt W' b := by
  rw [NamesAt, hg.block b (names_lt h) ?_]
  · exact h
  · intro e
    rcases ho.2 with ⟨rfl, _⟩ | ⟨g, cap, cur, rfl, _, hh, _⟩
    · cases e
    · have e2 : b = g := by simpa [Value.ownBlock] using e
      subst e2
      rw [NamesAt, hh] at h
      injection h with h
      injection h with _ h2
      exact absurd h2 (by decide)
set_option maxRecDepth 8000 in
set_option maxHeartbeats 16000000 in
theorem lawLists (x x' : Option Addr) (cap cap' : Nat) (zs zs' : List Int) (w : World) (hin : InB w x zs) (hin' : InB w x' zs') (hb : ∀ i, i < zs.length → 0 ≤ zs.getD i 0 ∧ zs.getD i 0 < 256) (hb' : ∀ i, i < zs'.length → 0 ≤ zs'.getD i 0 ∧ zs'.getD i 0 < 256) (hm : zs.length ≤ maxLen) (hm' : zs'.length ≤ maxLen) :
    Calls Try.prog 3 #[.slice x zs.length cap, .slice x' zs'.length cap'] w fun e w' => e = .returned (.bool true) ∧ Below w.heap.size w w' := by
  unfold maxLen at hm hm'
  by_cases hl : 1048576 < zs.length
  · have h1 : (1048576 : Int) < (zs.length : Int) := by omega
    clear hin hin' hb hb'
    go_enter Try.func3, Try.ntmps3
    go_wp2_with fail
    go_ret
    exact ⟨rfl, Below.refl _ _⟩
  by_cases hl' : 1048576 < zs'.length
  · have h1 : ¬ (1048576 : Int) < (zs.length : Int) := by omega
    have h2 : (1048576 : Int) < (zs'.length : Int) := by omega
    clear hin hin' hb hb'
    go_enter Try.func3, Try.ntmps3
    go_wp2_with fail
    go_ret
    exact ⟨rfl, Below.refl _ _⟩
  have h1 : ¬ (1048576 : Int) < (zs.length : Int) := by omega
  have h2 : ¬ (1048576 : Int) < (zs'.length : Int) := by omega
  have HC : Hid (InC w x zs) := ⟨hin, hb, by omega⟩
  have HC' : Hid (InC w x' zs') := ⟨hin', hb', by omega⟩
  clear hin hin' hb hb'
  go_enter Try.func3, Try.ntmps3
  go_wp2_with fail
  refine (at_any x' cap' zs' 4 _ HC'.out (by omega) (by omega)).mono ?_
  rintro e w1 ⟨⟨r, rfl, hr⟩, b1⟩
  have I1 : Hid (InC w1 x zs) := HC.out.step b1
  have P1 : Hid (Below w.heap.size w w1) := b1
  clear b1
  go_wp2_with fail
  refine (valuesOf_any x cap zs r _ I1.out (by omega)).mono ?_
  rintro e w2 ⟨⟨g, c, l, rfl, hlr, hall, hown⟩, b2⟩
  subst hlr
  have R2 : Hid (ReadV w2 g l) := ReadV.of_own hown
  have HA : Hid (∀ v ∈ l, okB v = true) := hall
  have HT : Hid (∀ v ∈ l, v.t.size ≤ 1048576) := fun v hv => ok_size (hall v hv)
  have P2 : Hid (Below w.heap.size w w2) := P1.out.trans (b2.mono P1.out.size)
  clear hall hown b2 I1 HC HC' P1
  obtain ⟨P, hP⟩ : ∃ P, P = listP l := ⟨_, rfl⟩
  obtain ⟨⟨pk, pn, pt⟩, pc⟩ := P
  have HP : Hid (_ = _) := hP
  clear hP
  go_wp2_with fail
  refine (implList_any g c l _ R2.out (by omega) HT.out).mono ?_
  rintro e w3 ⟨rfl, b3⟩
  rw [← HP.out]
  have X0 := Boxed.start w3 (.int .i64 pk) (.int .i64 pn) (.string pt) 27
  have R3 : Hid (ReadV _ _ _) := (R2.out.next b3).next X0.bel
  have P3 : Hid (Below w.heap.size w w3) := P2.out.trans (b3.mono P2.out.size)
  clear b3 R2 P2
  go_wp2_with fail
  refine (specList_any g c l _ R3.out (by omega) HT.out).mono ?_
  rintro e w4 ⟨rfl, b4⟩
  rw [← HP.out]
  have X1 := X0.step b4
  have Y0 := Boxed.start w4 (.int .i64 pk) (.int .i64 pn) (.string pt) 27
  have X2 := X1.step Y0.bel
  have R4 : Hid (ReadV _ _ _) := (R3.out.next b4).next Y0.bel
  have a0 := X2.c0
  have a1 := X2.c1
  have a2 := X2.c2
  have HX2 : Hid (Boxed _ _ _ _ _) := X2
  clear b4 R3 X0 X1 X2
  by_cases hpc : pc = 0
  · obtain ⟨hv, hvok, hvit, hvl, hvs, _⟩ := listP_back l ⟨pk, pn, pt⟩ (by rw [← HP.out, hpc])
    have hpk : pk = 4 := congrArg Val.k hv
    have hpn : pn = 0 := congrArg Val.n hv
    have hpts : pt.size ≤ 1048576 := by have : pt.size ≤ 300 := hvs; omega
    have HOK : Hid (okB ⟨4, 0, pt⟩ = true) := by rw [← hpk, ← hpn]; exact hvok
    have HIT : Hid (items pt = some l) := hvit
    have P5 := P3.out.trans (HX2.out.bel.mono P3.out.size)
    have HP4 : Hid (Below _ _ _) := P5
    have u0 := Y0.c0
    have u1 := Y0.c1
    have u2 := Y0.c2
    subst hpk hpn hpc
    clear P5 hv hvok hvit hvl hvs Y0
    by_cases hle : l = []
    · have HSV : Hid (∀ W : World, Calls Try.prog 20 #[.slice none 0 0, .slice (some ⟨g, 0, none⟩) l.length c] W fun e w' => e = .returned (.bool true) ∧ Below W.heap.size W w') := fun W => by rw [hle]; exact sameValues_nil _ _ _ _ W
      have HIT0 : Hid (items pt = some []) := by rw [← hle]; exact HIT.out
      clear hle
      go_wp2_with fail
      refine (implItems_none 0 pt _ hpts HOK.out HIT0.out).mono ?_
      rintro e w6 ⟨rfl, b6⟩
      have X6 := HX2.out.step b6
      have P6 : Hid (Below _ _ _) := HP4.out.trans (b6.mono HP4.out.size)
      have R6 : Hid (ReadV _ _ _) := R4.out.next b6
      clear b6 a0 a1 a2 u0 u1 u2 HX2 R4 HP4
      go_wp2_with fail
      refine (HSV.out _).mono ?_
      rintro e w7 ⟨rfl, b7⟩
      have k0 := (X6.step b7).c0
      have HP5 : Hid (Below w.heap.size w w7) := P6.out.trans (b7.mono P6.out.size)
      have R5 : Hid (ReadV w7 g l) := R6.out.next b7
      clear b7 X6 P6 R6 HSV
      go_upto_region 12 with fail
      generalize w7 = W5 at R5 HP5 ⊢
      clear k0
      have O0 := World.ownsRow_made (base := W5.heap.size) (size := 4) (e := 36) W5 #[] 0 (Nat.le_refl _) (by unfold maxLen; omega) rfl
      have HO0 : Hid (World.ownsRow _ _ _ _ _ _ _) := O0.alloc (.cells #[.string ⟨#[98]⟩, .string ⟨#[97]⟩, .string ⟨#[100]⟩, .string ⟨#[99]⟩] 9)
      have N0 : Hid (NamesAt ((W5.alloc (.cells #[] 36)).alloc (.cells #[.string ⟨#[98]⟩, .string ⟨#[97]⟩, .string ⟨#[100]⟩, .string ⟨#[99]⟩] 9)) (W5.heap.size + 1)) := by have := heap_alloc_new (W5.alloc (.cells #[] 36)) (.cells #[.string ⟨#[98]⟩, .string ⟨#[97]⟩, .string ⟨#[100]⟩, .string ⟨#[99]⟩] 9); rw [heap_size_alloc] at this; exact this
      have B0 : Hid (Below W5.heap.size W5 ((W5.alloc (.cells #[] 36)).alloc (.cells #[.string ⟨#[98]⟩, .string ⟨#[97]⟩, .string ⟨#[100]⟩, .string ⟨#[99]⟩] 9))) := ((Below.refl _ _).alloc (Nat.le_refl _) _).alloc (by simp) _
      clear O0
      go_wp2_with fail
      go_loopw [12, 14] (fun u i wr => ∃ k : Nat, k ≤ l.length ∧ i = .int .i64 k ∧ wr.ownsRow W5.heap.size 36 4 u k (flatF ((lflds l).take k)) ∧ (¬ u = .slice none 0 0) ∧ NamesAt wr (W5.heap.size + 1) ∧ Below W5.heap.size W5 wr) (fun _ i _ => l.length - (intOf i).toNat)
      case atStart => exact ⟨0, Nat.zero_le _, rfl, HO0.out, by simp, N0.out, B0.out⟩
      case round =>
        obtain ⟨k, hk, rfl, hown, hnn, hnam, hbel⟩ := hrel
        have hz := hbel.size
        have HO : Hid (World.ownsRow _ _ _ _ _ _ _) := hown
        have HN : Hid (NamesAt _ _) := hnam
        clear HO0 N0 B0
        by_cases hlt : k < l.length
        · have hk4 : k < nmL.length := by show k < 4; omega
          have R := R5.out.next hbel
          obtain ⟨x0, x1, x2⟩ := R.cells k hlt
          have hgl := R.lt
          have y0 := names_cell hnam k hk4
          have hyl := names_lt hnam
          have hk3 : (k : Int) < 4 := by omega
          have htk := lflds_take l k hr hlt hk4
          obtain ⟨nm, hnm⟩ : ∃ nm, nm = nmL[k] := ⟨_, rfl⟩
          rw [← hnm] at y0 htk
          have HTK : Hid (_ = _) := htk
          clear R htk hnm hown hnn hnam
          go_wp2_with fail
          go_region_law (refine step_appF rfl (.tmp 84) (.tmp 94) rfl W5.heap.size k _ (flatF ((lflds l).take k)) rfl (by first | exact HO.out | exact HO.out.alloc _) _ 1 1 (rowF ⟨nm, l[k]⟩) rfl rfl (by exact liesF_cells (f := ⟨nm, l[k]⟩) (heap_alloc_new _ _)) (rowF_one _) (by omega) (by omega) (by first | (simp; omega) | omega) ?_; intro v1 w1' o1 g1 n1)
          all_goals
            have hb1 : Below W5.heap.size W5 w1' := Below.grown (by (repeat (first | (with_reducible exact Below.refl _ _) | (with_reducible assumption) | (with_reducible apply below_drewN) | (with_reducible apply Below.drew) | ((with_reducible refine Below.setCell ?_ ?_ _); rotate_left; focus (first | (simp; done) | (simp; omega) | omega)) | ((with_reducible refine Below.alloc ?_ ?_ _); rotate_left; focus (first | (simp; done) | (simp; omega) | omega))))) g1 (by first | (simp; omega) | omega) (fun q hq => (HO.out.lt q hq).1)
            have HN1 : Hid (NamesAt w1' (W5.heap.size + 1)) := names_keep (by rw [NamesAt]; exact (heap_alloc_old _ _ (by exact names_lt HN.out)).trans HN.out) (by exact HO.out.alloc _) g1
            have H1 : Hid (w1'.ownsRow W5.heap.size 36 4 v1 (k + 1) (flatF ((lflds l).take (k + 1)))) := by rw [HTK.out, flatF_app]; exact o1
            have N1 : Hid (¬ v1 = .slice none 0 0) := fun h => absurd (n1.mp h).2 (by decide)
            clear o1 g1 n1
            go_wp2_with fail
            go_roundw
            case rel => exact ⟨k + 1, by omega, by go_num, H1.out, N1.out, HN1.out, hb1⟩
            case measure => simp [intOf]; omega
        · obtain rfl : k = l.length := by omega
          have hL := lflds_len l hr
          rw [show (lflds l).take l.length = lflds l from List.take_of_length_le (by omega)] at hown
          obtain ⟨g5, c5, rfl⟩ := owns_shape hown hnn
          have RF : ReadF wr g5 (lflds l) := ReadF.of_own (by rw [hL]; exact hown)
          have hLts := lflds_sizes l HT.out
          obtain ⟨L, hLe⟩ : ∃ L, L = lflds l := ⟨_, rfl⟩
          rw [← hLe] at RF hL hLts
          have HRF : Hid (ReadF _ _ _) := RF
          have HB5 : Hid (Below w.heap.size w wr) := HP5.out.trans (hbel.mono HP5.out.size)
          have HD0 := fun (W : World) (h : ReadF W g5 L) => implDoc_any g5 c5 L W h (by omega) hLts
          have HS0 := fun (W : World) (h : ReadF W g5 L) => specDoc_any g5 c5 L W h (by omega) hLts
          obtain ⟨M, hM⟩ : ∃ M, M = madeP L := ⟨_, rfl⟩
          rw [← hM] at HD0 HS0
          obtain ⟨⟨mk, mn, mx⟩, mc⟩ := M
          rw [hL] at HD0 HS0
          have HD : Hid (∀ W : World, ReadF W g5 L → Calls Try.prog 21 #[.slice (some ⟨g5, 0, none⟩) l.length c5] W fun e w' => e = .returned (.tuple #[.agg #[.int .i64 mk, .int .i64 mn, .string mx], .int .i64 mc]) ∧ Below W.heap.size W w') := HD0
          have HSp : Hid (∀ W : World, ReadF W g5 L → Calls Try.prog 22 #[.slice (some ⟨g5, 0, none⟩) l.length c5] W fun e w' => e = .returned (.tuple #[.agg #[.int .i64 mk, .int .i64 mn, .string mx], .int .i64 mc]) ∧ Below W.heap.size W w') := HS0
          have HMB : Hid (mc = 0 → ∃ s, (⟨mk, mn, mx⟩ : Val) = ⟨5, 0, txt (encFL s)⟩ ∧ okB ⟨mk, mn, mx⟩ = true ∧ fields mx = some s ∧ GoodF s ∧ s.length = L.length ∧ L.length ≤ 300 ∧ mx.size ≤ 300 ∧ ∀ f ∈ s, f ∈ L) := fun h0 => by subst h0; exact madeP_back L ⟨mk, mn, mx⟩ hM.symm
          have hLl : Hid (L.length = l.length) := hL
          have HLts : Hid _ := hLts
          clear HD0 HS0 hM hown hnn hnam HO HN hbel RF hLe hL hLts
          go_wp2_with fail
          refine (HD.out _ HRF.out).mono ?_
          rintro e w6 ⟨rfl, b6⟩
          have X6 := Boxed.start w6 (.int .i64 mk) (.int .i64 mn) (.string mx) 27
          have RF6 : Hid (ReadF _ _ _) := (HRF.out.next b6).next X6.bel
          have B6 : Hid (Below w.heap.size w w6) := HB5.out.trans (b6.mono HB5.out.size)
          clear b6 HRF HB5
          go_wp2_with fail
          refine (HD.out _ RF6.out).mono ?_
          rintro e w7 ⟨rfl, b7⟩
          have X7 := X6.step b7
          have Z7 := Boxed.start w7 (.int .i64 mk) (.int .i64 mn) (.string mx) 27
          have X8 := X7.step Z7.bel
          have RF8 : Hid (ReadF _ _ _) := (RF6.out.next b7).next Z7.bel
          have B8 : Hid (Below w.heap.size w _) := B6.out.trans (X8.bel.mono B6.out.size)
          have a0 := X8.c0
          have a1 := X8.c1
          have a2 := X8.c2
          have u0 := Z7.c0
          have u1 := Z7.c1
          have u2 := Z7.c2
          have HX8 : Hid (Boxed _ _ _ _ _) := X8
          clear b7 X6 X7 RF6 X8 Z7
          by_cases hmc : mc = 0
          · obtain ⟨s, hv, hvok, hvf, hgood, hsl, hL3, hms, hsub⟩ := HMB.out hmc
            have hmk : mk = 5 := congrArg Val.k hv
            have hmn : mn = 0 := congrArg Val.n hv
            have HOK : Hid (okB ⟨5, 0, mx⟩ = true) := by rw [← hmk, ← hmn]; exact hvok
            have HFI : Hid (fields mx = some s) := hvf
            have HGO : Hid (GoodF s) := hgood
            have HSU : Hid _ := hsub
            have hsl' : s.length = l.length := by rw [hsl]; exact hLl.out
            have HSL : Hid _ := hsl'
            have hmx : mx.size ≤ 1048576 := by omega
            subst hmk hmn hmc
            clear hv hvok hvf hgood hsub hsl hL3 hms HMB
            by_cases hs0 : s = []
            · subst hs0
              have hl0 : l.length = 0 := by rw [← HSL.out]; rfl
              have hl0' : l = [] := List.length_eq_zero_iff.1 hl0
              subst hl0'
              have HFI0 : Hid (fields mx = some []) := HFI.out
              go_wp2_with fail
              refine (implFields_none 0 mx _ hmx HOK.out HFI0.out).mono ?_
              rintro e w9 ⟨rfl, b9⟩
              have k0 := (HX8.out.step b9).c0
              have B9 := B8.out.trans (b9.mono B8.out.size)
              clear b9
              go_wp2_with fail
              refine wp_loop_rounds 1 ?_
              rw [rounds_succ]
              go_wp2_with fail
              go_ret
              exact ⟨rfl, B9⟩
            · have hsts : ∀ f ∈ s, f.name.size ≤ 1048576 ∧ f.v.t.size ≤ 1048576 := fun f hf => HLts.out f (HSU.out f hf)
              have HIF0 := fun W : World => implFields_some 0 mx s W hmx HOK.out HFI.out hs0 hsts (by omega)
              rw [hsl'] at HIF0
              have HIF : Hid (∀ W : World, Calls _ _ _ W _) := HIF0
              clear HIF0 hsts hsl'
              go_wp2_with fail
              refine (HIF.out _).mono ?_
              rintro e w9 ⟨⟨g8, c8, rfl, hown8⟩, b9⟩
              have k0 := (HX8.out.step b9).c0
              have B9 : Hid (Below _ _ _) := B8.out.trans (b9.mono B8.out.size)
              have RS : Hid (ReadF w9 g8 s) := ReadF.of_own (by rw [HSL.out]; exact hown8)
              have RL : Hid (ReadF w9 g5 L) := RF8.out.next b9
              clear b9 hown8 HX8 RF8 B8 a0 a1 a2 u0 u1 u2
              go_wp2_with fail
              go_loopw [23] (fun i wr => ∃ p : Nat, p ≤ l.length ∧ i = .int .i64 p ∧ Below w9.heap.size w9 wr) (fun i _ => l.length - (intOf i).toNat)
              case atStart => exact ⟨0, Nat.zero_le _, rfl, Below.refl _ _⟩
              case round =>
                obtain ⟨p, hp, rfl, hbp⟩ := hrel
                by_cases hpl : p < l.length
                · have hps : p < s.length := by rw [HSL.out]; exact hpl
                  have hpl2 : (p : Int) < (l.length : Int) := by omega
                  have RSp := RS.out.next hbp
                  have z0 := (RSp.cells p hps).1
                  have l2 := RSp.lt
                  obtain ⟨fp, hfp⟩ : ∃ fp, fp = s[p] := ⟨_, rfl⟩
                  rw [← hfp] at z0
                  have HFP : Hid (fp = s[p]) := hfp
                  have v0 : ∀ u : Under wr, u.x.cell? ⟨g8, p * 4, none⟩ = some (.string fp.name) := fun u => (u.h.cell l2).trans z0
                  have hnu : Nonempty (Under wr) := ⟨⟨wr, Below.refl _ _⟩⟩
                  by_cases hp0 : p = 0
                  · have hd : decide (0 < p) = false := decide_eq_false (by omega)
                    have v1 : True := trivial
                    clear RSp z0 hfp hp0
                    go_wp2_with fail
                    refine wp_region_under (by kernel_rfl) (by kernel_rfl) ?_
                    repeat (go_big_quiet_step (fail))
                    refine wpQuiet_nil ?_
                    rintro _ ⟨u, rfl⟩
                    have HBU : Hid (Below w9.heap.size w9 u.x) := hbp.trans (u.h.mono hbp.size)
                    clear v0 v1 hbp hd
                    go_wp2_with fail
                    go_loopw [24, 25] (fun fo i wq => ∃ (q : Nat) (b : Bool), q ≤ l.length ∧ i = .int .i64 q ∧ fo = .bool b ∧ (b = true ↔ ∃ j, j < q ∧ L[j]? = some fp) ∧ Below w9.heap.size w9 wq) (fun _ i _ => l.length - (intOf i).toNat)
                    case atStart => exact ⟨0, false, Nat.zero_le _, rfl, rfl, ⟨(fun h => by cases h), (fun ⟨j, h, _⟩ => by omega)⟩, HBU.out⟩
                    case round =>
                      obtain ⟨q, b, hq, rfl, rfl, hiff, hbq⟩ := hrel
                      have HIFF : Hid (_ ↔ _) := hiff
                      have HBQ : Hid (Below _ _ _) := hbq
                      clear hiff HBU
                      by_cases hql : q < l.length
                      · have hqL : q < L.length := by rw [hLl.out]; exact hql
                        have hql2 : (q : Int) < (l.length : Int) := by omega
                        have RLq := RL.out.next hbq
                        have RSq := RS.out.next hbq
                        obtain ⟨x0, x1, x2, x3⟩ := RLq.cells q hqL
                        have l1 := RLq.lt
                        have l2 := RSq.lt
                        obtain ⟨z0, z1, z2, z3⟩ := RSq.cells p hps
                        rw [← HFP.out] at z0 z1 z2 z3
                        have hgq : L[q]? = some L[q] := List.getElem?_eq_getElem hqL
                        obtain ⟨fq, hfq⟩ : ∃ fq, fq = L[q] := ⟨_, rfl⟩
                        rw [← hfq] at x0 x1 x2 x3 hgq
                        have HGQ : Hid (L[q]? = some fq) := hgq
                        have r0 : ∀ u : Under wr, u.x.cell? ⟨g5, q * 4, none⟩ = some (.string fq.name) := fun u => (u.h.cell l1).trans x0
                        have r1 : ∀ u : Under wr, u.x.cell? ⟨g5, q * 4 + 1, none⟩ = some (.int .i64 fq.v.k) := fun u => (u.h.cell l1).trans x1
                        have r2 : ∀ u : Under wr, u.x.cell? ⟨g5, q * 4 + 2, none⟩ = some (.int .i64 fq.v.n) := fun u => (u.h.cell l1).trans x2
                        have r3 : ∀ u : Under wr, u.x.cell? ⟨g5, q * 4 + 3, none⟩ = some (.string fq.v.t) := fun u => (u.h.cell l1).trans x3
                        have s0' : ∀ u : Under wr, u.x.cell? ⟨g8, p * 4, none⟩ = some (.string fp.name) := fun u => (u.h.cell l2).trans z0
                        have s1' : ∀ u : Under wr, u.x.cell? ⟨g8, p * 4 + 1, none⟩ = some (.int .i64 fp.v.k) := fun u => (u.h.cell l2).trans z1
                        have s2' : ∀ u : Under wr, u.x.cell? ⟨g8, p * 4 + 2, none⟩ = some (.int .i64 fp.v.n) := fun u => (u.h.cell l2).trans z2
                        have s3' : ∀ u : Under wr, u.x.cell? ⟨g8, p * 4 + 3, none⟩ = some (.string fp.v.t) := fun u => (u.h.cell l2).trans z3
                        have hnu : Nonempty (Under wr) := ⟨⟨wr, Below.refl _ _⟩⟩
                        clear RLq RSq x0 x1 x2 x3 z0 z1 z2 z3 hgq hfq
                        cases b
                        · have HNX : Hid (∀ bb : Bool, (bb = true ↔ fq = fp) → (bb = true ↔ ∃ j, j < q + 1 ∧ L[j]? = some fp)) := fun bb hbb => by
                            rw [hbb]
                            constructor
                            · intro e; exact ⟨q, by omega, by rw [HGQ.out, e]⟩
                            · rintro ⟨j, hj, e⟩
                              by_cases hjq : j = q
                              · subst hjq; rw [HGQ.out] at e; exact Option.some.inj e
                              · have := HIFF.out.2 ⟨j, by omega, e⟩; cases this
                          cases e1 : (fq.name.toList == fp.name.toList) <;> cases e2 : (fq.v.k == fp.v.k) <;> cases e3 : (fq.v.n == fp.v.n) <;> cases e4 : (fq.v.t.toList == fp.v.t.toList)
                          all_goals
                            have HEQ := fld_eq fq fp
                            rw [e1, e2, e3, e4] at HEQ
                            have HE : Hid (_ ↔ _) := HEQ
                            clear HEQ
                            go_wp2_with fail
                            refine wp_region_under (by kernel_rfl) (by kernel_rfl) ?_
                            repeat (go_big_quiet_step (fail))
                            refine wpQuiet_nil ?_
                            rintro _ ⟨u, rfl⟩
                            go_wp2_with fail
                            go_roundw
                            case rel => exact ⟨q + 1, _, by omega, by go_num, rfl, HNX.out _ HE.out, HBQ.out.trans (u.h.mono HBQ.out.size)⟩
                            case measure => simp [intOf]; omega
                        · have HNX : Hid (∃ j, j < q + 1 ∧ L[j]? = some fp) := by obtain ⟨j, hj, e⟩ := HIFF.out.1 rfl; exact ⟨j, by omega, e⟩
                          go_wp2_with fail
                          refine wp_region_under (by kernel_rfl) (by kernel_rfl) ?_
                          repeat (go_big_quiet_step (fail))
                          refine wpQuiet_nil ?_
                          rintro _ ⟨u, rfl⟩
                          go_wp2_with fail
                          go_roundw
                          case rel => exact ⟨q + 1, true, by omega, by go_num, rfl, ⟨fun _ => HNX.out, fun _ => rfl⟩, HBQ.out.trans (u.h.mono HBQ.out.size)⟩
                          case measure => simp [intOf]; omega
                      · have hbt : b = true := HIFF.out.2 (by
                          obtain ⟨j, hj, e⟩ := List.mem_iff_getElem.1 (HSU.out fp (by rw [HFP.out]; exact List.getElem_mem _))
                          exact ⟨j, by have := hLl.out; omega, by rw [List.getElem?_eq_getElem hj, e]⟩)
                        subst hbt
                        go_wp2_with fail
                        go_roundw
                        case rel => exact ⟨p + 1, by omega, by go_num, HBQ.out⟩
                        case measure => simp [intOf]; omega
                  · have hd : decide (0 < p) = true := decide_eq_true (by omega)
                    have hlt1 : p - 1 < s.length := by omega
                    have z1 := (RSp.cells (p - 1) hlt1).1
                    have hris := HGO.out.rise (p - 1) p hlt1 hps (by omega)
                    rw [← hfp] at hris
                    have hbl : Op.bytesLess s[p - 1].name.toList fp.name.toList = true := hris
                    obtain ⟨fo, hfo⟩ : ∃ fo, fo = s[p - 1] := ⟨_, rfl⟩
                    rw [← hfo] at z1 hbl
                    have v1 : ∀ u : Under wr, u.x.cell? ⟨g8, (p - 1) * 4, none⟩ = some (.string fo.name) := fun u => (u.h.cell l2).trans z1
                    have hpi : (p : Int) - 1 = ((p - 1 : Nat) : Int) := by omega
                    have hp1 : ((p - 1 : Nat) : Int) < (l.length : Int) := by omega
                    clear RSp z0 z1 hfp hfo hris hp0
                    go_wp2_with fail
                    refine wp_region_under (by kernel_rfl) (by kernel_rfl) ?_
                    repeat (go_big_quiet_step (fail))
                    refine wpQuiet_nil ?_
                    rintro _ ⟨u, rfl⟩
                    have HBU : Hid (Below w9.heap.size w9 u.x) := hbp.trans (u.h.mono hbp.size)
                    clear v0 v1 hbp hd hpi hp1 hbl
                    go_wp2_with fail
                    go_loopw [24, 25] (fun fo i wq => ∃ (q : Nat) (b : Bool), q ≤ l.length ∧ i = .int .i64 q ∧ fo = .bool b ∧ (b = true ↔ ∃ j, j < q ∧ L[j]? = some fp) ∧ Below w9.heap.size w9 wq) (fun _ i _ => l.length - (intOf i).toNat)
                    case atStart => exact ⟨0, false, Nat.zero_le _, rfl, rfl, ⟨(fun h => by cases h), (fun ⟨j, h, _⟩ => by omega)⟩, HBU.out⟩
                    case round =>
                      obtain ⟨q, b, hq, rfl, rfl, hiff, hbq⟩ := hrel
                      have HIFF : Hid (_ ↔ _) := hiff
                      have HBQ : Hid (Below _ _ _) := hbq
                      clear hiff HBU
                      by_cases hql : q < l.length
                      · have hqL : q < L.length := by rw [hLl.out]; exact hql
                        have hql2 : (q : Int) < (l.length : Int) := by omega
                        have RLq := RL.out.next hbq
                        have RSq := RS.out.next hbq
                        obtain ⟨x0, x1, x2, x3⟩ := RLq.cells q hqL
                        have l1 := RLq.lt
                        have l2 := RSq.lt
                        obtain ⟨z0, z1, z2, z3⟩ := RSq.cells p hps
                        rw [← HFP.out] at z0 z1 z2 z3
                        have hgq : L[q]? = some L[q] := List.getElem?_eq_getElem hqL
                        obtain ⟨fq, hfq⟩ : ∃ fq, fq = L[q] := ⟨_, rfl⟩
                        rw [← hfq] at x0 x1 x2 x3 hgq
                        have HGQ : Hid (L[q]? = some fq) := hgq
                        have r0 : ∀ u : Under wr, u.x.cell? ⟨g5, q * 4, none⟩ = some (.string fq.name) := fun u => (u.h.cell l1).trans x0
                        have r1 : ∀ u : Under wr, u.x.cell? ⟨g5, q * 4 + 1, none⟩ = some (.int .i64 fq.v.k) := fun u => (u.h.cell l1).trans x1
                        have r2 : ∀ u : Under wr, u.x.cell? ⟨g5, q * 4 + 2, none⟩ = some (.int .i64 fq.v.n) := fun u => (u.h.cell l1).trans x2
                        have r3 : ∀ u : Under wr, u.x.cell? ⟨g5, q * 4 + 3, none⟩ = some (.string fq.v.t) := fun u => (u.h.cell l1).trans x3
                        have s0' : ∀ u : Under wr, u.x.cell? ⟨g8, p * 4, none⟩ = some (.string fp.name) := fun u => (u.h.cell l2).trans z0
                        have s1' : ∀ u : Under wr, u.x.cell? ⟨g8, p * 4 + 1, none⟩ = some (.int .i64 fp.v.k) := fun u => (u.h.cell l2).trans z1
                        have s2' : ∀ u : Under wr, u.x.cell? ⟨g8, p * 4 + 2, none⟩ = some (.int .i64 fp.v.n) := fun u => (u.h.cell l2).trans z2
                        have s3' : ∀ u : Under wr, u.x.cell? ⟨g8, p * 4 + 3, none⟩ = some (.string fp.v.t) := fun u => (u.h.cell l2).trans z3
                        have hnu : Nonempty (Under wr) := ⟨⟨wr, Below.refl _ _⟩⟩
                        clear RLq RSq x0 x1 x2 x3 z0 z1 z2 z3 hgq hfq
                        cases b
                        · have HNX : Hid (∀ bb : Bool, (bb = true ↔ fq = fp) → (bb = true ↔ ∃ j, j < q + 1 ∧ L[j]? = some fp)) := fun bb hbb => by
                            rw [hbb]
                            constructor
                            · intro e; exact ⟨q, by omega, by rw [HGQ.out, e]⟩
                            · rintro ⟨j, hj, e⟩
                              by_cases hjq : j = q
                              · subst hjq; rw [HGQ.out] at e; exact Option.some.inj e
                              · have := HIFF.out.2 ⟨j, by omega, e⟩; cases this
                          cases e1 : (fq.name.toList == fp.name.toList) <;> cases e2 : (fq.v.k == fp.v.k) <;> cases e3 : (fq.v.n == fp.v.n) <;> cases e4 : (fq.v.t.toList == fp.v.t.toList)
                          all_goals
                            have HEQ := fld_eq fq fp
                            rw [e1, e2, e3, e4] at HEQ
                            have HE : Hid (_ ↔ _) := HEQ
                            clear HEQ
                            go_wp2_with fail
                            refine wp_region_under (by kernel_rfl) (by kernel_rfl) ?_
                            repeat (go_big_quiet_step (fail))
                            refine wpQuiet_nil ?_
                            rintro _ ⟨u, rfl⟩
                            go_wp2_with fail
                            go_roundw
                            case rel => exact ⟨q + 1, _, by omega, by go_num, rfl, HNX.out _ HE.out, HBQ.out.trans (u.h.mono HBQ.out.size)⟩
                            case measure => simp [intOf]; omega
                        · have HNX : Hid (∃ j, j < q + 1 ∧ L[j]? = some fp) := by obtain ⟨j, hj, e⟩ := HIFF.out.1 rfl; exact ⟨j, by omega, e⟩
                          go_wp2_with fail
                          refine wp_region_under (by kernel_rfl) (by kernel_rfl) ?_
                          repeat (go_big_quiet_step (fail))
                          refine wpQuiet_nil ?_
                          rintro _ ⟨u, rfl⟩
                          go_wp2_with fail
                          go_roundw
                          case rel => exact ⟨q + 1, true, by omega, by go_num, rfl, ⟨fun _ => HNX.out, fun _ => rfl⟩, HBQ.out.trans (u.h.mono HBQ.out.size)⟩
                          case measure => simp [intOf]; omega
                      · have hbt : b = true := HIFF.out.2 (by
                          obtain ⟨j, hj, e⟩ := List.mem_iff_getElem.1 (HSU.out fp (by rw [HFP.out]; exact List.getElem_mem _))
                          exact ⟨j, by have := hLl.out; omega, by rw [List.getElem?_eq_getElem hj, e]⟩)
                        subst hbt
                        go_wp2_with fail
                        go_roundw
                        case rel => exact ⟨p + 1, by omega, by go_num, HBQ.out⟩
                        case measure => simp [intOf]; omega
                · go_wp2_with fail
                  go_ret
                  exact ⟨rfl, B9.out.trans (hbp.mono B9.out.size)⟩
          · have hmc2 : (mc == 0) = false := beq_eq_false_iff_ne.mpr hmc
            clear hmc
            go_wp2_with fail
            refine (HSp.out _ RF8.out).mono ?_
            rintro e w9 ⟨rfl, b9⟩
            have B9 := B8.out.trans (b9.mono B8.out.size)
            have hz9 := B9.size
            clear b9
            go_wp2_with fail
            go_ret
            exact ⟨rfl, B9.alloc hz9 _⟩
    · have HIS0 := fun W : World => implItems_some 0 pt l W hpts HOK.out HIT.out hle HT.out (by omega)
      have HIS : Hid (∀ W : World, Calls _ _ _ W _) := HIS0
      clear HIS0 hle
      go_wp2_with fail
      refine (HIS.out _).mono ?_
      rintro e w6 ⟨⟨g6, c6, rfl, hown6⟩, b6⟩
      have X6 := HX2.out.step b6
      have P6 : Hid (Below _ _ _) := HP4.out.trans (b6.mono HP4.out.size)
      have R6 : Hid (ReadV _ _ _) := R4.out.next b6
      have R66 : Hid (ReadV _ _ _) := ReadV.of_own hown6
      clear b6 a0 a1 a2 u0 u1 u2 HX2 R4 HP4 hown6
      go_wp2_with fail
      refine (sameValues_same g6 c6 g c l _ R66.out R6.out (by omega)).mono ?_
      rintro e w7 ⟨rfl, b7⟩
      have k0 := (X6.step b7).c0
      have HP5 : Hid (Below w.heap.size w w7) := P6.out.trans (b7.mono P6.out.size)
      have R5 : Hid (ReadV w7 g l) := R6.out.next b7
      clear b7 X6 P6 R6 R66
      go_upto_region 12 with fail
      generalize w7 = W5 at R5 HP5 ⊢
      clear k0
      have O0 := World.ownsRow_made (base := W5.heap.size) (size := 4) (e := 36) W5 #[] 0 (Nat.le_refl _) (by unfold maxLen; omega) rfl
      have HO0 : Hid (World.ownsRow _ _ _ _ _ _ _) := O0.alloc (.cells #[.string ⟨#[98]⟩, .string ⟨#[97]⟩, .string ⟨#[100]⟩, .string ⟨#[99]⟩] 9)
      have N0 : Hid (NamesAt ((W5.alloc (.cells #[] 36)).alloc (.cells #[.string ⟨#[98]⟩, .string ⟨#[97]⟩, .string ⟨#[100]⟩, .string ⟨#[99]⟩] 9)) (W5.heap.size + 1)) := by have := heap_alloc_new (W5.alloc (.cells #[] 36)) (.cells #[.string ⟨#[98]⟩, .string ⟨#[97]⟩, .string ⟨#[100]⟩, .string ⟨#[99]⟩] 9); rw [heap_size_alloc] at this; exact this
      have B0 : Hid (Below W5.heap.size W5 ((W5.alloc (.cells #[] 36)).alloc (.cells #[.string ⟨#[98]⟩, .string ⟨#[97]⟩, .string ⟨#[100]⟩, .string ⟨#[99]⟩] 9))) := ((Below.refl _ _).alloc (Nat.le_refl _) _).alloc (by simp) _
      clear O0
      go_wp2_with fail
      go_loopw [12, 14] (fun u i wr => ∃ k : Nat, k ≤ l.length ∧ i = .int .i64 k ∧ wr.ownsRow W5.heap.size 36 4 u k (flatF ((lflds l).take k)) ∧ (¬ u = .slice none 0 0) ∧ NamesAt wr (W5.heap.size + 1) ∧ Below W5.heap.size W5 wr) (fun _ i _ => l.length - (intOf i).toNat)
      case atStart => exact ⟨0, Nat.zero_le _, rfl, HO0.out, by simp, N0.out, B0.out⟩
      case round =>
        obtain ⟨k, hk, rfl, hown, hnn, hnam, hbel⟩ := hrel
        have hz := hbel.size
        have HO : Hid (World.ownsRow _ _ _ _ _ _ _) := hown
        have HN : Hid (NamesAt _ _) := hnam
        clear HO0 N0 B0
        by_cases hlt : k < l.length
        · have hk4 : k < nmL.length := by show k < 4; omega
          have R := R5.out.next hbel
          obtain ⟨x0, x1, x2⟩ := R.cells k hlt
          have hgl := R.lt
          have y0 := names_cell hnam k hk4
          have hyl := names_lt hnam
          have hk3 : (k : Int) < 4 := by omega
          have htk := lflds_take l k hr hlt hk4
          obtain ⟨nm, hnm⟩ : ∃ nm, nm = nmL[k] := ⟨_, rfl⟩
          rw [← hnm] at y0 htk
          have HTK : Hid (_ = _) := htk
          clear R htk hnm hown hnn hnam
          go_wp2_with fail
          go_region_law (refine step_appF rfl (.tmp 84) (.tmp 94) rfl W5.heap.size k _ (flatF ((lflds l).take k)) rfl (by first | exact HO.out | exact HO.out.alloc _) _ 1 1 (rowF ⟨nm, l[k]⟩) rfl rfl (by exact liesF_cells (f := ⟨nm, l[k]⟩) (heap_alloc_new _ _)) (rowF_one _) (by omega) (by omega) (by first | (simp; omega) | omega) ?_; intro v1 w1' o1 g1 n1)
          all_goals
            have hb1 : Below W5.heap.size W5 w1' := Below.grown (by (repeat (first | (with_reducible exact Below.refl _ _) | (with_reducible assumption) | (with_reducible apply below_drewN) | (with_reducible apply Below.drew) | ((with_reducible refine Below.setCell ?_ ?_ _); rotate_left; focus (first | (simp; done) | (simp; omega) | omega)) | ((with_reducible refine Below.alloc ?_ ?_ _); rotate_left; focus (first | (simp; done) | (simp; omega) | omega))))) g1 (by first | (simp; omega) | omega) (fun q hq => (HO.out.lt q hq).1)
            have HN1 : Hid (NamesAt w1' (W5.heap.size + 1)) := names_keep (by rw [NamesAt]; exact (heap_alloc_old _ _ (by exact names_lt HN.out)).trans HN.out) (by exact HO.out.alloc _) g1
            have H1 : Hid (w1'.ownsRow W5.heap.size 36 4 v1 (k + 1) (flatF ((lflds l).take (k + 1)))) := by rw [HTK.out, flatF_app]; exact o1
            have N1 : Hid (¬ v1 = .slice none 0 0) := fun h => absurd (n1.mp h).2 (by decide)
            clear o1 g1 n1
            go_wp2_with fail
            go_roundw
            case rel => exact ⟨k + 1, by omega, by go_num, H1.out, N1.out, HN1.out, hb1⟩
            case measure => simp [intOf]; omega
        · obtain rfl : k = l.length := by omega
          have hL := lflds_len l hr
          rw [show (lflds l).take l.length = lflds l from List.take_of_length_le (by omega)] at hown
          obtain ⟨g5, c5, rfl⟩ := owns_shape hown hnn
          have RF : ReadF wr g5 (lflds l) := ReadF.of_own (by rw [hL]; exact hown)
          have hLts := lflds_sizes l HT.out
          obtain ⟨L, hLe⟩ : ∃ L, L = lflds l := ⟨_, rfl⟩
          rw [← hLe] at RF hL hLts
          have HRF : Hid (ReadF _ _ _) := RF
          have HB5 : Hid (Below w.heap.size w wr) := HP5.out.trans (hbel.mono HP5.out.size)
          have HD0 := fun (W : World) (h : ReadF W g5 L) => implDoc_any g5 c5 L W h (by omega) hLts
          have HS0 := fun (W : World) (h : ReadF W g5 L) => specDoc_any g5 c5 L W h (by omega) hLts
          obtain ⟨M, hM⟩ : ∃ M, M = madeP L := ⟨_, rfl⟩
          rw [← hM] at HD0 HS0
          obtain ⟨⟨mk, mn, mx⟩, mc⟩ := M
          rw [hL] at HD0 HS0
          have HD : Hid (∀ W : World, ReadF W g5 L → Calls Try.prog 21 #[.slice (some ⟨g5, 0, none⟩) l.length c5] W fun e w' => e = .returned (.tuple #[.agg #[.int .i64 mk, .int .i64 mn, .string mx], .int .i64 mc]) ∧ Below W.heap.size W w') := HD0
          have HSp : Hid (∀ W : World, ReadF W g5 L → Calls Try.prog 22 #[.slice (some ⟨g5, 0, none⟩) l.length c5] W fun e w' => e = .returned (.tuple #[.agg #[.int .i64 mk, .int .i64 mn, .string mx], .int .i64 mc]) ∧ Below W.heap.size W w') := HS0
          have HMB : Hid (mc = 0 → ∃ s, (⟨mk, mn, mx⟩ : Val) = ⟨5, 0, txt (encFL s)⟩ ∧ okB ⟨mk, mn, mx⟩ = true ∧ fields mx = some s ∧ GoodF s ∧ s.length = L.length ∧ L.length ≤ 300 ∧ mx.size ≤ 300 ∧ ∀ f ∈ s, f ∈ L) := fun h0 => by subst h0; exact madeP_back L ⟨mk, mn, mx⟩ hM.symm
          have hLl : Hid (L.length = l.length) := hL
          have HLts : Hid _ := hLts
          clear HD0 HS0 hM hown hnn hnam HO HN hbel RF hLe hL hLts
          go_wp2_with fail
          refine (HD.out _ HRF.out).mono ?_
          rintro e w6 ⟨rfl, b6⟩
          have X6 := Boxed.start w6 (.int .i64 mk) (.int .i64 mn) (.string mx) 27
          have RF6 : Hid (ReadF _ _ _) := (HRF.out.next b6).next X6.bel
          have B6 : Hid (Below w.heap.size w w6) := HB5.out.trans (b6.mono HB5.out.size)
          clear b6 HRF HB5
          go_wp2_with fail
          refine (HD.out _ RF6.out).mono ?_
          rintro e w7 ⟨rfl, b7⟩
          have X7 := X6.step b7
          have Z7 := Boxed.start w7 (.int .i64 mk) (.int .i64 mn) (.string mx) 27
          have X8 := X7.step Z7.bel
          have RF8 : Hid (ReadF _ _ _) := (RF6.out.next b7).next Z7.bel
          have B8 : Hid (Below w.heap.size w _) := B6.out.trans (X8.bel.mono B6.out.size)
          have a0 := X8.c0
          have a1 := X8.c1
          have a2 := X8.c2
          have u0 := Z7.c0
          have u1 := Z7.c1
          have u2 := Z7.c2
          have HX8 : Hid (Boxed _ _ _ _ _) := X8
          clear b7 X6 X7 RF6 X8 Z7
          by_cases hmc : mc = 0
          · obtain ⟨s, hv, hvok, hvf, hgood, hsl, hL3, hms, hsub⟩ := HMB.out hmc
            have hmk : mk = 5 := congrArg Val.k hv
            have hmn : mn = 0 := congrArg Val.n hv
            have HOK : Hid (okB ⟨5, 0, mx⟩ = true) := by rw [← hmk, ← hmn]; exact hvok
            have HFI : Hid (fields mx = some s) := hvf
            have HGO : Hid (GoodF s) := hgood
            have HSU : Hid _ := hsub
            have hsl' : s.length = l.length := by rw [hsl]; exact hLl.out
            have HSL : Hid _ := hsl'
            have hmx : mx.size ≤ 1048576 := by omega
            subst hmk hmn hmc
            clear hv hvok hvf hgood hsub hsl hL3 hms HMB
            by_cases hs0 : s = []
            · subst hs0
              have hl0 : l.length = 0 := by rw [← HSL.out]; rfl
              have hl0' : l = [] := List.length_eq_zero_iff.1 hl0
              subst hl0'
              have HFI0 : Hid (fields mx = some []) := HFI.out
              go_wp2_with fail
              refine (implFields_none 0 mx _ hmx HOK.out HFI0.out).mono ?_
              rintro e w9 ⟨rfl, b9⟩
              have k0 := (HX8.out.step b9).c0
              have B9 := B8.out.trans (b9.mono B8.out.size)
              clear b9
              go_wp2_with fail
              refine wp_loop_rounds 1 ?_
              rw [rounds_succ]
              go_wp2_with fail
              go_ret
              exact ⟨rfl, B9⟩
            · have hsts : ∀ f ∈ s, f.name.size ≤ 1048576 ∧ f.v.t.size ≤ 1048576 := fun f hf => HLts.out f (HSU.out f hf)
              have HIF0 := fun W : World => implFields_some 0 mx s W hmx HOK.out HFI.out hs0 hsts (by omega)
              rw [hsl'] at HIF0
              have HIF : Hid (∀ W : World, Calls _ _ _ W _) := HIF0
              clear HIF0 hsts hsl'
              go_wp2_with fail
              refine (HIF.out _).mono ?_
              rintro e w9 ⟨⟨g8, c8, rfl, hown8⟩, b9⟩
              have k0 := (HX8.out.step b9).c0
              have B9 : Hid (Below _ _ _) := B8.out.trans (b9.mono B8.out.size)
              have RS : Hid (ReadF w9 g8 s) := ReadF.of_own (by rw [HSL.out]; exact hown8)
              have RL : Hid (ReadF w9 g5 L) := RF8.out.next b9
              clear b9 hown8 HX8 RF8 B8 a0 a1 a2 u0 u1 u2
              go_wp2_with fail
              go_loopw [23] (fun i wr => ∃ p : Nat, p ≤ l.length ∧ i = .int .i64 p ∧ Below w9.heap.size w9 wr) (fun i _ => l.length - (intOf i).toNat)
              case atStart => exact ⟨0, Nat.zero_le _, rfl, Below.refl _ _⟩
              case round =>
                obtain ⟨p, hp, rfl, hbp⟩ := hrel
                by_cases hpl : p < l.length
                · have hps : p < s.length := by rw [HSL.out]; exact hpl
                  have hpl2 : (p : Int) < (l.length : Int) := by omega
                  have RSp := RS.out.next hbp
                  have z0 := (RSp.cells p hps).1
                  have l2 := RSp.lt
                  obtain ⟨fp, hfp⟩ : ∃ fp, fp = s[p] := ⟨_, rfl⟩
                  rw [← hfp] at z0
                  have HFP : Hid (fp = s[p]) := hfp
                  have v0 : ∀ u : Under wr, u.x.cell? ⟨g8, p * 4, none⟩ = some (.string fp.name) := fun u => (u.h.cell l2).trans z0
                  have hnu : Nonempty (Under wr) := ⟨⟨wr, Below.refl _ _⟩⟩
                  by_cases hp0 : p = 0
                  · have hd : decide (0 < p) = false := decide_eq_false (by omega)
                    have v1 : True := trivial
                    clear RSp z0 hfp hp0
                    go_wp2_with fail
                    refine wp_region_under (by kernel_rfl) (by kernel_rfl) ?_
                    repeat (go_big_quiet_step (fail))
                    refine wpQuiet_nil ?_
                    rintro _ ⟨u, rfl⟩
                    have HBU : Hid (Below w9.heap.size w9 u.x) := hbp.trans (u.h.mono hbp.size)
                    clear v0 v1 hbp hd
                    go_wp2_with fail
                    go_loopw [24, 25] (fun fo i wq => ∃ (q : Nat) (b : Bool), q ≤ l.length ∧ i = .int .i64 q ∧ fo = .bool b ∧ (b = true ↔ ∃ j, j < q ∧ L[j]? = some fp) ∧ Below w9.heap.size w9 wq) (fun _ i _ => l.length - (intOf i).toNat)
                    case atStart => exact ⟨0, false, Nat.zero_le _, rfl, rfl, ⟨(fun h => by cases h), (fun ⟨j, h, _⟩ => by omega)⟩, HBU.out⟩
                    case round =>
                      obtain ⟨q, b, hq, rfl, rfl, hiff, hbq⟩ := hrel
                      have HIFF : Hid (_ ↔ _) := hiff
                      have HBQ : Hid (Below _ _ _) := hbq
                      clear hiff HBU
                      by_cases hql : q < l.length
                      · have hqL : q < L.length := by rw [hLl.out]; exact hql
                        have hql2 : (q : Int) < (l.length : Int) := by omega
                        have RLq := RL.out.next hbq
                        have RSq := RS.out.next hbq
                        obtain ⟨x0, x1, x2, x3⟩ := RLq.cells q hqL
                        have l1 := RLq.lt
                        have l2 := RSq.lt
                        obtain ⟨z0, z1, z2, z3⟩ := RSq.cells p hps
                        rw [← HFP.out] at z0 z1 z2 z3
                        have hgq : L[q]? = some L[q] := List.getElem?_eq_getElem hqL
                        obtain ⟨fq, hfq⟩ : ∃ fq, fq = L[q] := ⟨_, rfl⟩
                        rw [← hfq] at x0 x1 x2 x3 hgq
                        have HGQ : Hid (L[q]? = some fq) := hgq
                        have r0 : ∀ u : Under wr, u.x.cell? ⟨g5, q * 4, none⟩ = some (.string fq.name) := fun u => (u.h.cell l1).trans x0
                        have r1 : ∀ u : Under wr, u.x.cell? ⟨g5, q * 4 + 1, none⟩ = some (.int .i64 fq.v.k) := fun u => (u.h.cell l1).trans x1
                        have r2 : ∀ u : Under wr, u.x.cell? ⟨g5, q * 4 + 2, none⟩ = some (.int .i64 fq.v.n) := fun u => (u.h.cell l1).trans x2
                        have r3 : ∀ u : Under wr, u.x.cell? ⟨g5, q * 4 + 3, none⟩ = some (.string fq.v.t) := fun u => (u.h.cell l1).trans x3
                        have s0' : ∀ u : Under wr, u.x.cell? ⟨g8, p * 4, none⟩ = some (.string fp.name) := fun u => (u.h.cell l2).trans z0
                        have s1' : ∀ u : Under wr, u.x.cell? ⟨g8, p * 4 + 1, none⟩ = some (.int .i64 fp.v.k) := fun u => (u.h.cell l2).trans z1
                        have s2' : ∀ u : Under wr, u.x.cell? ⟨g8, p * 4 + 2, none⟩ = some (.int .i64 fp.v.n) := fun u => (u.h.cell l2).trans z2
                        have s3' : ∀ u : Under wr, u.x.cell? ⟨g8, p * 4 + 3, none⟩ = some (.string fp.v.t) := fun u => (u.h.cell l2).trans z3
                        have hnu : Nonempty (Under wr) := ⟨⟨wr, Below.refl _ _⟩⟩
                        clear RLq RSq x0 x1 x2 x3 z0 z1 z2 z3 hgq hfq
                        cases b
                        · have HNX : Hid (∀ bb : Bool, (bb = true ↔ fq = fp) → (bb = true ↔ ∃ j, j < q + 1 ∧ L[j]? = some fp)) := fun bb hbb => by
                            rw [hbb]
                            constructor
                            · intro e; exact ⟨q, by omega, by rw [HGQ.out, e]⟩
                            · rintro ⟨j, hj, e⟩
                              by_cases hjq : j = q
                              · subst hjq; rw [HGQ.out] at e; exact Option.some.inj e
                              · have := HIFF.out.2 ⟨j, by omega, e⟩; cases this
                          cases e1 : (fq.name.toList == fp.name.toList) <;> cases e2 : (fq.v.k == fp.v.k) <;> cases e3 : (fq.v.n == fp.v.n) <;> cases e4 : (fq.v.t.toList == fp.v.t.toList)
                          all_goals
                            have HEQ := fld_eq fq fp
                            rw [e1, e2, e3, e4] at HEQ
                            have HE : Hid (_ ↔ _) := HEQ
                            clear HEQ
                            go_wp2_with fail
                            refine wp_region_under (by kernel_rfl) (by kernel_rfl) ?_
                            repeat (go_big_quiet_step (fail))
                            refine wpQuiet_nil ?_
                            rintro _ ⟨u, rfl⟩
                            go_wp2_with fail
                            go_roundw
                            case rel => exact ⟨q + 1, _, by omega, by go_num, rfl, HNX.out _ HE.out, HBQ.out.trans (u.h.mono HBQ.out.size)⟩
                            case measure => simp [intOf]; omega
                        · have HNX : Hid (∃ j, j < q + 1 ∧ L[j]? = some fp) := by obtain ⟨j, hj, e⟩ := HIFF.out.1 rfl; exact ⟨j, by omega, e⟩
                          go_wp2_with fail
                          refine wp_region_under (by kernel_rfl) (by kernel_rfl) ?_
                          repeat (go_big_quiet_step (fail))
                          refine wpQuiet_nil ?_
                          rintro _ ⟨u, rfl⟩
                          go_wp2_with fail
                          go_roundw
                          case rel => exact ⟨q + 1, true, by omega, by go_num, rfl, ⟨fun _ => HNX.out, fun _ => rfl⟩, HBQ.out.trans (u.h.mono HBQ.out.size)⟩
                          case measure => simp [intOf]; omega
                      · have hbt : b = true := HIFF.out.2 (by
                          obtain ⟨j, hj, e⟩ := List.mem_iff_getElem.1 (HSU.out fp (by rw [HFP.out]; exact List.getElem_mem _))
                          exact ⟨j, by have := hLl.out; omega, by rw [List.getElem?_eq_getElem hj, e]⟩)
                        subst hbt
                        go_wp2_with fail
                        go_roundw
                        case rel => exact ⟨p + 1, by omega, by go_num, HBQ.out⟩
                        case measure => simp [intOf]; omega
                  · have hd : decide (0 < p) = true := decide_eq_true (by omega)
                    have hlt1 : p - 1 < s.length := by omega
                    have z1 := (RSp.cells (p - 1) hlt1).1
                    have hris := HGO.out.rise (p - 1) p hlt1 hps (by omega)
                    rw [← hfp] at hris
                    have hbl : Op.bytesLess s[p - 1].name.toList fp.name.toList = true := hris
                    obtain ⟨fo, hfo⟩ : ∃ fo, fo = s[p - 1] := ⟨_, rfl⟩
                    rw [← hfo] at z1 hbl
                    have v1 : ∀ u : Under wr, u.x.cell? ⟨g8, (p - 1) * 4, none⟩ = some (.string fo.name) := fun u => (u.h.cell l2).trans z1
                    have hpi : (p : Int) - 1 = ((p - 1 : Nat) : Int) := by omega
                    have hp1 : ((p - 1 : Nat) : Int) < (l.length : Int) := by omega
                    clear RSp z0 z1 hfp hfo hris hp0
                    go_wp2_with fail
                    refine wp_region_under (by kernel_rfl) (by kernel_rfl) ?_
                    repeat (go_big_quiet_step (fail))
                    refine wpQuiet_nil ?_
                    rintro _ ⟨u, rfl⟩
                    have HBU : Hid (Below w9.heap.size w9 u.x) := hbp.trans (u.h.mono hbp.size)
                    clear v0 v1 hbp hd hpi hp1 hbl
                    go_wp2_with fail
                    go_loopw [24, 25] (fun fo i wq => ∃ (q : Nat) (b : Bool), q ≤ l.length ∧ i = .int .i64 q ∧ fo = .bool b ∧ (b = true ↔ ∃ j, j < q ∧ L[j]? = some fp) ∧ Below w9.heap.size w9 wq) (fun _ i _ => l.length - (intOf i).toNat)
                    case atStart => exact ⟨0, false, Nat.zero_le _, rfl, rfl, ⟨(fun h => by cases h), (fun ⟨j, h, _⟩ => by omega)⟩, HBU.out⟩
                    case round =>
                      obtain ⟨q, b, hq, rfl, rfl, hiff, hbq⟩ := hrel
                      have HIFF : Hid (_ ↔ _) := hiff
                      have HBQ : Hid (Below _ _ _) := hbq
                      clear hiff HBU
                      by_cases hql : q < l.length
                      · have hqL : q < L.length := by rw [hLl.out]; exact hql
                        have hql2 : (q : Int) < (l.length : Int) := by omega
                        have RLq := RL.out.next hbq
                        have RSq := RS.out.next hbq
                        obtain ⟨x0, x1, x2, x3⟩ := RLq.cells q hqL
                        have l1 := RLq.lt
                        have l2 := RSq.lt
                        obtain ⟨z0, z1, z2, z3⟩ := RSq.cells p hps
                        rw [← HFP.out] at z0 z1 z2 z3
                        have hgq : L[q]? = some L[q] := List.getElem?_eq_getElem hqL
                        obtain ⟨fq, hfq⟩ : ∃ fq, fq = L[q] := ⟨_, rfl⟩
                        rw [← hfq] at x0 x1 x2 x3 hgq
                        have HGQ : Hid (L[q]? = some fq) := hgq
                        have r0 : ∀ u : Under wr, u.x.cell? ⟨g5, q * 4, none⟩ = some (.string fq.name) := fun u => (u.h.cell l1).trans x0
                        have r1 : ∀ u : Under wr, u.x.cell? ⟨g5, q * 4 + 1, none⟩ = some (.int .i64 fq.v.k) := fun u => (u.h.cell l1).trans x1
                        have r2 : ∀ u : Under wr, u.x.cell? ⟨g5, q * 4 + 2, none⟩ = some (.int .i64 fq.v.n) := fun u => (u.h.cell l1).trans x2
                        have r3 : ∀ u : Under wr, u.x.cell? ⟨g5, q * 4 + 3, none⟩ = some (.string fq.v.t) := fun u => (u.h.cell l1).trans x3
                        have s0' : ∀ u : Under wr, u.x.cell? ⟨g8, p * 4, none⟩ = some (.string fp.name) := fun u => (u.h.cell l2).trans z0
                        have s1' : ∀ u : Under wr, u.x.cell? ⟨g8, p * 4 + 1, none⟩ = some (.int .i64 fp.v.k) := fun u => (u.h.cell l2).trans z1
                        have s2' : ∀ u : Under wr, u.x.cell? ⟨g8, p * 4 + 2, none⟩ = some (.int .i64 fp.v.n) := fun u => (u.h.cell l2).trans z2
                        have s3' : ∀ u : Under wr, u.x.cell? ⟨g8, p * 4 + 3, none⟩ = some (.string fp.v.t) := fun u => (u.h.cell l2).trans z3
                        have hnu : Nonempty (Under wr) := ⟨⟨wr, Below.refl _ _⟩⟩
                        clear RLq RSq x0 x1 x2 x3 z0 z1 z2 z3 hgq hfq
                        cases b
                        · have HNX : Hid (∀ bb : Bool, (bb = true ↔ fq = fp) → (bb = true ↔ ∃ j, j < q + 1 ∧ L[j]? = some fp)) := fun bb hbb => by
                            rw [hbb]
                            constructor
                            · intro e; exact ⟨q, by omega, by rw [HGQ.out, e]⟩
                            · rintro ⟨j, hj, e⟩
                              by_cases hjq : j = q
                              · subst hjq; rw [HGQ.out] at e; exact Option.some.inj e
                              · have := HIFF.out.2 ⟨j, by omega, e⟩; cases this
                          cases e1 : (fq.name.toList == fp.name.toList) <;> cases e2 : (fq.v.k == fp.v.k) <;> cases e3 : (fq.v.n == fp.v.n) <;> cases e4 : (fq.v.t.toList == fp.v.t.toList)
                          all_goals
                            have HEQ := fld_eq fq fp
                            rw [e1, e2, e3, e4] at HEQ
                            have HE : Hid (_ ↔ _) := HEQ
                            clear HEQ
                            go_wp2_with fail
                            refine wp_region_under (by kernel_rfl) (by kernel_rfl) ?_
                            repeat (go_big_quiet_step (fail))
                            refine wpQuiet_nil ?_
                            rintro _ ⟨u, rfl⟩
                            go_wp2_with fail
                            go_roundw
                            case rel => exact ⟨q + 1, _, by omega, by go_num, rfl, HNX.out _ HE.out, HBQ.out.trans (u.h.mono HBQ.out.size)⟩
                            case measure => simp [intOf]; omega
                        · have HNX : Hid (∃ j, j < q + 1 ∧ L[j]? = some fp) := by obtain ⟨j, hj, e⟩ := HIFF.out.1 rfl; exact ⟨j, by omega, e⟩
                          go_wp2_with fail
                          refine wp_region_under (by kernel_rfl) (by kernel_rfl) ?_
                          repeat (go_big_quiet_step (fail))
                          refine wpQuiet_nil ?_
                          rintro _ ⟨u, rfl⟩
                          go_wp2_with fail
                          go_roundw
                          case rel => exact ⟨q + 1, true, by omega, by go_num, rfl, ⟨fun _ => HNX.out, fun _ => rfl⟩, HBQ.out.trans (u.h.mono HBQ.out.size)⟩
                          case measure => simp [intOf]; omega
                      · have hbt : b = true := HIFF.out.2 (by
                          obtain ⟨j, hj, e⟩ := List.mem_iff_getElem.1 (HSU.out fp (by rw [HFP.out]; exact List.getElem_mem _))
                          exact ⟨j, by have := hLl.out; omega, by rw [List.getElem?_eq_getElem hj, e]⟩)
                        subst hbt
                        go_wp2_with fail
                        go_roundw
                        case rel => exact ⟨p + 1, by omega, by go_num, HBQ.out⟩
                        case measure => simp [intOf]; omega
                · go_wp2_with fail
                  go_ret
                  exact ⟨rfl, B9.out.trans (hbp.mono B9.out.size)⟩
          · have hmc2 : (mc == 0) = false := beq_eq_false_iff_ne.mpr hmc
            clear hmc
            go_wp2_with fail
            refine (HSp.out _ RF8.out).mono ?_
            rintro e w9 ⟨rfl, b9⟩
            have B9 := B8.out.trans (b9.mono B8.out.size)
            have hz9 := B9.size
            clear b9
            go_wp2_with fail
            go_ret
            exact ⟨rfl, B9.alloc hz9 _⟩
  · have hpc2 : (pc == 0) = false := beq_eq_false_iff_ne.mpr hpc
    have P5 := P3.out.trans (HX2.out.bel.mono P3.out.size)
    have HP4 : Hid (Below _ _ _) := P5
    have u0 := Y0.c0
    have u1 := Y0.c1
    have u2 := Y0.c2
    clear P5 HX2 Y0
    go_upto_region 12 with fail
    generalize w4.alloc (.cells #[.int .i64 pk, .int .i64 pn, .string pt] 27) = W5 at R4 HP4 ⊢
    have R5 : Hid (ReadV W5 g l) := R4.out
    have HP5 : Hid (Below w.heap.size w W5) := HP4.out
    clear R4 HP4 a0 a1 a2 u0 u1 u2
    have O0 := World.ownsRow_made (base := W5.heap.size) (size := 4) (e := 36) W5 #[] 0 (Nat.le_refl _) (by unfold maxLen; omega) rfl
    have HO0 : Hid (World.ownsRow _ _ _ _ _ _ _) := O0.alloc (.cells #[.string ⟨#[98]⟩, .string ⟨#[97]⟩, .string ⟨#[100]⟩, .string ⟨#[99]⟩] 9)
    have N0 : Hid (NamesAt ((W5.alloc (.cells #[] 36)).alloc (.cells #[.string ⟨#[98]⟩, .string ⟨#[97]⟩, .string ⟨#[100]⟩, .string ⟨#[99]⟩] 9)) (W5.heap.size + 1)) := by have := heap_alloc_new (W5.alloc (.cells #[] 36)) (.cells #[.string ⟨#[98]⟩, .string ⟨#[97]⟩, .string ⟨#[100]⟩, .string ⟨#[99]⟩] 9); rw [heap_size_alloc] at this; exact this
    have B0 : Hid (Below W5.heap.size W5 ((W5.alloc (.cells #[] 36)).alloc (.cells #[.string ⟨#[98]⟩, .string ⟨#[97]⟩, .string ⟨#[100]⟩, .string ⟨#[99]⟩] 9))) := ((Below.refl _ _).alloc (Nat.le_refl _) _).alloc (by simp) _
    clear O0
    go_wp2_with fail
    go_loopw [12, 14] (fun u i wr => ∃ k : Nat, k ≤ l.length ∧ i = .int .i64 k ∧ wr.ownsRow W5.heap.size 36 4 u k (flatF ((lflds l).take k)) ∧ (¬ u = .slice none 0 0) ∧ NamesAt wr (W5.heap.size + 1) ∧ Below W5.heap.size W5 wr) (fun _ i _ => l.length - (intOf i).toNat)
    case atStart => exact ⟨0, Nat.zero_le _, rfl, HO0.out, by simp, N0.out, B0.out⟩
    case round =>
      obtain ⟨k, hk, rfl, hown, hnn, hnam, hbel⟩ := hrel
      have hz := hbel.size
      have HO : Hid (World.ownsRow _ _ _ _ _ _ _) := hown
      have HN : Hid (NamesAt _ _) := hnam
      clear HO0 N0 B0
      by_cases hlt : k < l.length
      · have hk4 : k < nmL.length := by show k < 4; omega
        have R := R5.out.next hbel
        obtain ⟨x0, x1, x2⟩ := R.cells k hlt
        have hgl := R.lt
        have y0 := names_cell hnam k hk4
        have hyl := names_lt hnam
        have hk3 : (k : Int) < 4 := by omega
        have htk := lflds_take l k hr hlt hk4
        obtain ⟨nm, hnm⟩ : ∃ nm, nm = nmL[k] := ⟨_, rfl⟩
        rw [← hnm] at y0 htk
        have HTK : Hid (_ = _) := htk
        clear R htk hnm hown hnn hnam
        go_wp2_with fail
        go_region_law (refine step_appF rfl (.tmp 84) (.tmp 94) rfl W5.heap.size k _ (flatF ((lflds l).take k)) rfl (by first | exact HO.out | exact HO.out.alloc _) _ 1 1 (rowF ⟨nm, l[k]⟩) rfl rfl (by exact liesF_cells (f := ⟨nm, l[k]⟩) (heap_alloc_new _ _)) (rowF_one _) (by omega) (by omega) (by first | (simp; omega) | omega) ?_; intro v1 w1' o1 g1 n1)
        all_goals
          have hb1 : Below W5.heap.size W5 w1' := Below.grown (by (repeat (first | (with_reducible exact Below.refl _ _) | (with_reducible assumption) | (with_reducible apply below_drewN) | (with_reducible apply Below.drew) | ((with_reducible refine Below.setCell ?_ ?_ _); rotate_left; focus (first | (simp; done) | (simp; omega) | omega)) | ((with_reducible refine Below.alloc ?_ ?_ _); rotate_left; focus (first | (simp; done) | (simp; omega) | omega))))) g1 (by first | (simp; omega) | omega) (fun q hq => (HO.out.lt q hq).1)
          have HN1 : Hid (NamesAt w1' (W5.heap.size + 1)) := names_keep (by rw [NamesAt]; exact (heap_alloc_old _ _ (by exact names_lt HN.out)).trans HN.out) (by exact HO.out.alloc _) g1
          have H1 : Hid (w1'.ownsRow W5.heap.size 36 4 v1 (k + 1) (flatF ((lflds l).take (k + 1)))) := by rw [HTK.out, flatF_app]; exact o1
          have N1 : Hid (¬ v1 = .slice none 0 0) := fun h => absurd (n1.mp h).2 (by decide)
          clear o1 g1 n1
          go_wp2_with fail
          go_roundw
          case rel => exact ⟨k + 1, by omega, by go_num, H1.out, N1.out, HN1.out, hb1⟩
          case measure => simp [intOf]; omega
      · obtain rfl : k = l.length := by omega
        have hL := lflds_len l hr
        rw [show (lflds l).take l.length = lflds l from List.take_of_length_le (by omega)] at hown
        obtain ⟨g5, c5, rfl⟩ := owns_shape hown hnn
        have RF : ReadF wr g5 (lflds l) := ReadF.of_own (by rw [hL]; exact hown)
        have hLts := lflds_sizes l HT.out
        obtain ⟨L, hLe⟩ : ∃ L, L = lflds l := ⟨_, rfl⟩
        rw [← hLe] at RF hL hLts
        have HRF : Hid (ReadF _ _ _) := RF
        have HB5 : Hid (Below w.heap.size w wr) := HP5.out.trans (hbel.mono HP5.out.size)
        have HD0 := fun (W : World) (h : ReadF W g5 L) => implDoc_any g5 c5 L W h (by omega) hLts
        have HS0 := fun (W : World) (h : ReadF W g5 L) => specDoc_any g5 c5 L W h (by omega) hLts
        obtain ⟨M, hM⟩ : ∃ M, M = madeP L := ⟨_, rfl⟩
        rw [← hM] at HD0 HS0
        obtain ⟨⟨mk, mn, mx⟩, mc⟩ := M
        rw [hL] at HD0 HS0
        have HD : Hid (∀ W : World, ReadF W g5 L → Calls Try.prog 21 #[.slice (some ⟨g5, 0, none⟩) l.length c5] W fun e w' => e = .returned (.tuple #[.agg #[.int .i64 mk, .int .i64 mn, .string mx], .int .i64 mc]) ∧ Below W.heap.size W w') := HD0
        have HSp : Hid (∀ W : World, ReadF W g5 L → Calls Try.prog 22 #[.slice (some ⟨g5, 0, none⟩) l.length c5] W fun e w' => e = .returned (.tuple #[.agg #[.int .i64 mk, .int .i64 mn, .string mx], .int .i64 mc]) ∧ Below W.heap.size W w') := HS0
        have HMB : Hid (mc = 0 → ∃ s, (⟨mk, mn, mx⟩ : Val) = ⟨5, 0, txt (encFL s)⟩ ∧ okB ⟨mk, mn, mx⟩ = true ∧ fields mx = some s ∧ GoodF s ∧ s.length = L.length ∧ L.length ≤ 300 ∧ mx.size ≤ 300 ∧ ∀ f ∈ s, f ∈ L) := fun h0 => by subst h0; exact madeP_back L ⟨mk, mn, mx⟩ hM.symm
        have hLl : Hid (L.length = l.length) := hL
        have HLts : Hid _ := hLts
        clear HD0 HS0 hM hown hnn hnam HO HN hbel RF hLe hL hLts
        go_wp2_with fail
        refine (HD.out _ HRF.out).mono ?_
        rintro e w6 ⟨rfl, b6⟩
        have X6 := Boxed.start w6 (.int .i64 mk) (.int .i64 mn) (.string mx) 27
        have RF6 : Hid (ReadF _ _ _) := (HRF.out.next b6).next X6.bel
        have B6 : Hid (Below w.heap.size w w6) := HB5.out.trans (b6.mono HB5.out.size)
        clear b6 HRF HB5
        go_wp2_with fail
        refine (HD.out _ RF6.out).mono ?_
        rintro e w7 ⟨rfl, b7⟩
        have X7 := X6.step b7
        have Z7 := Boxed.start w7 (.int .i64 mk) (.int .i64 mn) (.string mx) 27
        have X8 := X7.step Z7.bel
        have RF8 : Hid (ReadF _ _ _) := (RF6.out.next b7).next Z7.bel
        have B8 : Hid (Below w.heap.size w _) := B6.out.trans (X8.bel.mono B6.out.size)
        have a0 := X8.c0
        have a1 := X8.c1
        have a2 := X8.c2
        have u0 := Z7.c0
        have u1 := Z7.c1
        have u2 := Z7.c2
        have HX8 : Hid (Boxed _ _ _ _ _) := X8
        clear b7 X6 X7 RF6 X8 Z7
        by_cases hmc : mc = 0
        · obtain ⟨s, hv, hvok, hvf, hgood, hsl, hL3, hms, hsub⟩ := HMB.out hmc
          have hmk : mk = 5 := congrArg Val.k hv
          have hmn : mn = 0 := congrArg Val.n hv
          have HOK : Hid (okB ⟨5, 0, mx⟩ = true) := by rw [← hmk, ← hmn]; exact hvok
          have HFI : Hid (fields mx = some s) := hvf
          have HGO : Hid (GoodF s) := hgood
          have HSU : Hid _ := hsub
          have hsl' : s.length = l.length := by rw [hsl]; exact hLl.out
          have HSL : Hid _ := hsl'
          have hmx : mx.size ≤ 1048576 := by omega
          subst hmk hmn hmc
          clear hv hvok hvf hgood hsub hsl hL3 hms HMB
          by_cases hs0 : s = []
          · subst hs0
            have hl0 : l.length = 0 := by rw [← HSL.out]; rfl
            have hl0' : l = [] := List.length_eq_zero_iff.1 hl0
            subst hl0'
            have HFI0 : Hid (fields mx = some []) := HFI.out
            go_wp2_with fail
            refine (implFields_none 0 mx _ hmx HOK.out HFI0.out).mono ?_
            rintro e w9 ⟨rfl, b9⟩
            have k0 := (HX8.out.step b9).c0
            have B9 := B8.out.trans (b9.mono B8.out.size)
            clear b9
            go_wp2_with fail
            refine wp_loop_rounds 1 ?_
            rw [rounds_succ]
            go_wp2_with fail
            go_ret
            exact ⟨rfl, B9⟩
          · have hsts : ∀ f ∈ s, f.name.size ≤ 1048576 ∧ f.v.t.size ≤ 1048576 := fun f hf => HLts.out f (HSU.out f hf)
            have HIF0 := fun W : World => implFields_some 0 mx s W hmx HOK.out HFI.out hs0 hsts (by omega)
            rw [hsl'] at HIF0
            have HIF : Hid (∀ W : World, Calls _ _ _ W _) := HIF0
            clear HIF0 hsts hsl'
            go_wp2_with fail
            refine (HIF.out _).mono ?_
            rintro e w9 ⟨⟨g8, c8, rfl, hown8⟩, b9⟩
            have k0 := (HX8.out.step b9).c0
            have B9 : Hid (Below _ _ _) := B8.out.trans (b9.mono B8.out.size)
            have RS : Hid (ReadF w9 g8 s) := ReadF.of_own (by rw [HSL.out]; exact hown8)
            have RL : Hid (ReadF w9 g5 L) := RF8.out.next b9
            clear b9 hown8 HX8 RF8 B8 a0 a1 a2 u0 u1 u2
            go_wp2_with fail
            go_loopw [23] (fun i wr => ∃ p : Nat, p ≤ l.length ∧ i = .int .i64 p ∧ Below w9.heap.size w9 wr) (fun i _ => l.length - (intOf i).toNat)
            case atStart => exact ⟨0, Nat.zero_le _, rfl, Below.refl _ _⟩
            case round =>
              obtain ⟨p, hp, rfl, hbp⟩ := hrel
              by_cases hpl : p < l.length
              · have hps : p < s.length := by rw [HSL.out]; exact hpl
                have hpl2 : (p : Int) < (l.length : Int) := by omega
                have RSp := RS.out.next hbp
                have z0 := (RSp.cells p hps).1
                have l2 := RSp.lt
                obtain ⟨fp, hfp⟩ : ∃ fp, fp = s[p] := ⟨_, rfl⟩
                rw [← hfp] at z0
                have HFP : Hid (fp = s[p]) := hfp
                have v0 : ∀ u : Under wr, u.x.cell? ⟨g8, p * 4, none⟩ = some (.string fp.name) := fun u => (u.h.cell l2).trans z0
                have hnu : Nonempty (Under wr) := ⟨⟨wr, Below.refl _ _⟩⟩
                by_cases hp0 : p = 0
                · have hd : decide (0 < p) = false := decide_eq_false (by omega)
                  have v1 : True := trivial
                  clear RSp z0 hfp hp0
                  go_wp2_with fail
                  refine wp_region_under (by kernel_rfl) (by kernel_rfl) ?_
                  repeat (go_big_quiet_step (fail))
                  refine wpQuiet_nil ?_
                  rintro _ ⟨u, rfl⟩
                  have HBU : Hid (Below w9.heap.size w9 u.x) := hbp.trans (u.h.mono hbp.size)
                  clear v0 v1 hbp hd
                  go_wp2_with fail
                  go_loopw [24, 25] (fun fo i wq => ∃ (q : Nat) (b : Bool), q ≤ l.length ∧ i = .int .i64 q ∧ fo = .bool b ∧ (b = true ↔ ∃ j, j < q ∧ L[j]? = some fp) ∧ Below w9.heap.size w9 wq) (fun _ i _ => l.length - (intOf i).toNat)
                  case atStart => exact ⟨0, false, Nat.zero_le _, rfl, rfl, ⟨(fun h => by cases h), (fun ⟨j, h, _⟩ => by omega)⟩, HBU.out⟩
                  case round =>
                    obtain ⟨q, b, hq, rfl, rfl, hiff, hbq⟩ := hrel
                    have HIFF : Hid (_ ↔ _) := hiff
                    have HBQ : Hid (Below _ _ _) := hbq
                    clear hiff HBU
                    by_cases hql : q < l.length
                    · have hqL : q < L.length := by rw [hLl.out]; exact hql
                      have hql2 : (q : Int) < (l.length : Int) := by omega
                      have RLq := RL.out.next hbq
                      have RSq := RS.out.next hbq
                      obtain ⟨x0, x1, x2, x3⟩ := RLq.cells q hqL
                      have l1 := RLq.lt
                      have l2 := RSq.lt
                      obtain ⟨z0, z1, z2, z3⟩ := RSq.cells p hps
                      rw [← HFP.out] at z0 z1 z2 z3
                      have hgq : L[q]? = some L[q] := List.getElem?_eq_getElem hqL
                      obtain ⟨fq, hfq⟩ : ∃ fq, fq = L[q] := ⟨_, rfl⟩
                      rw [← hfq] at x0 x1 x2 x3 hgq
                      have HGQ : Hid (L[q]? = some fq) := hgq
                      have r0 : ∀ u : Under wr, u.x.cell? ⟨g5, q * 4, none⟩ = some (.string fq.name) := fun u => (u.h.cell l1).trans x0
                      have r1 : ∀ u : Under wr, u.x.cell? ⟨g5, q * 4 + 1, none⟩ = some (.int .i64 fq.v.k) := fun u => (u.h.cell l1).trans x1
                      have r2 : ∀ u : Under wr, u.x.cell? ⟨g5, q * 4 + 2, none⟩ = some (.int .i64 fq.v.n) := fun u => (u.h.cell l1).trans x2
                      have r3 : ∀ u : Under wr, u.x.cell? ⟨g5, q * 4 + 3, none⟩ = some (.string fq.v.t) := fun u => (u.h.cell l1).trans x3
                      have s0' : ∀ u : Under wr, u.x.cell? ⟨g8, p * 4, none⟩ = some (.string fp.name) := fun u => (u.h.cell l2).trans z0
                      have s1' : ∀ u : Under wr, u.x.cell? ⟨g8, p * 4 + 1, none⟩ = some (.int .i64 fp.v.k) := fun u => (u.h.cell l2).trans z1
                      have s2' : ∀ u : Under wr, u.x.cell? ⟨g8, p * 4 + 2, none⟩ = some (.int .i64 fp.v.n) := fun u => (u.h.cell l2).trans z2
                      have s3' : ∀ u : Under wr, u.x.cell? ⟨g8, p * 4 + 3, none⟩ = some (.string fp.v.t) := fun u => (u.h.cell l2).trans z3
                      have hnu : Nonempty (Under wr) := ⟨⟨wr, Below.refl _ _⟩⟩
                      clear RLq RSq x0 x1 x2 x3 z0 z1 z2 z3 hgq hfq
                      cases b
                      · have HNX : Hid (∀ bb : Bool, (bb = true ↔ fq = fp) → (bb = true ↔ ∃ j, j < q + 1 ∧ L[j]? = some fp)) := fun bb hbb => by
                          rw [hbb]
                          constructor
                          · intro e; exact ⟨q, by omega, by rw [HGQ.out, e]⟩
                          · rintro ⟨j, hj, e⟩
                            by_cases hjq : j = q
                            · subst hjq; rw [HGQ.out] at e; exact Option.some.inj e
                            · have := HIFF.out.2 ⟨j, by omega, e⟩; cases this
                        cases e1 : (fq.name.toList == fp.name.toList) <;> cases e2 : (fq.v.k == fp.v.k) <;> cases e3 : (fq.v.n == fp.v.n) <;> cases e4 : (fq.v.t.toList == fp.v.t.toList)
                        all_goals
                          have HEQ := fld_eq fq fp
                          rw [e1, e2, e3, e4] at HEQ
                          have HE : Hid (_ ↔ _) := HEQ
                          clear HEQ
                          go_wp2_with fail
                          refine wp_region_under (by kernel_rfl) (by kernel_rfl) ?_
                          repeat (go_big_quiet_step (fail))
                          refine wpQuiet_nil ?_
                          rintro _ ⟨u, rfl⟩
                          go_wp2_with fail
                          go_roundw
                          case rel => exact ⟨q + 1, _, by omega, by go_num, rfl, HNX.out _ HE.out, HBQ.out.trans (u.h.mono HBQ.out.size)⟩
                          case measure => simp [intOf]; omega
                      · have HNX : Hid (∃ j, j < q + 1 ∧ L[j]? = some fp) := by obtain ⟨j, hj, e⟩ := HIFF.out.1 rfl; exact ⟨j, by omega, e⟩
                        go_wp2_with fail
                        refine wp_region_under (by kernel_rfl) (by kernel_rfl) ?_
                        repeat (go_big_quiet_step (fail))
                        refine wpQuiet_nil ?_
                        rintro _ ⟨u, rfl⟩
                        go_wp2_with fail
                        go_roundw
                        case rel => exact ⟨q + 1, true, by omega, by go_num, rfl, ⟨fun _ => HNX.out, fun _ => rfl⟩, HBQ.out.trans (u.h.mono HBQ.out.size)⟩
                        case measure => simp [intOf]; omega
                    · have hbt : b = true := HIFF.out.2 (by
                        obtain ⟨j, hj, e⟩ := List.mem_iff_getElem.1 (HSU.out fp (by rw [HFP.out]; exact List.getElem_mem _))
                        exact ⟨j, by have := hLl.out; omega, by rw [List.getElem?_eq_getElem hj, e]⟩)
                      subst hbt
                      go_wp2_with fail
                      go_roundw
                      case rel => exact ⟨p + 1, by omega, by go_num, HBQ.out⟩
                      case measure => simp [intOf]; omega
                · have hd : decide (0 < p) = true := decide_eq_true (by omega)
                  have hlt1 : p - 1 < s.length := by omega
                  have z1 := (RSp.cells (p - 1) hlt1).1
                  have hris := HGO.out.rise (p - 1) p hlt1 hps (by omega)
                  rw [← hfp] at hris
                  have hbl : Op.bytesLess s[p - 1].name.toList fp.name.toList = true := hris
                  obtain ⟨fo, hfo⟩ : ∃ fo, fo = s[p - 1] := ⟨_, rfl⟩
                  rw [← hfo] at z1 hbl
                  have v1 : ∀ u : Under wr, u.x.cell? ⟨g8, (p - 1) * 4, none⟩ = some (.string fo.name) := fun u => (u.h.cell l2).trans z1
                  have hpi : (p : Int) - 1 = ((p - 1 : Nat) : Int) := by omega
                  have hp1 : ((p - 1 : Nat) : Int) < (l.length : Int) := by omega
                  clear RSp z0 z1 hfp hfo hris hp0
                  go_wp2_with fail
                  refine wp_region_under (by kernel_rfl) (by kernel_rfl) ?_
                  repeat (go_big_quiet_step (fail))
                  refine wpQuiet_nil ?_
                  rintro _ ⟨u, rfl⟩
                  have HBU : Hid (Below w9.heap.size w9 u.x) := hbp.trans (u.h.mono hbp.size)
                  clear v0 v1 hbp hd hpi hp1 hbl
                  go_wp2_with fail
                  go_loopw [24, 25] (fun fo i wq => ∃ (q : Nat) (b : Bool), q ≤ l.length ∧ i = .int .i64 q ∧ fo = .bool b ∧ (b = true ↔ ∃ j, j < q ∧ L[j]? = some fp) ∧ Below w9.heap.size w9 wq) (fun _ i _ => l.length - (intOf i).toNat)
                  case atStart => exact ⟨0, false, Nat.zero_le _, rfl, rfl, ⟨(fun h => by cases h), (fun ⟨j, h, _⟩ => by omega)⟩, HBU.out⟩
                  case round =>
                    obtain ⟨q, b, hq, rfl, rfl, hiff, hbq⟩ := hrel
                    have HIFF : Hid (_ ↔ _) := hiff
                    have HBQ : Hid (Below _ _ _) := hbq
                    clear hiff HBU
                    by_cases hql : q < l.length
                    · have hqL : q < L.length := by rw [hLl.out]; exact hql
                      have hql2 : (q : Int) < (l.length : Int) := by omega
                      have RLq := RL.out.next hbq
                      have RSq := RS.out.next hbq
                      obtain ⟨x0, x1, x2, x3⟩ := RLq.cells q hqL
                      have l1 := RLq.lt
                      have l2 := RSq.lt
                      obtain ⟨z0, z1, z2, z3⟩ := RSq.cells p hps
                      rw [← HFP.out] at z0 z1 z2 z3
                      have hgq : L[q]? = some L[q] := List.getElem?_eq_getElem hqL
                      obtain ⟨fq, hfq⟩ : ∃ fq, fq = L[q] := ⟨_, rfl⟩
                      rw [← hfq] at x0 x1 x2 x3 hgq
                      have HGQ : Hid (L[q]? = some fq) := hgq
                      have r0 : ∀ u : Under wr, u.x.cell? ⟨g5, q * 4, none⟩ = some (.string fq.name) := fun u => (u.h.cell l1).trans x0
                      have r1 : ∀ u : Under wr, u.x.cell? ⟨g5, q * 4 + 1, none⟩ = some (.int .i64 fq.v.k) := fun u => (u.h.cell l1).trans x1
                      have r2 : ∀ u : Under wr, u.x.cell? ⟨g5, q * 4 + 2, none⟩ = some (.int .i64 fq.v.n) := fun u => (u.h.cell l1).trans x2
                      have r3 : ∀ u : Under wr, u.x.cell? ⟨g5, q * 4 + 3, none⟩ = some (.string fq.v.t) := fun u => (u.h.cell l1).trans x3
                      have s0' : ∀ u : Under wr, u.x.cell? ⟨g8, p * 4, none⟩ = some (.string fp.name) := fun u => (u.h.cell l2).trans z0
                      have s1' : ∀ u : Under wr, u.x.cell? ⟨g8, p * 4 + 1, none⟩ = some (.int .i64 fp.v.k) := fun u => (u.h.cell l2).trans z1
                      have s2' : ∀ u : Under wr, u.x.cell? ⟨g8, p * 4 + 2, none⟩ = some (.int .i64 fp.v.n) := fun u => (u.h.cell l2).trans z2
                      have s3' : ∀ u : Under wr, u.x.cell? ⟨g8, p * 4 + 3, none⟩ = some (.string fp.v.t) := fun u => (u.h.cell l2).trans z3
                      have hnu : Nonempty (Under wr) := ⟨⟨wr, Below.refl _ _⟩⟩
                      clear RLq RSq x0 x1 x2 x3 z0 z1 z2 z3 hgq hfq
                      cases b
                      · have HNX : Hid (∀ bb : Bool, (bb = true ↔ fq = fp) → (bb = true ↔ ∃ j, j < q + 1 ∧ L[j]? = some fp)) := fun bb hbb => by
                          rw [hbb]
                          constructor
                          · intro e; exact ⟨q, by omega, by rw [HGQ.out, e]⟩
                          · rintro ⟨j, hj, e⟩
                            by_cases hjq : j = q
                            · subst hjq; rw [HGQ.out] at e; exact Option.some.inj e
                            · have := HIFF.out.2 ⟨j, by omega, e⟩; cases this
                        cases e1 : (fq.name.toList == fp.name.toList) <;> cases e2 : (fq.v.k == fp.v.k) <;> cases e3 : (fq.v.n == fp.v.n) <;> cases e4 : (fq.v.t.toList == fp.v.t.toList)
                        all_goals
                          have HEQ := fld_eq fq fp
                          rw [e1, e2, e3, e4] at HEQ
                          have HE : Hid (_ ↔ _) := HEQ
                          clear HEQ
                          go_wp2_with fail
                          refine wp_region_under (by kernel_rfl) (by kernel_rfl) ?_
                          repeat (go_big_quiet_step (fail))
                          refine wpQuiet_nil ?_
                          rintro _ ⟨u, rfl⟩
                          go_wp2_with fail
                          go_roundw
                          case rel => exact ⟨q + 1, _, by omega, by go_num, rfl, HNX.out _ HE.out, HBQ.out.trans (u.h.mono HBQ.out.size)⟩
                          case measure => simp [intOf]; omega
                      · have HNX : Hid (∃ j, j < q + 1 ∧ L[j]? = some fp) := by obtain ⟨j, hj, e⟩ := HIFF.out.1 rfl; exact ⟨j, by omega, e⟩
                        go_wp2_with fail
                        refine wp_region_under (by kernel_rfl) (by kernel_rfl) ?_
                        repeat (go_big_quiet_step (fail))
                        refine wpQuiet_nil ?_
                        rintro _ ⟨u, rfl⟩
                        go_wp2_with fail
                        go_roundw
                        case rel => exact ⟨q + 1, true, by omega, by go_num, rfl, ⟨fun _ => HNX.out, fun _ => rfl⟩, HBQ.out.trans (u.h.mono HBQ.out.size)⟩
                        case measure => simp [intOf]; omega
                    · have hbt : b = true := HIFF.out.2 (by
                        obtain ⟨j, hj, e⟩ := List.mem_iff_getElem.1 (HSU.out fp (by rw [HFP.out]; exact List.getElem_mem _))
                        exact ⟨j, by have := hLl.out; omega, by rw [List.getElem?_eq_getElem hj, e]⟩)
                      subst hbt
                      go_wp2_with fail
                      go_roundw
                      case rel => exact ⟨p + 1, by omega, by go_num, HBQ.out⟩
                      case measure => simp [intOf]; omega
              · go_wp2_with fail
                go_ret
                exact ⟨rfl, B9.out.trans (hbp.mono B9.out.size)⟩
        · have hmc2 : (mc == 0) = false := beq_eq_false_iff_ne.mpr hmc
          clear hmc
          go_wp2_with fail
          refine (HSp.out _ RF8.out).mono ?_
          rintro e w9 ⟨rfl, b9⟩
          have B9 := B8.out.trans (b9.mono B8.out.size)
          have hz9 := B9.size
          clear b9
          go_wp2_with fail
          go_ret
          exact ⟨rfl, B9.alloc hz9 _⟩

end Go.Proofs.Ytklicfcafpehfaa
