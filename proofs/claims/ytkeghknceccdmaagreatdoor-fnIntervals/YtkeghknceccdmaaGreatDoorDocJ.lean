/- What the program's DocOf answers, for every row of fields. -/
import Derived.Test.YtkeghknceccdmaaGreatDoorDocI
import Derived.Test.YtkeghknceccdmaaGreatDoorInsH
namespace Go.Proofs.YtkeghknceccdmaaGreatDoor
open Go.RowKit
set_option linter.unusedVariables false

/-- A field that lies in a block. -/
structure FB (W : World) (b : Nat) (f : Fld) : Prop where
  lt : b < W.heap.size
  c0 : W.cell? ⟨b, 0, none⟩ = some (.string f.name)
  c1 : W.cell? ⟨b, 1, none⟩ = some (.int .i64 f.v.k)
  c2 : W.cell? ⟨b, 2, none⟩ = some (.int .i64 f.v.n)
  c3 : W.cell? ⟨b, 3, none⟩ = some (.string f.v.t)
theorem FB.start (w : World) (f : Fld) (T : TypeId) : FB (w.alloc (.cells #[.string f.name, .int .i64 f.v.k, .int .i64 f.v.n, .string f.v.t] T)) w.heap.size f :=
  ⟨by simp, by simp [go_sem], by simp [go_sem], by simp [go_sem], by simp [go_sem]⟩
theorem FB.next {W W' : World} {b : Nat} {f : Fld} (h : FB W b f) (hb : Below W.heap.size W W') : FB W' b f :=
  ⟨Nat.lt_of_lt_of_le h.lt hb.size, (hb.cell h.lt).trans h.c0, (hb.cell h.lt).trans h.c1, (hb.cell h.lt).trans h.c2, (hb.cell h.lt).trans h.c3⟩
theorem own_rowF {w : World} {base : Nat} {v : Value} {l : List Fld} (h : w.ownsRow base 39 4 v l.length (flatF l)) : ∃ p c, v = .slice p l.length c ∧ RowF w p l := by
  rcases h.2 with ⟨rfl, h0⟩ | ⟨g, cap, cur, rfl, _⟩
  · exact ⟨none, 0, by rw [h0], .inl (List.eq_nil_of_length_eq_zero h0)⟩
  · exact ⟨_, cap, rfl, .inr ⟨g, rfl, ReadF.of_own h⟩⟩

/-- What putting fields in order answers. -/
def SortOut (r : Except Int (List Fld)) (n : Nat) (e : Ending) (w' : World) : Prop :=
  match r with
  | .error c => e = .returned (.tuple #[.slice none 0 0, .int .i64 c]) ∧ c ≠ 0
  | .ok s => ∃ p cap, e = .returned (.tuple #[.slice p s.length cap, .int .i64 0]) ∧ RowF w' p s ∧ GoodF s ∧ s.length = n
theorem SortOut.err {r : Except Int (List Fld)} {n : Nat} {e : Ending} {w' : World} (c : Int) (hr : r = .error c) (h : e = .returned (.tuple #[.slice none 0 0, .int .i64 c])) (hc : c ≠ 0) : SortOut r n e w' := by subst hr; exact ⟨h, hc⟩
theorem SortOut.ok {r : Except Int (List Fld)} {n : Nat} {e : Ending} {w' : World} (s : List Fld) (hr : r = .ok s) (p : Option Addr) (cap : Nat) (h : e = .returned (.tuple #[.slice p s.length cap, .int .i64 0])) (h1 : RowF w' p s) (h2 : GoodF s) (h3 : s.length = n) : SortOut r n e w' := by subst hr; exact ⟨p, cap, h, h1, h2, h3⟩

set_option maxRecDepth 4000 in
set_option maxHeartbeats 4000000 in
theorem sortedFields_any (g cap : Nat) (l : List Fld) (w : World) (hr : ReadF w g l) (hl : l.length ≤ 300) (hts : ∀ f ∈ l, f.name.size ≤ 1048576 ∧ f.v.t.size ≤ 1048576) :
    Calls Tryz.prog 55 #[.slice (some ⟨g, 0, none⟩) l.length cap] w fun e w' => SortOut (foldD [] l) l.length e w' ∧ Below w.heap.size w w' := by
  have HR : Hid (ReadF _ _ _) := hr
  have HT : Hid _ := hts
  clear hr hts
  go_enter Tryz.func55, Tryz.ntmps55
  go_wp2_with fail
  go_loopw [4, 11] (fun u i wr => ∃ (k : Nat) (acc : List Fld), k ≤ l.length ∧ i = .int .i64 k ∧ acc.length = k ∧ GoodF acc ∧ foldD [] l = foldD acc (l.drop k) ∧ wr.ownsRow w.heap.size 39 4 u acc.length (flatF acc) ∧ Below w.heap.size w wr) (fun _ i _ => l.length - (intOf i).toNat)
  case atStart => exact ⟨0, [], Nat.zero_le _, rfl, rfl, GoodF.nil, rfl, World.ownsRow_nil _ _ _ _, Below.refl _ _⟩
  case round =>
    obtain ⟨k, acc, hk, rfl, hal, hga, hfold, hown, hbel⟩ := hrel
    have hz := hbel.size
    have hac : acc.length ≤ 300 := by omega
    have HAL : Hid (acc.length = k) := hal
    have HO : Hid (World.ownsRow _ _ _ _ _ _ _) := hown
    obtain ⟨p, c, rfl, hrow⟩ := own_rowF hown
    have HG : Hid (GoodF _) := hga
    have HF : Hid (_ = _) := hfold
    have HW : Hid (RowF _ _ _) := hrow
    clear hown hga hfold hrow hal
    by_cases hlt : k < l.length
    · have R := HR.out.next hbel
      obtain ⟨x0, x1, x2, x3⟩ := R.cells k hlt
      have hgl := R.lt
      have ht := HT.out l[k] (List.getElem_mem _)
      have hns : l[k].name.size ≤ maxLen := by unfold maxLen; omega
      have hvs : l[k].v.t.size ≤ maxLen := by unfold maxLen; omega
      have F0 := FB.start wr l[k] 39
      have B0 : Below w.heap.size w (wr.alloc (.cells #[.string l[k].name, .int .i64 l[k].v.k, .int .i64 l[k].v.n, .string l[k].v.t] 39)) := hbel.alloc hz _
      have HB0 : Hid (Below _ _ _) := B0
      have HF0 : Hid (FB _ _ _) := F0
      clear R ht F0 B0
      cases hs : shortB l[k].name
      · have E : Hid (_ = _) := HF.out.trans (foldD_name acc l k hlt hs)
        have HS : Hid (_ = _) := hs
        clear hs
        go_wp2_with fail
        refine (shortNameOK_any _ _ hns).mono ?_
        rintro e w1 ⟨rfl, rfl⟩
        rw [HS.out]
        go_wp2_with fail
        go_ret2
        exact ⟨SortOut.err 11 E.out rfl (by decide), HB0.out⟩
      · cases ho : okB l[k].v
        · have E : Hid (_ = _) := HF.out.trans (foldD_bad acc l k hlt hs ho)
          have HS : Hid (_ = _) := hs
          have HV : Hid (okB ⟨l[k].v.k, l[k].v.n, l[k].v.t⟩ = false) := ho
          clear hs ho
          go_wp2_with fail
          refine (shortNameOK_any _ _ hns).mono ?_
          rintro e w1 ⟨rfl, rfl⟩
          rw [HS.out]
          go_wp2_with fail
          refine (valueOK_any _ _ _ _ hvs).mono ?_
          rintro e w1 ⟨rfl, hb1⟩
          rw [HV.out]
          go_wp2_with fail
          go_ret2
          exact ⟨SortOut.err 1 E.out rfl (by decide), HB0.out.trans (hb1.mono HB0.out.size)⟩
        · have HS : Hid (_ = _) := hs
          have HV : Hid (okB ⟨l[k].v.k, l[k].v.n, l[k].v.t⟩ = true) := ho
          clear hs ho
          go_wp2_with fail
          refine (shortNameOK_any _ _ hns).mono ?_
          rintro e w1 ⟨rfl, rfl⟩
          rw [HS.out]
          go_wp2_with fail
          refine (valueOK_any _ _ _ _ hvs).mono ?_
          rintro e w1 ⟨rfl, hb1⟩
          rw [HV.out]
          have F1 := HF0.out.next hb1
          have B1 : Below w.heap.size w w1 := HB0.out.trans (hb1.mono HB0.out.size)
          have hA : Below wr.heap.size wr (wr.alloc (.cells #[.string l[k].name, .int .i64 l[k].v.k, .int .i64 l[k].v.n, .string l[k].v.t] 39)) := (Below.refl _ _).alloc (Nat.le_refl _) _
          have hA1 : Below wr.heap.size wr w1 := hA.trans (hb1.mono hA.size)
          have HW1 : Hid (RowF _ _ _) := HW.out.next hA1
          have HO1 : Hid (World.ownsRow _ _ _ _ _ _ _) := owns_below HO.out hA1
          have c0 := F1.c0
          have hlt1 := F1.lt
          have HB1 : Hid (Below _ _ _) := B1
          have HF1 : Hid (FB _ _ _) := F1
          clear hb1 F1 B1 hA hA1 x0 x1 x2 x3
          go_wp2_with fail
          refine (fieldPlace_any p c acc l[k].name w1 HW1.out HG.out.rise (by omega)).mono ?_
          rintro e w2 ⟨⟨i, b, rfl, hp⟩, hb2⟩
          have F2 := HF1.out.next hb2
          have HB2 : Hid (Below w.heap.size w w2) := HB1.out.trans (hb2.mono HB1.out.size)
          have HO2 : Hid (World.ownsRow _ _ _ _ _ _ _) := owns_below HO1.out hb2
          have hz2 := HB2.out.size
          have d0 := F2.c0
          have d1 := F2.c1
          have d2 := F2.c2
          have d3 := F2.c3
          have hlt2 := F2.lt
          have HP : Hid (Place _ _ _ _) := hp
          clear hb2 F2 c0 hp
          cases b
          · have hpl := HP.out.le
            go_wp2_with fail
            refine (insert_any _ acc i l[k] w2.heap.size w.heap.size _ (HO2.out.alloc _) hpl (by omega) (by simp; omega) (heap_alloc_new _ _) (fun g' hg' => by have := (HO2.out.lt g' hg').2; omega)).mono ?_
            rintro e w3 ⟨v', rfl, hown3, hgrow3, _⟩
            have hb3 : Below w.heap.size w w3 := Below.grown (HB2.out.alloc hz2 _) hgrow3 (by simp; omega) (fun k hk => (HO2.out.lt k hk).1)
            have HO3 : Hid (World.ownsRow _ _ _ _ _ _ _) := hown3
            have E : Hid (_ = _) := HF.out.trans (foldD_next acc l k i hlt HS.out HV.out HG.out.rise HP.out)
            clear hown3 hgrow3
            go_wp2_with fail
            go_roundw
            case rel => exact ⟨k + 1, insL acc i l[k], by omega, by go_num, by rw [insL_len _ _ _ hpl, HAL.out], HG.out.ins HS.out HV.out HP.out, E.out, HO3.out, hb3⟩
            case measure => simp [intOf]; omega
          · have E : Hid (_ = _) := HF.out.trans (foldD_twice acc l k hlt HS.out HV.out (HP.out.has HG.out.rise))
            go_wp2_with fail
            go_ret2
            exact ⟨SortOut.err 12 E.out rfl (by decide), HB2.out⟩
    · have E : Hid (_ = _) := HF.out.trans (foldD_end acc l k (by omega))
      go_wp2_with fail
      go_ret2
      exact ⟨SortOut.ok acc E.out p c rfl HW.out HG.out (by have := HAL.out; omega), hbel⟩

end Go.Proofs.YtkeghknceccdmaaGreatDoor
