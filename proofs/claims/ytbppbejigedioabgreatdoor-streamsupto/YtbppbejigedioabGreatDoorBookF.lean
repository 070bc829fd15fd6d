/- Walks: readBook. -/
import Derived.Test.YtbppbejigedioabGreatDoorBookY
import Derived.Test.YtbppbejigedioabGreatDoorSortX
namespace Go.Proofs.YtbppbejigedioabGreatDoor
open Go.RowKit

theorem addItems_len (k : Int) (its : List KItem) (l : List Cu.Item) : (addItems k its l).2.length ≤ its.length + l.length := by
  induction l generalizing its with
  | nil => exact Nat.le_refl _
  | cons y l ih =>
    rw [addItems]
    split
    · simp
    · split
      · simp
      · have := ih (its ++ [(k, y)]); simp at this ⊢; omega
theorem addLine_len (nm : Nat → Bool) (its : List KItem) (x : Cu.Ln) : (addLine nm its x).2.2.length ≤ its.length + x.items.length := by
  unfold addLine
  split
  · split
    · simp
    · exact addItems_len _ _ _
  · simp
theorem addRs_len (rs : List PLn) (x : PLn) : (addRs rs x).length ≤ rs.length + 1 := by
  unfold addRs; split <;> simp
theorem addAll_hit {nm : Nat → Bool} {its : List KItem} {l : List Cu.Ln} {n : Nat} {x : Cu.Ln} {e : Nat × Nat} (h : l[n]? = some x) (h1 : (addLine nm its x).1 = some e) : addAll nm its (l.drop n) = some e := by
  have hk : n < l.length := (List.getElem?_eq_some_iff.1 h).1
  rw [← List.getElem_cons_drop hk, (List.getElem?_eq_some_iff.1 h).2, addAll, h1]
theorem addAll_step {nm : Nat → Bool} {its : List KItem} {l : List Cu.Ln} {n : Nat} {x : Cu.Ln} (h : l[n]? = some x) (h1 : (addLine nm its x).1 = none) : addAll nm its (l.drop n) = addAll (addLine nm its x).2.1 (addLine nm its x).2.2 (l.drop (n + 1)) := by
  have hk : n < l.length := (List.getElem?_eq_some_iff.1 h).1
  rw [← List.getElem_cons_drop hk, (List.getElem?_eq_some_iff.1 h).2, addAll, h1]

theorem check_bad {s : ByteArray} {p : Nat} (hs : s.size ≤ 200) (hg : Cu.readGo s.data.toList 12 0 [] = (false, p, [])) : Cu.check s.data.toList = (2, p) := by
  unfold Cu.check
  rw [if_neg (by rw [len_toList]; omega), hg, if_pos rfl]
theorem check_book {s : ByteArray} {p : Nat} {lns : List Cu.Ln} {L : List PLn} (hs : s.size ≤ 200) (hg : Cu.readGo s.data.toList 12 0 [] = (true, p, lns)) (hL : L.map Prod.fst = lns.filter isLn) : Cu.check s.data.toList = (addAll (fun _ => false) [] (L.map Prod.fst)).getD (0, 0) := by
  have hS := readGo_shape s.data.toList 12 0 [] (fun x hx => by simp at hx)
  rw [hg] at hS
  unfold Cu.check
  rw [if_neg (by rw [len_toList]; omega), hg, if_neg (by simp), hL]
  exact check_law lns hS
/-- What is known of each line. -/
def LineOk (x : PLn) : Prop := Shape x.1 ∧ isLn x.1 = true ∧ x.1.items.length ≤ 200 ∧ x.1.left.length ≤ 4 ∧ x.1.right.length ≤ 4
theorem lines_ok {s : ByteArray} {p : Nat} {lns : List Cu.Ln} {L : List PLn} (hs : s.size ≤ 200) (hg : Cu.readGo s.data.toList 12 0 [] = (true, p, lns)) (hL : L.map Prod.fst = lns.filter isLn) : (∀ x ∈ L, LineOk x) ∧ L.length ≤ 12 := by
  have hS := readGo_shape s.data.toList 12 0 [] (fun x hx => by simp at hx)
  have hF := Cu.readGo_fine s.data.toList 12 0 [] (fun x hx => by simp at hx)
  rw [hg] at hS hF
  constructor
  · intro x hx
    have hm : x.1 ∈ lns.filter isLn := by rw [← hL]; exact List.mem_map.2 ⟨x, hx, rfl⟩
    obtain ⟨h1, h2⟩ := List.mem_filter.1 hm
    obtain ⟨f1, f2, f3, _, _⟩ := hF.1 x.1 h1
    rw [len_toList] at f1
    exact ⟨hS x.1 h1, h2, by omega, f2, f3⟩
  · have h1 : (L.map Prod.fst).length ≤ lns.length := by rw [hL]; exact List.length_filter_le _ _
    have h2 := hF.2
    simp at h1 h2
    omega
theorem own_block_n (a : Option Addr) (n m c : Nat) : (Value.slice a n c).ownBlock = (Value.slice a m c).ownBlock := by cases a <;> rfl
theorem PLnOwn.low {w : World} {base : Nat} {x : Cu.Ln} {a : Option Addr} {c : Nat} (h : PLnOwn w base x a c) (n b : Nat) (hb : (Value.slice a n c).ownBlock = some b) : b < w.heap.size := by
  unfold PLnOwn at h; split at h
  · exact (h.lt b (by rw [own_block_n a _ n]; exact hb)).2
  · exact (h.lt b (by rw [own_block_n a _ n]; exact hb)).2

def BookRes (s : ByteArray) (w : World) (e : Ending) (w' : World) : Prop :=
  (∃ c p : Nat, Cu.check s.data.toList = (c, p) ∧ e = .returned (.tuple #[.pointer none, brokenV c p]) ∧ Below w.heap.size w w') ∨
  (∃ B : Nat, Cu.check s.data.toList = (0, 0) ∧ e = .returned (.tuple #[.pointer (some ⟨B, 0, none⟩), .nilIface]) ∧ Below w.heap.size w w')
/-- The rules among lines. -/
def rulesOf (L : List PLn) : List PLn := L.filter fun x => !(x.1.op == 0)
/-- The book of a file that is well, sorted. -/
def BookIs (s : ByteArray) (base B : Nat) (w' : World) : Prop :=
  ∃ (p : Nat) (lns : List Cu.Ln) (L : List PLn) (nm : Nat → Bool) (its' : List KItem), Cu.readGo s.data.toList 12 0 [] = (true, p, lns) ∧ L.map Prod.fst = lns.filter isLn ∧ its'.Perm (kits lns) ∧ Rising its' ∧ Tidy (kits lns) ∧ its'.length ≤ 2400 ∧
    BookAt w' B nm its' (rulesOf L) ∧ PLinesOwn w' base L ∧ base ≤ B
def BookFull (s : ByteArray) (w : World) (e : Ending) (w' : World) : Prop :=
  (∃ c p : Nat, Cu.check s.data.toList = (c, p) ∧ c ≠ 0 ∧ e = .returned (.tuple #[.pointer none, brokenV c p]) ∧ Below w.heap.size w w') ∨
  (∃ B : Nat, Cu.check s.data.toList = (0, 0) ∧ e = .returned (.tuple #[.pointer (some ⟨B, 0, none⟩), .nilIface]) ∧ BookIs s w.heap.size B w' ∧ Below w.heap.size w w')
def BookRel (L : List PLn) (w1 : World) (v : Value) (wr : World) : Prop :=
  ∃ (n : Nat) (nm : Nat → Bool) (its : List KItem) (rs : List PLn), n ≤ L.length ∧ v = .int .i64 n ∧ BookAt wr w1.heap.size nm its rs ∧ its.length ≤ 200 * n ∧ rs.length ≤ n ∧ Below w1.heap.size w1 wr ∧
    addAll nm its ((L.map Prod.fst).drop n) = addAll (fun _ => false) [] (L.map Prod.fst) ∧ Tidy its ∧ its = kits ((L.map Prod.fst).take n) ∧ rs = rulesOf (L.take n)
theorem rulesOf_succ {L : List PLn} {n : Nat} {x : PLn} (h : L[n]? = some x) : rulesOf (L.take (n + 1)) = addRs (rulesOf (L.take n)) x := by
  unfold rulesOf addRs
  rw [List.take_add_one, h, List.filter_append]
  by_cases h0 : x.1.op = 0
  · rw [if_pos h0]; simp [h0]
  · rw [if_neg h0]; simp [h0]
theorem addAll_code {l : List Cu.Ln} {nm : Nat → Bool} {its : List KItem} {e : Nat × Nat} (h : addAll nm its l = some e) : e.1 ≠ 0 := by
  induction l generalizing nm its with
  | nil => cases h
  | cons x l ih =>
    rw [addAll] at h
    cases hx : (addLine nm its x).1 with
    | none => rw [hx] at h; exact ih h
    | some e' =>
      rw [hx] at h
      simp only [Option.some.injEq] at h
      subst h
      unfold addLine at hx
      split at hx
      · split at hx
        · simp at hx; subst hx; simp
        · exact addItems_code _ _ _ _ hx
      · cases hu : unnamedIn nm (x.left ++ x.right) with
        | none => rw [hu] at hx; cases hx
        | some p => rw [hu] at hx; simp at hx; subst hx; simp
theorem book_sorted {w1 wr w2 : World} {B : Nat} {nm : Nat → Bool} {its its' : List KItem} {rs : List PLn} {ai ar : Option Addr} {ci cr : Nat} (hBk : Blk wr B (bookCells nm (.slice ai its.length ci) (.slice ar rs.length cr) (rtOf rs)) 73)
    (hI : wr.ownsRow B 108 4 (.slice ai its.length ci) its.length (kitemCells its)) (hR : wr.ownsRow B 126 3 (.slice ar rs.length cr) rs.length (ruleCells rs)) (hp : its'.Perm its)
    (ho : w2.ownsRow B 108 4 (.slice ai its'.length ci) its'.length (kitemCells its')) (hg : wr.grownBy w2 (Value.slice ai its.length ci).ownBlock) (hb : Below B w1 wr) : BookAt w2 B nm its' rs ∧ Below B w1 w2 := by
  have hlen := hp.length_eq
  refine ⟨⟨ai, ar, ci, cr, ?_, ho, ?_⟩, ?_⟩
  · rw [hlen]; exact hBk.grown hg (hBk.ne_row hI (by decide))
  · exact own_grown hR hI (by decide) (Below.refl _ _) hg
  · exact hb.grown hg (by have := hBk.lt; omega) (fun k hk => (hI.lt k hk).1)
theorem line_cell {w w1 wr : World} {L : List PLn} {a : Option Addr} {cap n : Nat} {x : PLn} (ho : w1.ownsRow w.heap.size 104 1 (.slice a L.length cap) L.length (L.map plv)) (hb : Below w1.heap.size w1 wr) (hx : L[n]? = some x) : ∃ g, a = some ⟨g, 0, none⟩ ∧ g < wr.heap.size ∧ wr.cell? ⟨g, n, none⟩ = some (plv x) := by
  have hn : n < L.length := (List.getElem?_eq_some_iff.1 hx).1
  have h1 := own_below ho hb
  obtain ⟨g, rfl⟩ := own_some h1 (by omega)
  refine ⟨g, rfl, (own_free h1 0).1, ?_⟩
  rw [h1.cellAt n (by omega), List.getElem?_map, hx]
  rfl

set_option maxRecDepth 100000 in
set_option maxHeartbeats 2000000 in
theorem readBook_full (s : ByteArray) (w : World) (hs : s.size ≤ 9223372036854775807) (hT : Tabs w) (hw2 : 4 < w.heap.size) :
    Calls Tryz.prog 25 #[.string s] w fun e w' => BookFull s w e w' := by
  by_cases h2 : 200 < s.size
  · have hr : Hid (BookFull s w (.returned (.tuple #[.pointer none, .iface 99 (.agg #[.int .i64 1, .int .i64 0])])) w) := hide (Or.inl ⟨1, 0, by unfold Cu.check; rw [if_pos (by rw [len_toList]; exact h2)], by decide, rfl, Below.refl _ _⟩)
    go_enter Tryz.func25, Tryz.ntmps25
    go_wp2
    go_ret2
    exact unhide hr
  · have h3 : s.size ≤ 200 := by omega
    go_enter Tryz.func25, Tryz.ntmps25
    go_wp2_with fail
    refine (readLines_any s _ h3 hT hw2).mono ?_
    rintro e w1 (⟨p, hg, rfl, hb1⟩ | ⟨p, cap, lns, L, a, hg, hL, rfl, hown, hlo, hb1⟩)
    · have hr : Hid (BookFull s w (.returned (.tuple #[.pointer none, faultV p])) w1) := hide (Or.inl ⟨2, p, check_bad h3 hg, by decide, rfl, hb1⟩)
      clear hg hb1
      unfold faultV at hr ⊢
      go_wp2
      go_ret2
      exact unhide hr
    · have HC := hide (check_book h3 hg hL)
      have HGL := hide (And.intro hg hL)
      obtain ⟨hok, hL12⟩ := lines_ok h3 hg hL
      have HOK := hide hok
      have HO := hide hown
      have HLO := hide hlo
      have hw1 := hb1.size
      have HB1 := hide hb1
      clear hg hL hok hown hlo hb1 hT
      go_wp2
      go_loopw [27] (fun v wr => BookRel L w1 v wr) (fun v _ => 13 - (intOf v).toNat)
      case atStart =>
        go_light
        exact ⟨0, fun _ => false, [], [], Nat.zero_le _, rfl, ⟨none, none, 0, 0, Blk.new w1 (bookCells (fun _ => false) (.slice none 0 0) (.slice none 0 0) (rtOf [])) 73, World.ownsRow_nil _ _ _ _, World.ownsRow_nil _ _ _ _⟩, Nat.zero_le _, Nat.le_refl _, (Below.refl _ _).alloc (Nat.le_refl _) _, rfl, tidy_nil, rfl, rfl⟩
      case round =>
        obtain ⟨n, nm, its, rs, hn, rfl, hB, hi, hr, hb, hall, htidy, hkits, hrules⟩ := hrel
        have HTD := hide (And.intro htidy (And.intro hkits hrules))
        clear htidy hkits hrules
        have HALL := hide hall
        have hBlt := hB.lt
        by_cases hlt : n < L.length
        · obtain ⟨x, hx⟩ : ∃ x, L[n]? = some x := ⟨L[n], by simp [hlt]⟩
          have hxm : x ∈ L := List.mem_of_getElem? hx
          have hxf : (L.map Prod.fst)[n]? = some x.1 := by rw [List.getElem?_map, hx]; rfl
          obtain ⟨g, rfl, hg, hcell⟩ := line_cell (unhide HO) hb hx
          obtain ⟨o1, o2, o3, o4, o5⟩ := unhide HOK x hxm
          have hadd := add_any x w1.heap.size nm its rs wr hB o1 o2 (by omega) o4 o5 (by omega) (((unhide HLO x hxm).below hb).base (Nat.zero_le _)) (fun m b hb' => (unhide HLO x hxm).low m b hb')
          have hpost : Hid (∀ e w', Added wr w1.heap.size nm its rs x e w' → (∃ c p : Nat, e = .returned (brokenV c p) ∧ BookFull s w (.returned (.tuple #[.pointer none, brokenV c p])) w') ∨ (e = .returned .nilIface ∧ BookRel L w1 (.int .i64 ((n : Int) + 1)) w')) := hide (by
            rintro e w' (⟨c, p, hc, rfl, hb2⟩ | ⟨hc, rfl, hB2, hb2⟩)
            · refine Or.inl ⟨c, p, rfl, Or.inl ⟨c, p, ?_, ?_, rfl, ?_⟩⟩
              · rw [unhide HC, ← unhide HALL, addAll_hit hxf hc]; rfl
              · exact addAll_code (addAll_hit hxf hc)
              · exact (unhide HB1).trans ((hb.trans hb2).mono hw1)
            · obtain ⟨t1, t2, t3⟩ := unhide HTD
              obtain ⟨q1, q2⟩ := addLine_tidy nm its x.1 o1 t1 hc
              refine Or.inr ⟨rfl, n + 1, _, _, _, by omega, by go_num, hB2, ?_, ?_, hb.trans hb2, ?_, q1, ?_, ?_⟩
              · have := addLine_len nm its x.1; omega
              · have := addRs_len rs x; omega
              · rw [← unhide HALL, addAll_step hxf hc]
              · rw [q2, kits_take_succ hxf, ← t2]
              · rw [rulesOf_succ hx, ← t3])
          obtain ⟨tv, vv, hv⟩ := plineV_iface x.1 x.2.1 x.2.2
          have hv' : plv x = .iface tv vv := hv
          rw [hv'] at hadd hcell
          have HADD := hide hadd
          clear hadd hv hv' hx hxm hxf o1 o2 o3 o4 o5 hall hB hb
          go_wp2_with fail
          refine (unhide HADD).mono ?_
          rintro e w2 hres
          rcases unhide hpost e w2 hres with ⟨c, p, rfl, hfin⟩ | ⟨rfl, hfin⟩
          · have HF := hide hfin
            clear hres hfin
            unfold brokenV at HF ⊢
            go_wp2
            go_ret2
            exact unhide HF
          · have HF := hide hfin
            clear hres hfin
            go_wp2
            go_roundw
            case rel => first | exact unhide HF | ((repeat apply Exists.intro); exact ⟨unhide HF, rfl⟩)
            case measure => simp [intOf]; omega
        · obtain ⟨ai, ar, ci, cr, hBk, hoI, hoR⟩ := hB
          have hb26 : wr.cell? ⟨w1.heap.size, 26, none⟩ = some (.slice ai its.length ci) := hBk.cell 26
          have hnone : Cu.check s.data.toList = (0, 0) := by
            rw [unhide HC, ← unhide HALL, List.drop_eq_nil_of_le (by simp; omega)]; rfl
          have hsort := sort_any its ai ci w1.heap.size wr hoI (by omega)
          have hfin : Hid (∀ e w', SortRes w1.heap.size its ai ci wr e w' → e = .returned (.tuple #[]) ∧ BookFull s w (.returned (.tuple #[.pointer (some ⟨w1.heap.size, 0, none⟩), .nilIface])) w') := hide (by
            rintro e w' ⟨rfl, its', hp, hri, ho', hg'⟩
            obtain ⟨g1, g2⟩ := unhide HGL
            obtain ⟨t1, t2, t3⟩ := unhide HTD
            have hnL : n = L.length := by omega
            have hSh := readGo_shape s.data.toList 12 0 [] (fun x hx => by simp at hx)
            rw [g1] at hSh
            have hk : its = kits lns := by
              rw [t2, List.take_of_length_le (by simp; omega), g2, kits_filter hSh]
            have hrL : rs = rulesOf L := by rw [t3, List.take_of_length_le (by omega)]
            obtain ⟨b1, b2⟩ := book_sorted (w1 := w1) hBk hoI hoR hp ho' hg' hb
            refine ⟨rfl, Or.inr ⟨w1.heap.size, hnone, rfl, ⟨p, lns, L, nm, its', g1, g2, hk ▸ hp, hri, hk ▸ t1, ?_, hrL ▸ b1, fun x hx => (unhide HLO x hx).below b2, hw1⟩, (unhide HB1).trans (b2.mono hw1)⟩⟩
            have := hp.length_eq
            omega)
          have HS := hide hsort
          clear hsort hBk hoI hoR hall hb hnone
          go_wp2_with fail
          refine (unhide HS).mono ?_
          rintro e w2 hres
          obtain ⟨rfl, hbook⟩ := unhide hfin e w2 hres
          have HF := hide hbook
          clear hres hbook
          go_wp2
          go_ret2
          exact unhide HF
theorem readBook_any (s : ByteArray) (w : World) (hs : s.size ≤ 9223372036854775807) (hT : Tabs w) (hw2 : 4 < w.heap.size) :
    Calls Tryz.prog 25 #[.string s] w fun e w' => BookRes s w e w' :=
  (readBook_full s w hs hT hw2).mono (fun e w' h => by
    rcases h with ⟨c, p, h1, _, h2, h3⟩ | ⟨B, h1, h2, _, h3⟩
    · exact Or.inl ⟨c, p, h1, h2, h3⟩
    · exact Or.inr ⟨B, h1, h2, h3⟩)
end Go.Proofs.YtbppbejigedioabGreatDoor
