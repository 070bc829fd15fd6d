/- A region that draws its order and whose callees lay blocks of their own: one walk. -/
import Derived.Test.YtbppbejigedioabGreatDoorBlocks
import Derived.Deep.QuietTactic
import Derived.BigQuiet
import Derived.Test.YtbppbejigedioabGreatDoorCutX
namespace Go.Proofs.YtbppbejigedioabGreatDoor
open Go.RowKit

/-- A world in which all that was stays. -/
structure Bel (w : World) where
  v : World
  h : Below w.heap.size w v
theorem wp_region_bel {P : Program} {id : Nat} {Q : Exit → Act → World → Prop} {a : Act} {w : World} {l : List Oper} (hm : P.follows .mixedOrders = true) (hB : Region.lexB .any l.toArray = true)
    (h : wpQuiet P l.toArray (fun w' => ∃ p : Bel w, w' = p.v) (fun a' => ∀ w', (∃ p : Bel w, w' = p.v) → Q .normal a' w') l a) : (Code.region id l.toArray true).wp P Q a w :=
  wp_region_quiet (C := fun w' => ∃ p : Bel w, w' = p.v) hm hB ⟨⟨_, (Below.refl _ w).drew⟩, rfl⟩ (by simpa using h)
theorem bel_call {P : Program} {f : FuncId} {args : Array Value} {w : World} {p : Bel w} {u : Value} (h : ∀ W, Below w.heap.size w W → Calls P f args W fun e w' => e = .returned u ∧ Below W.heap.size W w') :
    Calls P f args p.v fun e w'' => e = .returned u ∧ ∃ q : Bel w, w'' = q.v :=
  (h p.v p.h).mono fun _ w' ⟨he, hb⟩ => ⟨he, ⟨w', p.h.trans (hb.mono p.h.size)⟩, rfl⟩
theorem bel_cell {w : World} {p : Bel w} {a : Addr} {u : Value} (h : w.cell? a = some u) : p.v.cell? a = some u := by
  have hlt := World.block_lt_of_cell? w a h
  simp only [World.cell?, p.h.block _ hlt] at h ⊢
  exact h
end Go.Proofs.YtbppbejigedioabGreatDoor
/- The reference's cuts. -/
namespace Go.Proofs.YtbppbejigedioabGreatDoor
open Go.RowKit
namespace Cu
def clsAt (l : List Ln) (cs : List Chr) : List UInt8 := cs.map fun x => UInt8.ofNat (classOf l x.2.2)
/-- Is there a cut ahead of character i? -/
def cutAt (l : List Ln) (cs : List Chr) (i : Nat) : Bool := i == 0 || partedP l ((clsAt l cs).take i) ((clsAt l cs).drop i)
def cutsTo (l : List Ln) (cs : List Chr) : Nat → List Nat
  | 0 => []
  | n + 1 => cutsTo l cs n ++ (if cutAt l cs n = true then [(cs.getD n (0, 0, 0)).1] else [])
def cutsR (l : List Ln) (t : List UInt8) : List Nat := cutsTo l (chars t) (chars t).length ++ (if 0 < t.length then [t.length] else [])
theorem cutsTo_len (l : List Ln) (cs : List Chr) (n : Nat) : (cutsTo l cs n).length ≤ n := by
  induction n with
  | zero => exact Nat.le_refl _
  | succ n ih => rw [cutsTo]; split <;> simp <;> omega
theorem cutsTo_yes {l : List Ln} {cs : List Chr} {n : Nat} {x : Chr} (hx : cs[n]? = some x) (h : cutAt l cs n = true) : cutsTo l cs (n + 1) = cutsTo l cs n ++ [x.1] := by
  rw [cutsTo, if_pos h, List.getD_eq_getElem?_getD, hx]; rfl
theorem cutsTo_no {l : List Ln} {cs : List Chr} {n : Nat} (h : cutAt l cs n = false) : cutsTo l cs (n + 1) = cutsTo l cs n := by
  rw [cutsTo, if_neg (by rw [h]; decide), List.append_nil]
end Cu

def intCells (l : List Nat) : List Value := l.map fun k : Nat => .int .i64 (k : Int)
theorem intCells_snoc (l : List Nat) (k : Nat) : intCells (l ++ [k]) = intCells l ++ [.int .i64 (k : Int)] := by unfold intCells; simp
theorem Tryz.info3 : (Tryz.prog.info? 3).map (fun i => (i.zero, i.size, i.bytes)) = some (some (.int .i64 0), 1, 8) := by kernel_rfl
theorem one1 {k0 : IntKind} (a : Int) : ∀ u ∈ [Value.int k0 a], u.oneCell' = true := by
  intro u hu
  simp at hu
  subst hu; rfl

def CutsRel (l : List Cu.Ln) (cs : List Cu.Chr) (w : World) (v x : Value) (wr : World) : Prop :=
  ∃ (n cap : Nat) (a : Option Addr), n ≤ cs.length ∧ x = .int .i64 n ∧ v = .slice a (Cu.cutsTo l cs n).length cap ∧ wr.ownsRow w.heap.size 3 1 (.slice a (Cu.cutsTo l cs n).length cap) (Cu.cutsTo l cs n).length (intCells (Cu.cutsTo l cs n)) ∧ Below w.heap.size w wr
def CutsRes (out : List Nat) (w : World) (e : Ending) (w' : World) : Prop :=
  ∃ (a : Option Addr) (cap : Nat), e = .returned (.slice a out.length cap) ∧ w'.ownsRow w.heap.size 3 1 (.slice a out.length cap) out.length (intCells out) ∧ Below w.heap.size w w'
theorem cuts_yes {l : List Cu.Ln} {cs : List Cu.Chr} {n cap cap' : Nat} {a a' : Option Addr} {w w1 W w2 : World} {x : Cu.Chr} (hx : cs[n]? = some x) (h : Cu.cutAt l cs n = true) (hb : Below w.heap.size w w1) (hW : Below w1.heap.size w1 W)
    (hO : w1.ownsRow w.heap.size 3 1 (.slice a (Cu.cutsTo l cs n).length cap) (Cu.cutsTo l cs n).length (intCells (Cu.cutsTo l cs n)))
    (ho : w2.ownsRow w.heap.size 3 1 (.slice a' ((Cu.cutsTo l cs n).length + 1) cap') ((Cu.cutsTo l cs n).length + 1) (intCells (Cu.cutsTo l cs n) ++ [.int .i64 x.1])) (hg : W.grownBy w2 (Value.slice a (Cu.cutsTo l cs n).length cap).ownBlock) :
    CutsRel l cs w (.slice a' ((Cu.cutsTo l cs n).length + 1) cap') (.int .i64 ((n : Int) + 1)) w2 := by
  have hn : n < cs.length := (List.getElem?_eq_some_iff.1 hx).1
  have e1 := Cu.cutsTo_yes hx h
  have hlen : (Cu.cutsTo l cs (n + 1)).length = (Cu.cutsTo l cs n).length + 1 := by rw [e1]; simp
  refine ⟨n + 1, cap', a', by omega, by go_num, by rw [hlen], ?_, ?_⟩
  · rw [hlen, e1, intCells_snoc]; exact ho
  · exact (hb.trans (hW.mono hb.size)).grown hg (by have := hW.size; have := hb.size; omega) (fun k hk => (hO.lt k hk).1)
theorem cuts_last {out : List Nat} {n cap cap' : Nat} {a a' : Option Addr} {w w1 W w2 : World} (hb : Below w.heap.size w w1) (hW : Below w1.heap.size w1 W)
    (hO : w1.ownsRow w.heap.size 3 1 (.slice a out.length cap) out.length (intCells out))
    (ho : w2.ownsRow w.heap.size 3 1 (.slice a' (out.length + 1) cap') (out.length + 1) (intCells out ++ [.int .i64 n])) (hg : W.grownBy w2 (Value.slice a out.length cap).ownBlock) : CutsRes (out ++ [n]) w (.returned (.slice a' (out.length + 1) cap')) w2 := by
  have hlen : (out ++ [n]).length = out.length + 1 := by simp
  exact ⟨a', cap', by rw [hlen], by rw [hlen, intCells_snoc]; exact ho, (hb.trans (hW.mono hb.size)).grown hg (by have := hW.size; have := hb.size; omega) (fun k hk => (hO.lt k hk).1)⟩

set_option maxRecDepth 100000 in
set_option maxHeartbeats 2000000 in
theorem cuts_any (L : List (Cu.Ln × Refs)) (a : Option Addr) (cap base : Nat) (t : ByteArray) (w : World) (ho : w.ownsRow base 162 6 (.slice a L.length cap) L.length (linesCells L)) (hlo : LinesOwn w base L) (hL : L.length ≤ 12) (hI : ∀ y ∈ L, y.1.items.length ≤ 200) (hF : ∀ y ∈ L, y.1.left.length ≤ 4 ∧ y.1.right.length ≤ 4) (ht : t.size ≤ 1048576) :
    Calls Tryz.prog 37 #[.slice a L.length cap, .string t] w fun e w' => CutsRes (Cu.cutsR (L.map Prod.fst) t.data.toList) w e w' := by
  obtain ⟨i0, ki, kz0, kz1, kz2⟩ := info_parts Tryz.info3
  have HO := hide ho
  have HLO := hide hlo
  have HI := hide hI
  have HF := hide hF
  clear ho hlo hI hF
  go_enter Tryz.func37, Tryz.ntmps37
  go_wp2_with fail
  refine (chars_any t _ ht).mono ?_
  rintro e w1 ⟨ac, capc, rfl, hoc, hb1⟩
  have hcl := chars_len t
  have hCR : Hid (Cu.cutsR (L.map Prod.fst) t.data.toList = Cu.cutsTo (L.map Prod.fst) (Cu.chars t.data.toList) (Cu.chars t.data.toList).length ++ (if 0 < t.size then [t.size] else [])) := hide (by unfold Cu.cutsR; rw [len_toList])
  generalize Cu.chars t.data.toList = cs at hoc hcl hCR ⊢
  have HOC := hide hoc
  have HB1 := hide hb1
  clear hoc hb1
  go_wp2_with fail
  refine (classes_any L a cap _ cs ac capc _ _ (own_below (unhide HO) (unhide HB1)) ((unhide HLO).below (unhide HB1)) hL (unhide HI) (unhide HOC) (by omega)).mono ?_
  rintro e w2 ⟨rfl, hb2⟩
  have HB2 := hide (below_two hb2 (unhide HB1))
  have HOC2 := hide (own_below (unhide HOC) hb2)
  have hw2 := (unhide HB2).size
  have hSd : Hid ((clsB (L.map Prod.fst) cs).data.toList = Cu.clsAt (L.map Prod.fst) cs) := hide (by unfold clsB clsL Cu.clsAt; simp)
  have hSz : Hid ((clsB (L.map Prod.fst) cs).size = cs.length) := hide (clsB_size _ _)
  generalize clsB (L.map Prod.fst) cs = S at hSd hSz ⊢
  clear hb2
  go_wp2
  go_loopw [7, 8] (fun v x wr => CutsRel (L.map Prod.fst) cs w2 v x wr) (fun _ x _ => 1048578 - (intOf x).toNat)
  case atStart =>
    go_light
    exact ⟨0, 0, none, Nat.zero_le _, rfl, rfl, World.ownsRow_nil _ _ _ _, Below.refl _ _⟩
  case round =>
    obtain ⟨n, capo, ao, hn, rfl, rfl, hoo, hb⟩ := hrel
    have hol := Cu.cutsTo_len (L.map Prod.fst) cs n
    have HOO := hide hoo
    have HB := hide hb
    have hbs := hb.size
    clear hoo hb
    by_cases hlt : n < cs.length
    · have hnS : n ≤ S.size := by rw [unhide hSz]; omega
      have hSs : S.size ≤ 1048576 := by rw [unhide hSz]; omega
      have e1 : (S.extract 0 n).data.toList = (Cu.clsAt (L.map Prod.fst) cs).take n := by rw [extract_list, unhide hSd]; simp
      have e2 : (S.extract n S.size).data.toList = (Cu.clsAt (L.map Prod.fst) cs).drop n := by
        rw [extract_list, unhide hSd]
        have : (Cu.clsAt (L.map Prod.fst) cs).length = S.size := by rw [← unhide hSd, len_toList]
        rw [← this, List.take_of_length_le (by simp)]
      have z1 : (S.extract 0 n).size ≤ 1048576 := by rw [ByteArray.size_extract]; omega
      have z2 : (S.extract n S.size).size ≤ 1048576 := by rw [ByteArray.size_extract]; omega
      have hbw := below_two (unhide HB) (unhide HB2)
      have hP := fun W (hW : Below wr.heap.size wr W) => parted_any L a cap base (S.extract 0 n) (S.extract n S.size) W (own_below (own_below (unhide HO) hbw) hW) (((unhide HLO).below hbw).below hW) hL (unhide HF) z1 z2
      rw [e1, e2] at hP
      have HP := hide hP
      clear hP e1 e2 z1 z2 hbw
      go_upto_region 7 with fail
      go_cut [9] (fun b wc => b = .bool (Cu.cutAt (L.map Prod.fst) cs n) ∧ Below wr.heap.size wr wc)
      case first =>
        by_cases h0 : n = 0
        · subst h0
          have hr : Hid (Cu.cutAt (L.map Prod.fst) cs 0 = true) := hide rfl
          go_quiet (fail)
          go_wp2_with fail
          go_meet
          case rel => exact ⟨by rw [unhide hr], below_drewN (Below.refl _ _) _⟩
        · have d0 : ((n : Int) == 0) = false := by rw [beq_eq_false_iff_ne]; omega
          have hr : Hid (Cu.cutAt (L.map Prod.fst) cs n = Cu.partedP (L.map Prod.fst) ((Cu.clsAt (L.map Prod.fst) cs).take n) ((Cu.clsAt (L.map Prod.fst) cs).drop n)) := hide (by unfold Cu.cutAt; simp [h0])
          clear h0
          haveI hne : Nonempty (Bel wr) := ⟨⟨wr, Below.refl _ _⟩⟩
          refine wp_region_bel (by kernel_rfl) (by kernel_rfl) ?_
          repeat (quiet_step ((go_at_call 62; exact bel_call (unhide HP))))
          refine wpQuiet_nil ?_
          intro _ hw'
          obtain ⟨⟨wq, hwq⟩, rfl⟩ := hw'
          go_wp2_with fail
          go_meet
          case rel => exact ⟨by rw [unhide hr], hwq⟩
      case rest =>
        obtain ⟨rfl, hb3⟩ := hcut
        have hO3 := hide (own_below (unhide HOO) hb3)
        have hB3 := hide (below_two hb3 (unhide HB))
        have hs3 := hb3.size
        clear hb3 HP
        cases hct : Cu.cutAt (L.map Prod.fst) cs n with
        | false =>
          have hrel2 : Hid (CutsRel (L.map Prod.fst) cs w2 (.slice ao (Cu.cutsTo (L.map Prod.fst) cs n).length capo) (.int .i64 ((n : Int) + 1)) wc) := hide ⟨n + 1, capo, ao, by omega, by go_num, by rw [Cu.cutsTo_no hct], by rw [Cu.cutsTo_no hct]; exact unhide hO3, unhide hB3⟩
          clear hct
          go_wp2
          go_roundw
          case rel => first | exact unhide hrel2 | ((repeat apply Exists.intro); exact ⟨unhide hrel2, rfl⟩)
          case measure => simp [intOf]; omega
        | true =>
          obtain ⟨g, x, rfl, hx, hg, c0, c1, c2⟩ := chr_cells (own_below (unhide HOC2) (unhide hB3)) n hlt
          have HX := hide hx
          have HCT := hide hct
          have hcap : ((Cu.cutsTo (L.map Prod.fst) cs n).length + 1) * 8 ≤ 140737488355328 := by omega
          have hmax : (Cu.cutsTo (L.map Prod.fst) cs n).length + 1 ≤ maxLen := by unfold maxLen; omega
          clear hx hct
          go_wp2_with (at_builtin; refine wpList_append_own _ rfl (.tmp 34) (.tmp 40) 30 rfl w2.heap.size 3 i0 (.int .i64 0) 1 8 Tryz.underlying30 ki kz0 kz1 kz2 rfl (by decide) (.slice ao (Cu.cutsTo (L.map Prod.fst) cs n).length capo) (Cu.cutsTo (L.map Prod.fst) cs n).length (intCells (Cu.cutsTo (L.map Prod.fst) cs n)) rfl ((unhide hO3).alloc _) ⟨wc.heap.size, 0, none⟩ 1 1 [.int .i64 x.1] rfl rfl (news_new _ _ rfl _ _) (one1 _) hmax hcap (by simp; omega) ?_; intro v' w4 hown' hgrow _; refine Hid.out ?_)
          refine hide ?_
          obtain ⟨a', cap', hv'⟩ := own_form hown'
          subst hv'
          have hrel2 := hide (cuts_yes (unhide HX) (unhide HCT) (unhide hB3) ((Below.refl _ _).alloc (Nat.le_refl _) _) (unhide hO3) hown' hgrow)
          clear hown' hgrow
          go_wp2
          go_roundw
          case rel => first | exact unhide hrel2 | ((repeat apply Exists.intro); exact ⟨unhide hrel2, rfl⟩)
          case measure => simp [intOf]; omega
    · obtain rfl : n = cs.length := by omega
      by_cases ht0 : 0 < t.size
      · have hout : Hid (Cu.cutsR (L.map Prod.fst) t.data.toList = Cu.cutsTo (L.map Prod.fst) cs cs.length ++ [t.size]) := hide (by rw [unhide hCR, if_pos ht0])
        have hcap : ((Cu.cutsTo (L.map Prod.fst) cs cs.length).length + 1) * 8 ≤ 140737488355328 := by omega
        have hmax : (Cu.cutsTo (L.map Prod.fst) cs cs.length).length + 1 ≤ maxLen := by unfold maxLen; omega
        go_wp2_with (at_builtin; refine wpList_append_own _ rfl (.tmp 45) (.tmp 48) 30 rfl w2.heap.size 3 i0 (.int .i64 0) 1 8 Tryz.underlying30 ki kz0 kz1 kz2 rfl (by decide) (.slice ao (Cu.cutsTo (L.map Prod.fst) cs cs.length).length capo) (Cu.cutsTo (L.map Prod.fst) cs cs.length).length (intCells (Cu.cutsTo (L.map Prod.fst) cs cs.length)) rfl ((unhide HOO).alloc _) ⟨wr.heap.size, 0, none⟩ 1 1 [.int .i64 t.size] rfl rfl (news_new _ _ rfl _ _) (one1 _) hmax hcap (by simp; omega) ?_; intro v' w4 hown' hgrow _; refine Hid.out ?_)
        refine hide ?_
        obtain ⟨a', cap', hv'⟩ := own_form hown'
        subst hv'
        have hfin := hide (cuts_last (unhide HB) ((Below.refl _ _).alloc (Nat.le_refl _) _) (unhide HOO) hown' hgrow)
        clear hown' hgrow
        go_wp2
        go_ret
        obtain ⟨af, cf, he, hof, hbf⟩ := unhide hfin
        rw [unhide hout]
        exact ⟨af, cf, he, own_base hof hw2, below_two hbf (unhide HB2)⟩
      · have hout : Hid (Cu.cutsR (L.map Prod.fst) t.data.toList = Cu.cutsTo (L.map Prod.fst) cs cs.length) := hide (by rw [unhide hCR, if_neg ht0, List.append_nil])
        go_wp2
        go_ret
        rw [unhide hout]
        exact ⟨ao, capo, rfl, own_base (unhide HOO) hw2, below_two (unhide HB) (unhide HB2)⟩
end Go.Proofs.YtbppbejigedioabGreatDoor
/- The reference's Cut; Same. -/
namespace Go.Proofs.YtbppbejigedioabGreatDoor
open Go.RowKit

/-- What Cut answers. -/
def CutRes (f t : ByteArray) (w : World) (e : Ending) (w' : World) : Prop :=
  ((Cu.check f.data.toList).1 ≠ 0 ∧ e = .returned (.tuple #[.slice none 0 0, .int .i64 (Cu.check f.data.toList).1, .int .i64 (Cu.check f.data.toList).2]) ∧ Below w.heap.size w w') ∨
  ((Cu.check f.data.toList).1 = 0 ∧ ∃ (a : Option Addr) (cap : Nat), e = .returned (.tuple #[.slice a (Cu.cutsR (Cu.readGo f.data.toList 12 0 []).2.2 t.data.toList).length cap, .int .i64 0, .int .i64 0]) ∧
    w'.ownsRow w.heap.size 3 1 (.slice a (Cu.cutsR (Cu.readGo f.data.toList 12 0 []).2.2 t.data.toList).length cap) (Cu.cutsR (Cu.readGo f.data.toList 12 0 []).2.2 t.data.toList).length (intCells (Cu.cutsR (Cu.readGo f.data.toList 12 0 []).2.2 t.data.toList)) ∧ Below w.heap.size w w')

set_option maxRecDepth 100000 in
set_option maxHeartbeats 1000000 in
theorem refCut_any (f t : ByteArray) (w : World) (hf : f.size ≤ 9223372036854775807) (ht : t.size ≤ 1048576) :
    Calls Tryz.prog 38 #[.string f, .string t] w fun e w' => CutRes f t w e w' := by
  go_enter Tryz.func38, Tryz.ntmps38
  go_wp2_with fail
  refine (refCheck_any f _ hf).mono ?_
  rintro e w1 ⟨rfl, hb1⟩
  have HB1 := hide hb1
  clear hb1
  by_cases h0 : (Cu.check f.data.toList).1 = 0
  · obtain ⟨hsz, hok⟩ := check_ok h0
    have hd : (((Cu.check f.data.toList).1 : Int) != 0) = false := by rw [h0]; rfl
    have HOK := hide hok
    have H0 := hide h0
    have HF := hide (Cu.readGo_fine f.data.toList 12 0 [] (fun x hx => by simp at hx))
    clear h0 hok
    go_wp2_with fail
    refine (read_any f _ hsz).mono ?_
    rintro e w2 (⟨p, hg, rfl, hb2⟩ | ⟨p, cap, l, a, hg, rfl, ho, hlo, hb2⟩)
    · exfalso
      have h := unhide HOK
      rw [hg] at h
      cases h
    · have hF := unhide HF
      rw [hg] at hF
      have hl12 : l.length ≤ 12 := by have := hF.2; simpa using this
      have HI : Hid (∀ y ∈ l, y.1.items.length ≤ 200) := hide (fun y hy => by
        have h1 := (hF.1 y.1 (List.mem_map.2 ⟨y, hy, rfl⟩)).1
        rw [len_toList] at h1
        omega)
      have HLR : Hid (∀ y ∈ l, y.1.left.length ≤ 4 ∧ y.1.right.length ≤ 4) := hide (fun y hy => by
        have h1 := hF.1 y.1 (List.mem_map.2 ⟨y, hy, rfl⟩)
        exact ⟨h1.2.1, h1.2.2.1⟩)
      have HL : Hid ((Cu.readGo f.data.toList 12 0 []).2.2 = l.map Prod.fst) := hide (by rw [hg])
      have HO := hide ho
      have HLO := hide hlo
      have HB2 := hide (below_two hb2 (unhide HB1))
      clear hg ho hlo hb2 hF HOK HF
      go_wp2_with fail
      refine (cuts_any l a cap _ t _ (unhide HO) (unhide HLO) hl12 (unhide HI) (unhide HLR) ht).mono ?_
      rintro e w3 ⟨ac, capc, rfl, hoc, hb3⟩
      have hfin : Hid (CutRes f t w (.returned (.tuple #[.slice ac (Cu.cutsR (l.map Prod.fst) t.data.toList).length capc, .int .i64 0, .int .i64 0])) w3) := hide (Or.inr ⟨unhide H0, ac, capc, by rw [unhide HL], by rw [unhide HL]; exact own_base hoc (unhide HB2).size, below_two hb3 (unhide HB2)⟩)
      clear hoc hb3
      go_wp2
      go_ret3
      exact unhide hfin
  · have hd : (((Cu.check f.data.toList).1 : Int) != 0) = true := by rw [bne_iff_ne]; omega
    have hfin : Hid (CutRes f t w (.returned (.tuple #[.slice none 0 0, .int .i64 (Cu.check f.data.toList).1, .int .i64 (Cu.check f.data.toList).2])) w1) := hide (Or.inl ⟨h0, rfl, unhide HB1⟩)
    clear h0
    go_wp2
    go_ret3
    exact unhide hfin

theorem int_cell {w : World} {base cap : Nat} {l : List Nat} {a : Option Addr} (ho : w.ownsRow base 3 1 (.slice a l.length cap) l.length (intCells l)) (i : Nat) (hi : i < l.length) :
    ∃ (g x : Nat), a = some ⟨g, 0, none⟩ ∧ l[i]? = some x ∧ w.cell? ⟨g, i, none⟩ = some (.int .i64 x) := by
  obtain ⟨g, rfl⟩ := own_some ho (by omega)
  refine ⟨g, l[i], rfl, by simp [hi], ?_⟩
  rw [ho.cellAt i (by omega)]
  unfold intCells
  simp [hi]
set_option maxRecDepth 100000 in
set_option maxHeartbeats 1000000 in
theorem same_any (l m : List Nat) (a b : Option Addr) (ca cb ba bb : Nat) (w : World) (ha : w.ownsRow ba 3 1 (.slice a l.length ca) l.length (intCells l)) (hb : w.ownsRow bb 3 1 (.slice b m.length cb) m.length (intCells m)) (hl : l.length ≤ 2097152) :
    Calls Tryz.prog 15 #[.slice a l.length ca, .slice b m.length cb] w fun e w' => e = .returned (.bool (l == m)) ∧ Below w.heap.size w w' := by
  have HA := hide ha
  have HB := hide hb
  clear ha hb
  by_cases hlm : l.length = m.length
  · have dl : ((l.length : Int) != (m.length : Int)) = false := by rw [hlm]; simp
    have HLM := hide hlm
    clear hlm
    go_enter Tryz.func15, Tryz.ntmps15
    go_wp2
    go_loopw [5] (fun v wr => ∃ n : Nat, n ≤ l.length ∧ v = .int .i64 n ∧ Below w.heap.size w wr ∧ l.take n = m.take n) (fun v _ => 2097154 - (intOf v).toNat)
    case atStart =>
      go_light
      exact ⟨0, Nat.zero_le _, rfl, Below.refl _ _, by simp⟩
    case round =>
      obtain ⟨n, hn, rfl, hbw, htk⟩ := hrel
      have HTK := hide htk
      clear htk
      by_cases hlt : n < l.length
      · obtain ⟨g, x, rfl, hx, c0⟩ := int_cell (own_below (unhide HA) hbw) n hlt
        obtain ⟨g2, y, rfl, hy, c1⟩ := int_cell (own_below (unhide HB) hbw) n (by rw [← unhide HLM]; exact hlt)
        by_cases hxy : x = y
        · have hr : Hid (l.take (n + 1) = m.take (n + 1)) := hide (by rw [List.take_add_one, List.take_add_one, hx, hy, hxy, unhide HTK])
          have dxy : ((x : Int) != (y : Int)) = false := by rw [hxy]; simp
          have hnm : (n : Int) < (m.length : Int) := by rw [← unhide HLM]; omega
          have hfin : Hid (∀ q, ∃ k : Nat, k ≤ l.length ∧ Value.int .i64 ((n : Int) + 1) = .int .i64 k ∧ Below w.heap.size w (wr.drewN q) ∧ l.take k = m.take k) := hide (fun q => ⟨n + 1, by omega, by go_num, below_drewN hbw q, unhide hr⟩)
          clear hx hy hxy
          go_wp2
          go_quiet (fail)
          go_wp2
          go_roundw
          case rel => first | exact unhide hfin _ | ((repeat apply Exists.intro); exact ⟨unhide hfin _, rfl⟩)
          case measure => simp [intOf]; omega
        · have hr : Hid ((l == m) = false) := hide (by
            rw [beq_eq_false_iff_ne]
            intro h
            rw [h, hy] at hx
            simp at hx
            exact hxy hx.symm)
          have dxy : ((x : Int) != (y : Int)) = true := by rw [bne_iff_ne]; omega
          have hnm : (n : Int) < (m.length : Int) := by rw [← unhide HLM]; omega
          clear hx hy hxy
          go_wp2
          go_quiet (fail)
          go_wp2
          go_ret
          exact ⟨by rw [unhide hr]; rfl, below_drewN hbw _⟩
      · have hr : Hid (l = m) := hide (by
          have h := unhide HTK
          rw [List.take_of_length_le (by omega), List.take_of_length_le (by have := unhide HLM; omega)] at h
          exact h)
        go_wp2
        go_ret
        exact ⟨by rw [unhide hr]; simp, hbw⟩
  · have dl : ((l.length : Int) != (m.length : Int)) = true := by rw [bne_iff_ne]; omega
    have hr : Hid ((l == m) = false) := hide (by rw [beq_eq_false_iff_ne]; intro h; exact hlm (by rw [h]))
    clear hlm
    go_enter Tryz.func15, Tryz.ntmps15
    go_wp2
    go_ret
    exact ⟨by rw [unhide hr]; rfl, Below.refl _ _⟩
end Go.Proofs.YtbppbejigedioabGreatDoor
