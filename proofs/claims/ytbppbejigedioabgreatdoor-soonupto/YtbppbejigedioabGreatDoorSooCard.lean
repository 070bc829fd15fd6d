/- The law Soon, by what is asked of the program's streams. -/
import Derived.Test.YtbppbejigedioabGreatDoorStAsk
import Derived.Test.YtbppbejigedioabGreatDoorStCard
import Derived.Test.YtbppbejigedioabGreatDoorStOpen
import Derived.Test.YtbppbejigedioabGreatDoorTie
import Derived.Deep.DeepHandedRow
import Derived.ChangeMaps5
namespace Go.Proofs.YtbppbejigedioabGreatDoor
open Go.RowKit

set_option maxRecDepth 100000 in
set_option maxHeartbeats 2000000 in
theorem soon_walk (PS : Nat → PSt) (hS : Streamy PS) (hO : Opens PS) (f t : ByteArray) (w : World) (hf : f.size ≤ 9223372036854775807) (ht : t.size ≤ 1048576) (hE : Env w) :
    Calls Tryz.prog 5 #[.string f, .string t] w fun e w' => e = .returned (.bool true) ∧ Below w.heap.size w w' := by
  have hw3 := hE.2.2.2
  have HENV := hide (fun W (hb : Below w.heap.size w W) => hE.below hb hw3)
  have HP := hide (fun W (hb : Below w.heap.size w W) => (hE.below hb hw3).cut f t hf ht)
  have hol := cutOut_len f t ht
  have HOP := hide (hO f w hf hE)
  have HS := hide hS
  clear hO hE hS
  go_enter Tryz.func5, Tryz.ntmps5
  go_wp2_with fail
  refine (unhide HOP).mono ?_
  rintro e w1 (⟨hc, rfl, hb⟩ | ⟨hc, X, F, rfl, hps, hb⟩)
  · have hgd : isGood f.data.toList = false := by unfold isGood; exact decide_eq_false hc
    have dc : (((Cu.check f.data.toList).1 : Int) != 0) = true := by simp; omega
    have HB := hide hb
    clear hb hc
    go_wp2_with fail
    refine (good_any f _ hf).mono ?_
    rintro e w2 ⟨rfl, hb2⟩
    have HB2 := hide (below_two hb2 (unhide HB))
    rw [hgd]
    clear hb2
    go_wp2_with (go_at_call 13; refine (num_any _ _).mono ?_; rintro e w' ⟨rfl, rfl⟩)
    go_ret
    exact ⟨rfl, unhide HB2⟩
  · have hgd : isGood f.data.toList = true := by unfold isGood; exact decide_eq_true hc
    have hout : cutOut f.data.toList t.data.toList = Cu.cutsR (Cu.readGo f.data.toList 12 0 []).2.2 t.data.toList := by unfold cutOut; rw [if_pos hc]
    rw [hgd, hout] at HP
    rw [hout] at hol
    have hr2 := (unhide HS).two hps
    generalize (Cu.readGo f.data.toList 12 0 []).2.2 = l at *
    have hfp : Cu.feedP l ((⟨#[]⟩ : ByteArray) ++ t).data.toList (Cu.told l (⟨#[]⟩ : ByteArray).data.toList).length = Cu.told l t.data.toList := by
      rw [app_list]
      rfl
    obtain ⟨r, hr⟩ := Cu.told_all hr2 t.data.toList []
    rw [List.append_nil] at hr
    have HSOON := hide (fun p hp h11 => Cu.soon_told hr2 t.data.toList p hp h11)
    have HSHORT := hide (Cu.told_short l hr2 t.data.toList)
    have HPAIR := hide (Cu.cutsR_pair l t.data.toList)
    have HLE := hide (Cu.cutsR_le l t.data.toList)
    have hc0 : t.size = 0 → (Cu.cutsR l t.data.toList).length = 0 := fun h => (Cu.cutsR_empty l t.data.toList).2 (by rw [len_toList]; exact h)
    rw [len_toList] at HSOON HSHORT HLE
    have HC0 := hide hc0
    clear hc0
    have HB := hide hb
    have HPS := hide hps
    have HHR := hide hr
    generalize Cu.cutsR l t.data.toList = c at *
    clear hb hc hps hout hr hr2
    go_wp2_with fail
    refine (good_any f _ hf).mono ?_
    rintro e w2 ⟨rfl, hb2⟩
    have HB2 := hide (below_two hb2 (unhide HB))
    have HPS2 := hide ((unhide HS).below (unhide HPS) hb2)
    rw [hgd]
    clear hb2
    go_wp2_with fail
    refine (unhide HP w2 (unhide HB2)).mono ?_
    rintro e w3 ⟨a, cap, rfl, ho3, hb3⟩
    have HPS3 := hide ((unhide HS).below (unhide HPS2) hb3)
    have HB3 := hide (below_two hb3 (unhide HB2))
    have HO3 := hide (own_base ho3 (unhide HB2).size)
    have HAF : Hid (∀ k, (Value.slice a c.length cap).ownBlock = some k → ¬ F k) := hide (fun k hk hF => by have h1 := (ho3.lt k hk).1; have h2 := ((unhide HS).foot (unhide HPS2) k hF).2; omega)
    clear ho3 hb3
    have hal : Below w3.heap.size w3 (w3.alloc (.cells #[.slice a c.length cap, .bool true] 39)) := (Below.refl _ _).alloc (Nat.le_refl _) _
    have hbal := below_two hal (unhide HB3)
    have HPSA := hide ((unhide HS).below (unhide HPS3) hal)
    have HFD := hide ((unhide HS).feed t (unhide HPSA) (unhide HENV _ hbal) hw3 (by show 0 + t.size ≤ _; omega) (by omega))
    rw [hfp] at HFD
    have HBAL := hide hbal
    have HBK := hide (Blk.new w3 [.slice a c.length cap, .bool true] 39)
    have HOAL := hide (own_below (unhide HO3) hal)
    clear hal hbal hfp
    generalize Cu.told l t.data.toList = q at *
    go_wp2_with fail
    refine (unhide HFD).mono ?_
    rintro e w4 ⟨aq, capq, F', rfl, hoq, _, _, _, hfr⟩
    have hb4 := (unhide HS).base (unhide HPSA) hfr (unhide HBAL).size
    have HB4 := hide ((unhide HBAL).trans hb4)
    have hD4 : Held w w4 w3.heap.size a cap c true := ⟨hfr.blk (unhide HBK) (fun h => by have := ((unhide HS).foot (unhide HPS3) _ h).2; omega), hfr.own (unhide HOAL) (unhide HAF)⟩
    have HD4 := hide hD4
    have HOQ := hide hoq
    obtain ⟨q0, q1, q2⟩ := hD4.blk.two
    have hql : q.length ≤ c.length := by rw [unhide HHR, List.length_append]; omega
    have hqt : c.take q.length = q := by rw [unhide HHR]; simp
    have hcap := own_cap hD4.row
    clear hoq hfr hD4 hb4
    go_wp2
    go_loopw [11, 12] (fun v x wr => ∃ m : Nat, m ≤ c.length ∧ v = .int .i64 m ∧ x = .int .i64 m ∧ wr = w4 ∧ ∀ (j y : Nat), j < m → c[j]? = some y → y + 11 ≤ t.size) (fun v _ _ => 1048580 - (intOf v).toNat)
    case atStart =>
      go_light
      exact ⟨0, Nat.zero_le _, rfl, rfl, rfl, fun j y h => by omega⟩
    case round =>
      obtain ⟨m, hm, rfl, rfl, rfl, hall⟩ := hrel
      have hmq := Cu.soon_count (unhide HPAIR) (unhide HHR) (unhide HSOON) hm hall
      have hfinal : (q.length : Int) ≤ (c.length : Int) := by omega
      have hmqi : (m : Int) ≤ (q.length : Int) := by omega
      have hsame : Hid (Calls Tryz.prog 15 #[.slice aq q.length capq, .slice a q.length cap] wr fun e w' => e = .returned (.bool true) ∧ ∃ n, w' = wr.drewN n) := hide (by
        have h1 := own_take (unhide HD4).row hql
        rw [intCells_take, hqt] at h1
        exact (same_drew q q aq a capq cap _ _ wr (unhide HOQ) h1 (by omega)).mono fun e w' ⟨h2, h3⟩ => ⟨by rw [h2]; simp, h3⟩)
      by_cases hlt : m < c.length
      · obtain ⟨g, y, rfl, hy, c0⟩ := int_cell (unhide HD4).row m hlt
        by_cases h11 : y + 11 ≤ t.size
        · have h11i : (y : Int) + 11 ≤ (t.size : Int) := by omega
          have hrel2 : Hid (∃ k : Nat, k ≤ c.length ∧ Value.int .i64 ((m : Int) + 1) = .int .i64 k ∧ Value.int .i64 ((m : Int) + 1) = .int .i64 k ∧ True ∧ ∀ (j z : Nat), j < k → c[j]? = some z → z + 11 ≤ t.size) := hide ⟨m + 1, by omega, by go_num, by go_num, trivial, fun j z hj hz => by
            by_cases hjm : j = m
            · subst hjm; rw [hy] at hz; simp only [Option.some.injEq] at hz; omega
            · exact hall j z (by omega) hz⟩
          clear hall hy hsame
          go_wp2
          go_roundw
          case rel => first | exact unhide hrel2 | ((repeat apply Exists.intro); exact ⟨unhide hrel2, rfl⟩)
          case measure => simp [intOf]; omega
        · have hyt := unhide HLE y (List.mem_of_getElem? hy)
          have d1 : decide ((y : Int) + 11 ≤ (t.size : Int)) = false := decide_eq_false (by omega)
          have d2 : decide (y + 11 ≤ t.size) = false := decide_eq_false h11
          by_cases h0 : t.size = 0
          · exfalso
            have := unhide HC0 h0
            omega
          · have dte := notEmpty_of h0
            have hsh := unhide HSHORT (by omega)
            have hshi : (q.length : Int) < (c.length : Int) := by omega
            have hqc : q.length ≤ cap := by omega
            have hqcI : (q.length : Int) ≤ (cap : Int) := by omega
            clear hall hy h11 hm
            go_wp2_with (go_at_call 15; refine (unhide hsame).mono ?_; rintro e w' ⟨rfl, n9, rfl⟩)
            go_ret
            exact ⟨rfl, below_drawn (unhide HB4) _⟩
      · clear hall
        by_cases h0 : t.size = 0
        · have dte := isEmpty_of h0
          have hc0 : c.length = 0 := unhide HC0 h0
          have hq0 : q.length = 0 := by omega
          have hm0 : m = 0 := by omega
          subst hm0
          have ha : a = none ∨ ∃ g, a = some ⟨g, 0, none⟩ := by
            rcases (unhide HD4).row.2 with ⟨hv, _⟩ | ⟨g, _, _, hv, _⟩
            · simp only [Value.slice.injEq] at hv; exact Or.inl hv.1
            · simp only [Value.slice.injEq, true_and] at hv; exact Or.inr ⟨g, hv.1⟩
          rw [hc0] at q0
          rw [hq0] at hsame
          rcases ha with rfl | ⟨g, rfl⟩
          all_goals
            go_wp2_with (go_at_call 15; refine (unhide hsame).mono ?_; rintro e w' ⟨rfl, n9, rfl⟩)
            go_ret
            exact ⟨rfl, below_drawn (unhide HB4) _⟩
        · have dte := notEmpty_of h0
          have hsh := unhide HSHORT (by omega)
          omega
end Go.Proofs.YtbppbejigedioabGreatDoor
/- The law Soon: its second form's row and card. -/
namespace Go.Proofs.YtbppbejigedioabGreatDoor
open Go.ChangeShapes Go.WideShapes Go.ChangeAt Go.RowKit

theorem upto_soon {H : Type} {x0 x1 : ByteArray} (h : Rows.uptoSmall H [.lit (.string x0.data.toList), .lit (.string x1.data.toList)] = true) : x0.size + x1.size ≤ 1048576 := by
  have h2 : Rows.uptoBulkAll (H := H) [.lit (.string x0.data.toList), .lit (.string x1.data.toList)] ≤ 1048576 := of_decide_eq_true h
  simp only [Rows.uptoBulkAll, Rows.uptoBulk] at h2
  rw [len_toList, len_toList] at h2
  omega

theorem reads_soon (os : Os) {H : Type} (enc : TypeId × Value → H) : ∃ places, DataW.whole enc Tryz.prog ((laidOf4 (World.holding Tryz.prog os ⟨#[], #[], []⟩)).forCall (fun _ _ => 0) ⟨#[], #[.string ⟨#[]⟩, .string ⟨#[]⟩], []⟩).memory Tryz.f5.params.toList Rows.soonSpec.vars false #[Value.string ⟨#[]⟩, Value.string ⟨#[]⟩].toList 8 = some ([.lit (.string []), .lit (.string [])], [], places) :=
  ⟨[], by kernel_rfl⟩

set_option maxRecDepth 100000 in
theorem soon_contract (PS : Nat → PSt) (hS : Streamy PS) (hO : Opens PS) (H : Type) (enc : TypeId × Value → H) (W : World) (base : Nat) (args : Array Value) (ds gs : List (DataW H)) (before : List MemPlace)
    (hval : ∀ (j : Nat) t v, Tryz.f5.params[j]? = some t → args[j]? = some v → Value.okWide Tryz.prog W .any base t v)
    (hW : DataW.Whole enc Tryz.prog Tryz.f5.params.toList Rows.soonSpec.vars false W args.toList ds gs before) (hk : Rows.uptoSmall H (ds ++ gs) = true) (hL : laidMetH Tryz.prog lay4 W) :
    Calls Tryz.prog 5 args W fun e W' => ∃ v, e = .returned v ∧ Rows.soonSpec.post enc Tryz.prog Tryz.f5 false true false false W args v W' := by
  have hW' := hW
  obtain ⟨p, q, hA0, hV, rfl, hfz, hnd⟩ := hW
  have hA : DataW.TrodAll enc Tryz.prog W 0 (fun _ => true) true Tryz.f5.params.toList args.toList ds p := hA0
  rw [Tryz.params5] at hA hval
  obtain ⟨v0, vs0, d0, ds0, p0, q0, hargs0, rfl, rfl, h0, r0⟩ := trodAll_cons hA
  obtain ⟨v1, vs1, d1, ds1, p1, q1, hargs1, rfl, rfl, h1, r1⟩ := trodAll_cons r0
  obtain ⟨rfl, rfl, rfl⟩ := trodAll_nil r1
  obtain rfl : args = #[v0, v1] := by cases args; simp_all
  obtain ⟨rfl, rfl⟩ := trodVars_none hV
  obtain ⟨x0, rfl, rfl, rfl, g0⟩ := Go.ChangeMaps.open_string Tryz.underlying9 (hval 0 9 v0 rfl rfl) h0
  obtain ⟨x1, rfl, rfl, rfl, g1⟩ := Go.ChangeMaps.open_string Tryz.underlying9 (hval 1 9 v1 rfl rfl) h1
  clear hA0
  have hsz := upto_soon hk
  refine (soon_walk PS hS hO x0 x1 W (by omega) (by omega) (env_of_laid hL)).mono fun e W' ⟨he, hb⟩ => ?_
  subst he
  exact ⟨_, rfl, _, _, _, [], [], [], hW', trodAll_cons_mk (shut_bool Tryz.underlying4 _) trodAll_mk0, (trodAll_cons_mk (Go.ChangeMaps.shut_string Tryz.underlying9 g0) (trodAll_cons_mk (Go.ChangeMaps.shut_string Tryz.underlying9 g1) trodAll_mk0)), rfl, hb.frame _, fun h => by cases h⟩
set_option maxRecDepth 100000 in
theorem soon_lifted (PS : Nat → PSt) (hS : Streamy PS) (hO : Opens PS) (os : Os) (started : os.Started) (H : Type) (enc : TypeId × Value → H) (I : Stop.Interp) :
    ReturnsInHanded {} Tryz.checked os 5 .any ((Rows.OpenSpec.upto Rows.soonSpec).preRow enc Tryz.prog Tryz.f5 Rows.soonUptoRow.domain false Rows.soonUptoRow.laid) (((Rows.OpenSpec.upto Rows.soonSpec).at I).post enc Tryz.prog Tryz.f5 false true false false) := by
  obtain ⟨places, hx⟩ := reads_soon os enc
  refine returnsInHanded_of_row (C := Tryz.checked) (s := Rows.OpenSpec.upto Rows.soonSpec) own started (by kernel_rfl) Tryz.func5
    (witness_row_at (enc := enc) (C := Tryz.checked) false (laidOf4 (World.holding Tryz.prog os ⟨#[], #[], []⟩)) #[.string ⟨#[]⟩, .string ⟨#[]⟩] rfl (by kernel_rfl) (by kernel_rfl) (by kernel_rfl)
      (OpenSpec.preRow_of_cond 8 hx (by kernel_rfl) (fun k hk => by cases hk; kernel_rfl) (by kernel_rfl) (laid_met4 os _))) ?_
  intro W base args ds gs before hval hW _ hcond _ hL _ _
  exact soon_contract PS hS hO H enc W base args ds gs before hval hW (hcond _ rfl) hL

theorem soon_said (PS : Nat → PSt) (hS : Streamy PS) (hO : Opens PS) : Rows.SoonUptoSaid :=
  OpenClaim.holds_of_cond 5 Tryz.f5 rfl rfl rfl rfl rfl rfl rfl ⟨rfl, rfl, rfl, rfl, rfl⟩ rfl rfl rfl rfl rfl (by kernel_rfl) Tryz.func5 (by kernel_rfl)
    (of_decide_eq_true (by kernel_rfl)) (by unfold Func.isWrapper; first | (rw [if_pos (by decide +kernel)]; kernel_rfl) | (rw [if_neg (by decide +kernel)]; exact ⟨rfl, rfl⟩))
    (fun os started H enc _ I => by rw [OpenClaim.pre_eq_preRow]; exact soon_lifted PS hS hO os started H enc I)

theorem soon_plain (f : FuncId) (fn : Func) (hf : Tryz.pinned.checked.prog.funcNamed "cutter/cutterlaw.Soon" = some f) (hfn : Tryz.pinned.checked.prog.funcs[f]? = some fn) :
    true = Tryz.pinned.checked.prog.looks [] ∧ ∀ (j : Nat) t, fn.params[j]? = some t → Tryz.pinned.checked.prog.wantsStandIn t = false := by
  obtain rfl : f = 5 := Option.some.inj ((show Tryz.prog.funcNamed "cutter/cutterlaw.Soon" = some 5 by kernel_rfl).symm.trans hf) |>.symm
  obtain rfl : fn = Tryz.f5 := (Option.some.inj (Tryz.func5.symm.trans hfn)).symm
  refine ⟨by kernel_rfl, fun j t ht => ?_⟩
  rw [Tryz.params5] at ht
  have hm := Array.mem_of_getElem? ht
  simp only [List.mem_toArray, List.mem_cons, List.not_mem_nil, or_false] at hm
  rcases hm with rfl | rfl
  · exact (show Tryz.prog.wantsStandIn 9 = false by kernel_rfl)
  · exact (show Tryz.prog.wantsStandIn 9 = false by kernel_rfl)

/-- The tied card of the law Soon, its second form. -/
theorem soon_card (PS : Nat → PSt) (hS : Streamy PS) (hO : Opens PS) : Rows.SoonUptoCardSaid :=
  holds_tied_goes .later _ _ _ _ (soon_said PS hS hO) (by kernel_rfl) soonUpto_row_tie rfl ⟨rfl, rfl⟩ (by kernel_rfl) rfl soon_plain (by kernel_rfl)
/-- The law's card at this program. -/
theorem soon_holds : Rows.SoonUptoCardSaid := soon_card PS ps_streamy popen_any
#print axioms soon_holds
end Go.Proofs.YtbppbejigedioabGreatDoor
