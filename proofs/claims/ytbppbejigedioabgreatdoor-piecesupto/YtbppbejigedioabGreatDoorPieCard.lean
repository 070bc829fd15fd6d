/- The law Pieces, by what is asked of the program's streams. -/
import Derived.Test.YtbppbejigedioabGreatDoorStCard
import Derived.Test.YtbppbejigedioabGreatDoorStOpen
import Derived.Test.YtbppbejigedioabGreatDoorTie
import Derived.Deep.DeepHandedRow
import Derived.ChangeMaps5
namespace Go.Proofs.YtbppbejigedioabGreatDoor
open Go.RowKit

theorem Held.fram {w wr wr' : World} {b : Nat} {a : Option Addr} {cap : Nat} {out : List Nat} {ok : Bool} {F : Nat → Prop} (h : Held w wr b a cap out ok) (hf : Fram F wr wr') (hb : ¬ F b) (hr : ∀ k, (Value.slice a out.length cap).ownBlock = some k → ¬ F k) : Held w wr' b a cap out ok :=
  ⟨hf.blk h.blk hb, hf.own h.row hr⟩

set_option maxRecDepth 100000 in
set_option maxHeartbeats 2000000 in
theorem pieces_walk (PS : Nat → PSt) (hS : Streamy PS) (hO : Opens PS) (f t : ByteArray) (zs : List Int) (az : Option Addr) (capz : Nat) (w : World) (hf : f.size ≤ 9223372036854775807) (ht : t.size ≤ 1048576) (hz : zs.length ≤ 1048576) (hE : Env w) (hin : IntsIn w w.heap.size az zs) :
    Calls Tryz.prog 4 #[.string f, .string t, .slice az zs.length capz] w fun e w' => e = .returned (.bool true) ∧ Below w.heap.size w w' := by
  have hw3 := hE.2.2.2
  have HENV := hide (fun W (hb : Below w.heap.size w W) => hE.below hb hw3)
  have HP := hide (fun W (hb : Below w.heap.size w W) => (hE.below hb hw3).cut f t hf ht)
  have HIN := hide (fun W (hb : Below w.heap.size w W) => hin.below hb)
  have hol := cutOut_len f t ht
  have HOP := hide (hO f w hf hE)
  have HS := hide hS
  clear hO hE hS hin
  go_enter Tryz.func4, Tryz.ntmps4
  go_wp2_with fail
  refine (unhide HOP).mono ?_
  rintro e w1 (⟨hc, rfl, hb⟩ | ⟨hc, X, F, rfl, hps, hb⟩)
  · have hgd : isGood f.data.toList = false := by unfold isGood; exact decide_eq_false hc
    have dc : (((Cu.check f.data.toList).1 : Int) != 0) = true := by simp; omega
    rw [hgd] at HP
    have HB := hide hb
    clear hb hc
    go_wp2_with fail
    refine (unhide HP w1 (unhide HB)).mono ?_
    rintro e w2 ⟨a, cap, rfl, ho2, hb2⟩
    have HB2 := hide (below_two hb2 (unhide HB))
    clear ho2 hb2
    go_wp2_with fail
    refine (good_any f _ hf).mono ?_
    rintro e w3 ⟨rfl, hb3⟩
    have hB3 := (Blk.new w2 [.slice a (cutOut f.data.toList t.data.toList).length cap, .bool false] 39).below hb3 (by simp)
    obtain ⟨q0, q1, q2⟩ := hB3.two
    have HB3 := hide ((below_put (unhide HB2) _).trans (hb3.mono (below_put (unhide HB2) _).size))
    rw [hgd]
    clear hb3 hB3
    go_wp2_with (go_at_call 13; refine (num_any _ _).mono ?_; rintro e w' ⟨rfl, rfl⟩)
    go_ret
    exact ⟨rfl, unhide HB3⟩
  · have hgd : isGood f.data.toList = true := by unfold isGood; exact decide_eq_true hc
    have hout : cutOut f.data.toList t.data.toList = Cu.cutsR (Cu.readGo f.data.toList 12 0 []).2.2 t.data.toList := by unfold cutOut; rw [if_pos hc]
    rw [hgd, hout] at HP
    rw [hout] at hol
    generalize (Cu.readGo f.data.toList 12 0 []).2.2 = l at *
    have HC0 := hide (Cu.cutsR_empty l t.data.toList)
    rw [len_toList] at HC0
    have HB := hide hb
    have HPS := hide hps
    have HJO := hide (fun (W : World) (F : Nat → Prop) (hp : PS 0 W w.heap.size X l ⟨#[]⟩ F) (hb : Below w.heap.size w W) => joined_any PS (unhide HS) 0 w.heap.size X l F t zs az capz W hp (by omega) (unhide HENV W hb) hw3 hb.size ht hz (unhide HIN W hb))
    have HJN := hide (fun (W : World) (F : Nat → Prop) (hp : PS (0 + t.size + 1) W w.heap.size X l ⟨#[]⟩ F) (hb : Below w.heap.size w W) => joined_any PS (unhide HS) (0 + t.size + 1) w.heap.size X l F t [] none 0 W hp (by omega) (unhide HENV W hb) hw3 hb.size ht (by simp) (fun i x hx => by simp at hx))
    generalize Cu.cutsR l t.data.toList = c at *
    clear hb hc hps hout
    go_wp2_with fail
    refine (unhide HP w1 (unhide HB)).mono ?_
    rintro e w2 ⟨a, cap, rfl, ho2, hb2⟩
    have hfoot := fun k hk => ((unhide HS).foot (unhide HPS) k hk).2
    have hs12 := hb2.size
    have hnF : ∀ k, (Value.slice a c.length cap).ownBlock = some k → ¬ F k := fun k hk hF => by have h1 := (ho2.lt k hk).1; have h2 := hfoot k hF; omega
    have hnB : ¬ F w2.heap.size := fun hF => by have h2 := hfoot _ hF; omega
    have HPS2 := hide ((unhide HS).below (unhide HPS) hb2)
    have HB2 := hide (below_two hb2 (unhide HB))
    have HO2 := hide (own_base ho2 (unhide HB).size)
    clear ho2 hb2
    go_wp2_with fail
    refine (good_any f _ hf).mono ?_
    rintro e w3 ⟨rfl, hb3⟩
    obtain ⟨hD3, hb23, hbw3, _⟩ := held_put (unhide HB2) (unhide HO2) hb3
    have hPS3 := (unhide HS).below (unhide HPS2) hb23
    have hs23 : w2.heap.size < w3.heap.size := hD3.blk.lt
    have hrow3 : ∀ k, (Value.slice a c.length cap).ownBlock = some k → k < w3.heap.size := fun k hk => (hD3.row.lt k hk).2
    rw [hgd]
    have HF1 := hide (unhide HJO w3 F hPS3 hbw3)
    have HD3 := hide hD3
    have HBW3 := hide hbw3
    have HPS3 := hide hPS3
    have HROW := hide hrow3
    have HNF := hide hnF
    have HNB := hide hnB
    obtain ⟨q0, q1, q2⟩ := hD3.blk.two
    clear hb3 hD3 hb23 hbw3 hPS3 hrow3 hnF hnB hfoot
    go_wp2_with (go_at_call 13; refine (num_any _ _).mono ?_; rintro e w' ⟨rfl, rfl⟩)
    go_at_call 14
    refine (unhide HF1).mono ?_
    rintro e w4 ⟨aA, cA, FA, rfl, hoA, hpA, hFA, hnA, hfr⟩
    have hb4 := (unhide HBW3).trans ((unhide HS).base (unhide HPS3) hfr (unhide HBW3).size)
    have hnoA : ∀ k, FA k → k < w3.heap.size → F k := fun k h1 h2 => by
      rcases hFA k h1 with h | h
      · exact h
      · omega
    have hD4 := (unhide HD3).fram hfr (unhide HNB) (unhide HNF)
    have HF2 := hide (unhide HJN w4 FA hpA hb4)
    have HD4 := hide hD4
    have HB4 := hide hb4
    have HPA := hide hpA
    have HNOA := hide hnoA
    have HOA := hide hoA
    have HNA := hide hnA
    clear hoA hpA hFA hnA hfr hb4 hnoA hD4
    go_wp2_with fail
    go_at_call 14
    refine (unhide HF2).mono ?_
    rintro e w5 ⟨aB, cB, FB, rfl, hoB, hpB, hFB, hnB, hfr⟩
    have hb5 := (unhide HB4).trans ((unhide HS).base (unhide HPA) hfr (unhide HB4).size)
    have hD5 := (unhide HD4).fram hfr (fun h => unhide HNB (unhide HNOA _ h hs23)) (fun k hk h => unhide HNF k hk (unhide HNOA k h (unhide HROW k hk)))
    have hA5 := hfr.own (unhide HOA) (unhide HNA)
    have HB5 := hide hb5
    have HSA := hide (fun q => same_quiet c aA a cA cap _ _ w5 hA5 hD5.row (by omega) q)
    have HSB := hide (fun q => same_quiet c aB a cB cap _ _ w5 hoB hD5.row (by omega) q)
    obtain ⟨p0, p1, p2⟩ := hD5.blk.two
    have HC := hide (unhide HC0)
    clear hoB hpB hFB hnB hfr hb5 hD5 hA5 q0 q1 q2
    by_cases h0 : t.size = 0
    · have hc0 : c.length = 0 := (unhide HC0).2 h0
      have dte := isEmpty_of h0
      have dc0 : ((c.length : Int) == 0) = true := by simp [hc0]
      clear h0 hc0
      go_wp2_with fail
      go_at_call 15
      refine (unhide HSA 0).mono ?_
      rintro e w' ⟨rfl, n9, rfl⟩
      go_wp2_with fail
      go_at_call 15
      refine (unhide HSB n9).mono ?_
      rintro e w' ⟨rfl, n8, rfl⟩
      go_wp2
      go_ret
      exact ⟨rfl, below_drawn (unhide HB5) _⟩
    · have hc0 : ¬ c.length = 0 := fun h => h0 ((unhide HC0).1 h)
      have dte := notEmpty_of h0
      have dc0 : ((c.length : Int) == 0) = false := by simpa using hc0
      clear h0 hc0
      go_wp2_with fail
      go_at_call 15
      refine (unhide HSA 0).mono ?_
      rintro e w' ⟨rfl, n9, rfl⟩
      go_wp2_with fail
      go_at_call 15
      refine (unhide HSB n9).mono ?_
      rintro e w' ⟨rfl, n8, rfl⟩
      go_wp2
      go_ret
      exact ⟨rfl, below_drawn (unhide HB5) _⟩
end Go.Proofs.YtbppbejigedioabGreatDoor
/- The law Pieces: its second form's row and card. -/
namespace Go.Proofs.YtbppbejigedioabGreatDoor
open Go.ChangeShapes Go.WideShapes Go.ChangeAt Go.RowKit

theorem upto_pieces {H : Type} {x0 x1 : ByteArray} {d : DataW H} (h : Rows.uptoSmall H [.lit (.string x0.data.toList), .lit (.string x1.data.toList), d] = true) : x0.size + x1.size + Rows.uptoBulk d ≤ 1048576 := by
  have h2 : Rows.uptoBulkAll (H := H) [.lit (.string x0.data.toList), .lit (.string x1.data.toList), d] ≤ 1048576 := of_decide_eq_true h
  simp only [Rows.uptoBulkAll, Rows.uptoBulk] at h2
  rw [len_toList, len_toList] at h2
  omega

theorem reads_pieces (os : Os) {H : Type} (enc : TypeId × Value → H) : ∃ places, DataW.whole enc Tryz.prog ((laidOf4 (World.holding Tryz.prog os ⟨#[], #[], []⟩)).forCall (fun _ _ => 0) ⟨#[], #[.string ⟨#[]⟩, .string ⟨#[]⟩, .slice none 0 0], []⟩).memory Tryz.f4.params.toList Rows.piecesSpec.vars false #[Value.string ⟨#[]⟩, Value.string ⟨#[]⟩, Value.slice none 0 0].toList 8 = some ([.lit (.string []), .lit (.string []), .nil], [], places) :=
  ⟨[], by kernel_rfl⟩

set_option maxRecDepth 100000 in
theorem pieces_contract (PS : Nat → PSt) (hS : Streamy PS) (hO : Opens PS) (H : Type) (enc : TypeId × Value → H) (W : World) (base : Nat) (args : Array Value) (ds gs : List (DataW H)) (before : List MemPlace)
    (hval : ∀ (j : Nat) t v, Tryz.f4.params[j]? = some t → args[j]? = some v → Value.okWide Tryz.prog W .any base t v)
    (hW : DataW.Whole enc Tryz.prog Tryz.f4.params.toList Rows.piecesSpec.vars false W args.toList ds gs before) (hk : Rows.uptoSmall H (ds ++ gs) = true) (hL : laidMetH Tryz.prog lay4 W) :
    Calls Tryz.prog 4 args W fun e W' => ∃ v, e = .returned v ∧ Rows.piecesSpec.post enc Tryz.prog Tryz.f4 false true false false W args v W' := by
  have hW' := hW
  obtain ⟨p, q, hA0, hV, rfl, hfz, hnd⟩ := hW
  have hA : DataW.TrodAll enc Tryz.prog W 0 (fun _ => true) true Tryz.f4.params.toList args.toList ds p := hA0
  rw [Tryz.params4] at hA hval
  obtain ⟨v0, vs0, d0, ds0, p0, q0, hargs0, rfl, rfl, h0, r0⟩ := trodAll_cons hA
  obtain ⟨v1, vs1, d1, ds1, p1, q1, hargs1, rfl, rfl, h1, r1⟩ := trodAll_cons r0
  obtain ⟨v2, vs2, d2, ds2, p2, q2, hargs2, rfl, rfl, h2, r2⟩ := trodAll_cons r1
  obtain ⟨rfl, rfl, rfl⟩ := trodAll_nil r2
  obtain rfl : args = #[v0, v1, v2] := by cases args; simp_all
  obtain ⟨rfl, rfl⟩ := trodVars_none hV
  have hlt2 : ∀ x ∈ p2, x.block < W.heap.size := fun x hx => DataW.TrodAll.lt hA x (by simp [hx])
  obtain ⟨x0, rfl, rfl, rfl, g0⟩ := Go.ChangeMaps.open_string Tryz.underlying9 (hval 0 9 v0 rfl rfl) h0
  obtain ⟨x1, rfl, rfl, rfl, g1⟩ := Go.ChangeMaps.open_string Tryz.underlying9 (hval 1 9 v1 rfl rfl) h1
  obtain ⟨a, zs, cap, rfl, hin, hbulk⟩ := open_nums (hval 2 30 v2 rfl rfl) h2
  clear hA0
  have hsz := upto_pieces hk
  refine (pieces_walk PS hS hO x0 x1 zs a cap W (by omega) (by omega) (by omega) (env_of_laid hL) hin).mono fun e W' ⟨he, hb⟩ => ?_
  subst he
  exact ⟨_, rfl, _, _, _, [], p2, [], hW', trodAll_cons_mk (shut_bool Tryz.underlying4 _) trodAll_mk0, (by
    have ha := trodAll_cons_mk (Go.ChangeMaps.shut_string Tryz.underlying9 g0) (trodAll_cons_mk (Go.ChangeMaps.shut_string Tryz.underlying9 g1) (trodAll_cons_mk (Below.trod laidOut rec_ints lt_ints h2 hb hlt2) (trodAll_mk0 (enc := enc) (P := Tryz.prog))))
    simp only [List.nil_append, List.append_nil] at ha
    exact ha), rfl, hb.frame _, fun h => by cases h⟩
set_option maxRecDepth 100000 in
theorem pieces_lifted (PS : Nat → PSt) (hS : Streamy PS) (hO : Opens PS) (os : Os) (started : os.Started) (H : Type) (enc : TypeId × Value → H) (I : Stop.Interp) :
    ReturnsInHanded {} Tryz.checked os 4 .any ((Rows.OpenSpec.upto Rows.piecesSpec).preRow enc Tryz.prog Tryz.f4 Rows.piecesUptoRow.domain false Rows.piecesUptoRow.laid) (((Rows.OpenSpec.upto Rows.piecesSpec).at I).post enc Tryz.prog Tryz.f4 false true false false) := by
  obtain ⟨places, hx⟩ := reads_pieces os enc
  refine returnsInHanded_of_row (C := Tryz.checked) (s := Rows.OpenSpec.upto Rows.piecesSpec) own started (by kernel_rfl) Tryz.func4
    (witness_row_at (enc := enc) (C := Tryz.checked) false (laidOf4 (World.holding Tryz.prog os ⟨#[], #[], []⟩)) #[.string ⟨#[]⟩, .string ⟨#[]⟩, .slice none 0 0] rfl (by kernel_rfl) (by kernel_rfl) (by kernel_rfl)
      (OpenSpec.preRow_of_cond 8 hx (by kernel_rfl) (fun k hk => by cases hk; kernel_rfl) (by kernel_rfl) (laid_met4 os _))) ?_
  intro W base args ds gs before hval hW _ hcond _ hL _ _
  exact pieces_contract PS hS hO H enc W base args ds gs before hval hW (hcond _ rfl) hL

theorem pieces_said (PS : Nat → PSt) (hS : Streamy PS) (hO : Opens PS) : Rows.PiecesUptoSaid :=
  OpenClaim.holds_of_cond 4 Tryz.f4 rfl rfl rfl rfl rfl rfl rfl ⟨rfl, rfl, rfl, rfl, rfl⟩ rfl rfl rfl rfl rfl (by kernel_rfl) Tryz.func4 (by kernel_rfl)
    (of_decide_eq_true (by kernel_rfl)) (by unfold Func.isWrapper; first | (rw [if_pos (by decide +kernel)]; kernel_rfl) | (rw [if_neg (by decide +kernel)]; exact ⟨rfl, rfl⟩))
    (fun os started H enc _ I => by rw [OpenClaim.pre_eq_preRow]; exact pieces_lifted PS hS hO os started H enc I)

theorem pieces_plain (f : FuncId) (fn : Func) (hf : Tryz.pinned.checked.prog.funcNamed "cutter/cutterlaw.Pieces" = some f) (hfn : Tryz.pinned.checked.prog.funcs[f]? = some fn) :
    true = Tryz.pinned.checked.prog.looks [] ∧ ∀ (j : Nat) t, fn.params[j]? = some t → Tryz.pinned.checked.prog.wantsStandIn t = false := by
  obtain rfl : f = 4 := Option.some.inj ((show Tryz.prog.funcNamed "cutter/cutterlaw.Pieces" = some 4 by kernel_rfl).symm.trans hf) |>.symm
  obtain rfl : fn = Tryz.f4 := (Option.some.inj (Tryz.func4.symm.trans hfn)).symm
  refine ⟨by kernel_rfl, fun j t ht => ?_⟩
  rw [Tryz.params4] at ht
  have hm := Array.mem_of_getElem? ht
  simp only [List.mem_toArray, List.mem_cons, List.not_mem_nil, or_false] at hm
  rcases hm with rfl | rfl | rfl
  · exact (show Tryz.prog.wantsStandIn 9 = false by kernel_rfl)
  · exact (show Tryz.prog.wantsStandIn 9 = false by kernel_rfl)
  · exact (show Tryz.prog.wantsStandIn 30 = false by kernel_rfl)

/-- The tied card of the law Pieces, its second form. -/
theorem pieces_card (PS : Nat → PSt) (hS : Streamy PS) (hO : Opens PS) : Rows.PiecesUptoCardSaid :=
  holds_tied_goes .later _ _ _ _ (pieces_said PS hS hO) (by kernel_rfl) piecesUpto_row_tie rfl ⟨rfl, rfl⟩ (by kernel_rfl) rfl pieces_plain (by kernel_rfl)
/-- The law's card at this program. -/
theorem pieces_holds : Rows.PiecesUptoCardSaid := pieces_card PS ps_streamy popen_any
#print axioms pieces_holds
end Go.Proofs.YtbppbejigedioabGreatDoor
