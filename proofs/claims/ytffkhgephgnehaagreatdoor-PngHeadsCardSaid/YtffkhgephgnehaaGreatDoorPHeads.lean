/-
Proves: for any head PngHeads tells true, and leaves all that was there as it was.
-/
import Derived.Test.YtffkhgephgnehaaGreatDoorPgC
import Derived.Test.YtffkhgephgnehaaGreatDoorMZlX
namespace Go.Proofs.YtffkhgephgnehaaGreatDoor.pheads
open Go Go.RowKit Go.ChangeShapes Go.WideShapes Go.ChangeAt
set_option maxRecDepth 100000 in
set_option maxHeartbeats 8000000 in
theorem core (a b d c l : Int) (w : World) (hT : Tab w) :
 Calls Tryz.prog 5 #[.agg #[.int .i64 a,.int .i64 b,.int .i64 d,.int .i64 c,.int .i64 l]] w fun e w'=>e = .returned (.bool true) /\ Only [] w w':=by
 have o1:=(Only.refl [] w).alloc (.cells #[.int .i64 a,.int .i64 b,.int .i64 d,.int .i64 c,.int .i64 l] 33)
 have h1:=Has.new w 33 #[.int .i64 a,.int .i64 b,.int .i64 d,.int .i64 c,.int .i64 l]
 have HK:=hide (knownP_any _ (hT.only o1 (by simp)))
 have HP:=hide (fun x : World=>pCheck_any a b d c l x)
 have HR:=hide (fun x : World=>rCheck_any a b d c l x)
 have HS:=hide (fun x : World=>(pSamples_any c x).mono (R':=fun e w'=>e = .returned (.int .i64 (smpV c)) /\ Only [] x w') fun e w' h=>⟨h.1,by rw [h.2]; exact Only.refl _ _⟩)
 have HT:=hide (fun x : World=>(rSamples_any c x).mono (R':=fun e w'=>e = .returned (.int .i64 (smpV c)) /\ Only [] x w') fun e w' h=>⟨h.1,by rw [h.2]; exact Only.refl _ _⟩)
 generalize chkV a b d c l = E at *
 generalize smpV c = s at *
 have H1:=hide (aI o1 h1)
 clear o1 h1 hT
 go_enter Tryz.func5,Tryz.ntmps5
 go_wp2_with fail
 refine (HK.out).mono ?_
 rintro e w2 ⟨rfl,ho2⟩
 have h2:=H1.out.2.only ho2 (by simp)
 have H2:=hide (H1.out.1.trans ho2 (S:=[]) (by simp))
 clear ho2
 go_wp2_with fail
 have n0:=later_cell (show World.cell? w2 ⟨w.heap.size,0,none⟩ = some (.int .i64 a) from h2.cell 0)
 have n1:=later_cell (show World.cell? w2 ⟨w.heap.size,1,none⟩ = some (.int .i64 b) from h2.cell 1)
 have n2:=later_cell (show World.cell? w2 ⟨w.heap.size,2,none⟩ = some (.int .i64 d) from h2.cell 2)
 have n3:=later_cell (show World.cell? w2 ⟨w.heap.size,3,none⟩ = some (.int .i64 c) from h2.cell 3)
 have n4:=later_cell (show World.cell? w2 ⟨w.heap.size,4,none⟩ = some (.int .i64 l) from h2.cell 4)
 clear h2
 refine region_later_tail 14 (by kernel_rfl) (by kernel_rfl) ?_
 simp only [List.take_succ_cons,List.take_zero,List.drop_succ_cons,List.drop_zero]
 iterate 1 (go_big_quiet_step (fail))
 go_big_quiet_step ((go_at_call 15; refine later_of (HP.out _)))
 iterate 1 (go_big_quiet_step (fail))
 go_big_quiet_step ((go_at_call 16; refine later_of (HR.out _)))
 iterate 4 (go_big_quiet_step (fail))
 go_big_quiet_step ((go_at_call 17; refine later_of (HS.out _)))
 iterate 2 (go_big_quiet_step (fail))
 go_big_quiet_step ((go_at_call 18; refine later_of (HT.out _)))
 iterate 2 (go_big_quiet_step (fail))
 refine wpQuiet_nil ?_
 rintro _ ⟨X,rfl⟩
 change wpList _ _ _ _ _ X.val
 have HX:=hide (H2.out.trans X.only (S:=[]) (by simp))
 go_wp2_with fail
 go_ret
 exact ⟨rfl,HX.out⟩
set_option maxRecDepth 100000 in
theorem lifted (os : Os) (started : os.Started) (H : Type) (enc : TypeId × Value -> H) :
 ReturnsInHanded {} Tryz.checked os 5 .any (fun w args=>(Rows.pngHeadsSpec.pre enc Tryz.prog Tryz.f5 [] false w args /\ laidMetH Tryz.prog laidI w) /\ sizedMet enc Tryz.prog Tryz.f5 (OpenSpec.ofChange Rows.pngHeadsSpec) false w args)
  (Rows.pngHeadsSpec.post enc Tryz.prog Tryz.f5 false true false false):=by
 refine returnsInHanded_of_change_and (C:=Tryz.checked) (X:=fun w _=>laidMetH Tryz.prog laidI w) (fun _ _ _ hh h=>h.of_heap hh) own_knob started (by kernel_rfl) Tryz.func5
  (ChangeSpec.witness_shaped (enc:=enc) (C:=Tryz.checked) (os:=os) (X:=fun w _=>laidMetH Tryz.prog laidI w) false (World.doorLaid Tryz.prog 400 os) #[.agg #[.int .i64 0,.int .i64 0,.int .i64 0,.int .i64 0,.int .i64 0]] 8 rfl (World.shaped_of_RefB (by kernel_rfl) (by kernel_rfl)) (by kernel_rfl) (by kernel_rfl) (by kernel_rfl) (door_met os _)) ?_
 intro W base args ds gs before hval0 hW _ _ hL _
 have hval : ∀ (j : Nat) t v,Tryz.f5.params[j]? = some t -> args[j]? = some v -> Value.okWide Tryz.prog W .any base t v:=hval0
 have hW':=hW
 obtain ⟨p,q,hA0,hV,rfl,hfz,hnd⟩:=hW
 have hA : DataW.TrodAll enc Tryz.prog W 0 (fun _=>true) true Tryz.f5.params.toList args.toList ds p:=hA0
 rw [Tryz.params5] at hA hval
 obtain ⟨v0,vs0,d0,ds0,p0,q0,hargs,rfl,rfl,h0,r0⟩:=trodAll_cons hA
 obtain ⟨rfl,rfl,rfl⟩:=trodAll_nil r0
 obtain rfl : args = #[v0]:=by cases args; simp_all
 obtain ⟨a,b,d,c,l,rfl⟩:=open_head (hval 0 33 v0 rfl rfl) h0
 refine (core a b d c l W (tab_of_laid hL)).mono fun e W' ⟨he,ho⟩=>?_
 subst he
 exact ⟨_,rfl,law_post rfl hW' (by intro t ht; revert t; exact of_decide_eq_true (by kernel_rfl)) rfl rfl ho⟩
theorem holds : Rows.PngHeadsSaid :=
 OpenClaim.holds_of_wide 5 Tryz.f5 rfl rfl rfl rfl rfl rfl rfl ⟨rfl,rfl,rfl,rfl,rfl⟩ rfl rfl rfl rfl rfl (by kernel_rfl) Tryz.func5 (by kernel_rfl)
  (of_decide_eq_true (by kernel_rfl)) (by unfold Func.isWrapper; first | (rw [if_pos (by decide +kernel)]; kernel_rfl) | (rw [if_neg (by decide +kernel)]; exact ⟨rfl,rfl⟩))
  (fun os started H enc _=>lifted os started H enc)
theorem proved : Rows.PngHeadsCardSaid :=
 Claim7.holds_tied_plain_at .later [] Rows.pngHeadsCard.laidKinds true Rows.pngHeadsCard.stood.harness false
  holds (fun _ h=>by cases h) (by kernel_rfl) (fun _ h=>by cases h) pngHeads_row_tie rfl ⟨rfl,rfl⟩ (by kernel_rfl) rfl
  (fun f fn hf hfn=>by
    obtain rfl : f = 5:=Option.some.inj ((show Tryz.prog.funcNamed "phosphor/phosphorlaw9.PngHeads" = some 5 by kernel_rfl).symm.trans hf) |>.symm
    obtain rfl : fn = Tryz.f5:=(Option.some.inj (Tryz.func5.symm.trans hfn)).symm
    exact ⟨by kernel_rfl,fun j t ht=>by
     rw [Tryz.params5] at ht
     have hm : t ∈ [33]:=by simpa using Array.mem_of_getElem? ht
     have hall : ([33].all fun u=>!Tryz.prog.wantsStandIn u) = true:=by kernel_rfl
     exact (show Tryz.prog.wantsStandIn t = false by simpa using List.all_eq_true.1 hall t hm)⟩)
  (by kernel_rfl)
end Go.Proofs.YtffkhgephgnehaaGreatDoor.pheads
