/- PROVED: for every two scripts, however long: drive.Play's answer to the one (with a byte 10 behind it) and the other one behind that begins with its answer to the one (the law pollardingkeep.DriveOn returns true, and the arguments read as before). The tied card: five variables of the standard library hold what the program's text lays in them. -/
import Derived.Test.YtblkkhfdeaaidaaGreatDoorDrAwAndLawDO
import Derived.Test.YtblkkhfdeaaidaaGreatDoorTie
import Derived.Test.YtblkkhfdeaaidaaGreatDoorCards
import Derived.ProofKit
import Derived.LaidMore
import Derived.OpenShut
import Derived.JoinedOf
import Derived.Stop.Joined
import Derived.Stop.LaidErr
import Derived.Lib.SmallJoins
import Derived.Lib.LaidTab
import Derived.SizedLaws
import Derived.SevenTiedAt
import Derived.ChangeMaps5
set_option maxRecDepth 100000
namespace Go.Proofs.YtblkkhfdeaaidaaGreatDoor
open Go.ChangeShapes Go.WideShapes Go.ChangeAt Go.WideMaps Go.WideElems Go.RowKit
theorem afC:ownKnob Tryz.prog.godebug=none:=by kernel_rfl
theorem WJ:laidOutB Tryz.prog=true:=by kernel_rfl
theorem WK: "*" ++ "errors.errorString" = "*errors.errorString" :=by decide
theorem WL(u:TypeId)(h:Tryz.prog.typeName? 3 u=some "*errors.errorString"):u=275:=
 typeName_ptr_named (nm:= "errors.errorString") (by rw[WK];kernel_rfl) (by kernel_rfl) (by decide) u (by rw[WK];exact h)
def Ca:List (String×DataW Unit):=[("math/bits.deBruijn32tab",Rows.laid_math_bits_deBruijn32tab),("math/bits.deBruijn64tab",Rows.laid_math_bits_deBruijn64tab),("internal/strconv.uint64pow10",Rows.laid_internal_strconv_uint64pow10),("strconv.ErrRange",Rows.laid_strconv_ErrRange),("strconv.ErrSyntax",Rows.laid_strconv_ErrSyntax)]
theorem NJ{P:Program}{W w':World}{n:String}{cs:Array Value}(h:W.var? P n=some cs)(hk:∀k,k<W.heap.size->w'.heap[k]?=W.heap[k]?):w'.var? P n=some cs:=by
 unfold World.var? at h⊢;cases hg:P.globalNamed n with
 |none=>simp[hg]at h
 |some g=>
  simp only[hg,Option.bind_some]at h⊢
  have hlt:g<W.heap.size:=by
   rcases Nat.lt_or_ge g W.heap.size with h'|h'
   ·exact h'
   ·simp[Array.getElem?_eq_none h']at h
  rw[hk g hlt];exact h
theorem afD{W:World}(hL:laidMet Tryz.prog Ca W):cB W.heap.size W:=by
 have t3:Lib.TabIs Tryz.prog W "internal/strconv.uint64pow10" .u64 Lib.pow10Tab:=
  Lib.tabIs_of_head (g:=(Tryz.prog.globalNamed "internal/strconv.uint64pow10").getD 0) (by kernel_rfl) (by kernel_rfl) Tryz.underlying240 Tryz.underlying214 (by kernel_rfl) (by kernel_rfl) hL.tail.tail
 obtain⟨a4,s4,v4,-⟩:=laid_sentinel (g:=Tryz.atoi_ren.g 16) hL.tail.tail.tail (by kernel_rfl) (by kernel_rfl) Tryz.underlying38 WL Tryz.underlying275 Tryz.underlying277 rfl rfl Tryz.underlying9 (by kernel_rfl) (by kernel_rfl);obtain⟨a5,s5,v5,-⟩:=laid_sentinel (g:=Tryz.atoi_ren.g 15) hL.tail.tail.tail.tail (by kernel_rfl) (by kernel_rfl) Tryz.underlying38 WL Tryz.underlying275 Tryz.underlying277 rfl rfl Tryz.underlying9 (by kernel_rfl) (by kernel_rfl);intro w' hk;exact⟨NJ t3 hk,⟨_,World.var?_cell (by kernel_rfl) (NJ v5 hk) 0,.inr ⟨_,_,rfl⟩⟩,⟨_,World.var?_cell (by kernel_rfl) (NJ v4 hk) 0,.inr ⟨_,_,rfl⟩⟩⟩
theorem afE(os:Os)(args:Array Value):laidMetH Tryz.prog Ca ((World.doorLaid Tryz.prog 400 os).forCall (fun _ _=>0) ⟨#[],args,[]⟩).memory:=
 laidMetH_of_parts3 (fuel:=8) (laidMet_of_run' 8 (by kernel_rfl) (by kernel_rfl)) (by kernel_rfl) (by kernel_rfl)
theorem afF(H:Type)(enc:TypeId×Value->H)(W:World)(base:Nat)(args:Array Value)(ds gs:List (DataW H))(before:List MemPlace)
 (hval:∀(j:Nat) t v,Tryz.f3.params[j]?=some t->args[j]?=some v->Value.okWide Tryz.prog W .any base t v)
 (hW:DataW.Whole enc Tryz.prog Tryz.f3.params.toList Rows.driveOnSpec.vars false W args.toList ds gs before)
 (hz:(DataW.weightsEach Tryz.prog (Tryz.f3.params.toList++Rows.driveOnSpec.plain.varTypes Tryz.prog) (ds++gs)).all (· <=reachBytes)=true) (hL:laidMet Tryz.prog Ca W):
 Calls Tryz.prog 3 args W fun e W'=> ∃v,e= .returned v/\Rows.driveOnSpec.post enc Tryz.prog Tryz.f3 false true false false W args v W':=by
 have hW':=hW;obtain⟨p,q,AU,hV,rfl,hfz,hnd⟩:=hW;have hA:DataW.TrodAll enc Tryz.prog W 0 (fun _=>true) true Tryz.f3.params.toList args.toList ds p:=AU;rw[Tryz.params3 ]at hA hval hz;obtain⟨v0,vs0,d0,ds0,p0,q0,hargs,rfl,rfl,h0,r0⟩:=trodAll_cons hA;obtain⟨v1,vs1,d1,ds1,p1,q1,rfl,rfl,rfl,h1,r1⟩:=trodAll_cons r0;obtain⟨rfl,rfl,rfl⟩:=trodAll_nil r1;obtain rfl:args= #[v0,v1]:=by cases args;simp_all
 obtain⟨rfl,rfl⟩:=trodVars_none hV;have k0:=h0;have k1:=h1;have lt0:∀x∈p0,x.block<W.heap.size:=by obtain⟨m,hm⟩:=k0;exact DataW.trod_lt m _ _ _ hm
 have lt1:∀x∈p1,x.block<W.heap.size:=by obtain⟨m,hm⟩:=k1;exact DataW.trod_lt m _ _ _ hm
 obtain⟨b0,rfl,e0,_,_⟩:=Go.ChangeMaps.open_string Tryz.underlying9 (hval 0 9 v0 rfl rfl) h0;obtain⟨b1,rfl,e1,_,_⟩:=Go.ChangeMaps.open_string Tryz.underlying9 (hval 1 9 v1 rfl rfl) h1;clear AU;have z0:b0.data.toList.length<=reachBytes:=sized_string hz (j:=0) (t:=9) rfl (by rw[e0];rfl);have z1:b1.data.toList.length<=reachBytes:=sized_string hz (j:=1) (t:=9) rfl (by rw[e1];rfl);have hr:reachBytes=140737488351232:=rfl;have run:=afB (w:=W) (a:=b0.data.toList) (b:=b1.data.toList) (afD hL) (Nat.le_refl _) (by omega) (by omega);rw[show (⟨b0.data.toList.toArray⟩:ByteArray)=b0 by simp,show (⟨b1.data.toList.toArray⟩:ByteArray)=b1 by simp]at run;refine run.mono fun e W' ⟨he,NK⟩=> ?_;subst he
 exact⟨_,rfl,_,_,_,[],_,[],hW',trodAll_mk1 (shut_bool Tryz.underlying4 _),
  trodAll_cons_mk (Below.trod WJ (by kernel_rfl) (of_decide_eq_true (by kernel_rfl)) k0 NK lt0) (trodAll_cons_mk (Below.trod WJ (by kernel_rfl) (of_decide_eq_true (by kernel_rfl)) k1 NK lt1) trodAll_mk0),rfl,NK.frame _,fun h=>by cases h⟩
theorem afG(os:Os)(started:os.Started)(H:Type)(enc:TypeId×Value->H):
 ReturnsInHanded {} Tryz.checked os 3 .any (fun w args=>(Rows.driveOnSpec.pre enc Tryz.prog Tryz.f3 [] false w args/\laidMetH Tryz.prog Ca w)/\sizedMet enc Tryz.prog Tryz.f3 (OpenSpec.ofChange Rows.driveOnSpec) false w args)
  (Rows.driveOnSpec.post enc Tryz.prog Tryz.f3 false true false false):=by
 refine returnsInHanded_of_change_and (C:=Tryz.checked) (X:=fun w _=>laidMetH Tryz.prog Ca w) (fun _ _ _ hh h=>h.of_heap hh) afC started (by kernel_rfl) Tryz.func3
  (ChangeSpec.witness_shaped (enc:=enc) (C:=Tryz.checked) (os:=os) (X:=fun w _=>laidMetH Tryz.prog Ca w) false (World.doorLaid Tryz.prog 400 os) #[.string ⟨#[]⟩,.string ⟨#[]⟩] 8 rfl (World.shaped_of_RefB (by kernel_rfl) (by kernel_rfl)) (by kernel_rfl) (by kernel_rfl) (by kernel_rfl) (afE os _)) ?_
 intro W base args ds gs before hval hW _ hz hL _;exact afF H enc W base args ds gs before hval hW hz hL
theorem afH:Rows.DriveOnSaid:=
 OpenClaim.holds_of_wide 3 Tryz.f3 rfl rfl rfl rfl rfl rfl rfl ⟨rfl,rfl,rfl,rfl,rfl⟩ rfl rfl rfl rfl rfl (by kernel_rfl) Tryz.func3 (by kernel_rfl)
  (of_decide_eq_true (by kernel_rfl)) (by unfold Func.isWrapper;first|(rw[if_pos (by decide+kernel)];kernel_rfl)|(rw[if_neg (by decide+kernel)];exact⟨rfl,rfl⟩))
  (fun os started H enc _=>afG os started H enc)
theorem driveOn_proved:Rows.DriveOnCardSaid:=
 Claim7.holds_tied_plain_at .later [] [.data,.data,.data,.sentinel,.sentinel] true Rows.driveOnCard.stood.harness true
  afH (fun _ h=>by cases h) (by kernel_rfl) (fun _ h=>by cases h) driveOn_row_tie rfl ⟨rfl,rfl⟩ (by kernel_rfl) rfl
  (fun f fn hf hfn=>by
    obtain rfl:f=3:=Option.some.inj ((show Tryz.prog.funcNamed "pollarding/pollardingkeep.DriveOn" =some 3 by kernel_rfl).symm.trans hf)|>.symm;obtain rfl:fn=Tryz.f3:=(Option.some.inj (Tryz.func3.symm.trans hfn)).symm
    exact⟨by kernel_rfl,fun j t ht=>by
     rw[Tryz.params3 ]at ht;have hm:t∈[9,9]:=by simpa using Array.mem_of_getElem? ht
     have hall:([9,9].all fun u=> !Tryz.prog.wantsStandIn u)=true:=by kernel_rfl
     exact(show Tryz.prog.wantsStandIn t=false by simpa using List.all_eq_true.1 hall t hm)⟩)
  (by kernel_rfl)
#print axioms driveOn_proved
end Go.Proofs.YtblkkhfdeaaidaaGreatDoor
