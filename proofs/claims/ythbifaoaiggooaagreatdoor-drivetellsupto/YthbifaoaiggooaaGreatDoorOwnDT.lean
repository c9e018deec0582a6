/- PROVED: for every script of at most 1048575 bytes: drive.Play answers it line by line just what the layers answer (the law pollardingkeep.DriveTells returns true, and the argument reads as before). The tied card: five variables of the standard library hold what the program's text lays in them.
   CONDITION: the argument is of bulk at most 1048576 (the statement's own bound): beyond it the reference's slice of lines may take more bytes than the model's memory bears. -/
import Derived.Test.YthbifaoaiggooaaGreatDoorq27
import Derived.Test.YthbifaoaiggooaaGreatDoorTie
import Derived.Test.YthbifaoaiggooaaGreatDoorCards
import Derived.ProofKit
import Derived.LaidMore
import Derived.OpenShut
import Derived.JoinedOf
import Derived.JoinedCond
import Derived.Stop.Joined
import Derived.Stop.LaidErr
import Derived.Lib.SmallJoins
import Derived.Lib.LaidTab
import Derived.Deep.DeepHandedRow
import Derived.Deep.DeepWitnessRowRef
import Derived.SevenTiedAt
import Derived.ChangeMaps5
set_option maxRecDepth 100000
namespace Go.Proofs.YthbifaoaiggooaaGreatDoor
open Go.ChangeShapes Go.WideShapes Go.ChangeAt Go.WideMaps Go.WideElems Go.RowKit
theorem ai2:ownKnob Tryz.prog.godebug=none:=by kernel_rfl
theorem ai3:laidOutB Tryz.prog=true:=by kernel_rfl
theorem aaJ: "*" ++ "errors.errorString" = "*errors.errorString" :=by decide
theorem aaK(u:TypeId)(h:Tryz.prog.typeName? 3 u=some "*errors.errorString"):u=294:=
 typeName_ptr_named (nm:= "errors.errorString") (by rw[aaJ];kernel_rfl) (by kernel_rfl) (by decide) u (by rw[aaJ];exact h)
def RY:List (String×DataW Unit):=[("math/bits.deBruijn32tab",Rows.laid_math_bits_deBruijn32tab),("math/bits.deBruijn64tab",Rows.laid_math_bits_deBruijn64tab),("internal/strconv.uint64pow10",Rows.laid_internal_strconv_uint64pow10),("strconv.ErrRange",Rows.laid_strconv_ErrRange),("strconv.ErrSyntax",Rows.laid_strconv_ErrSyntax)]
theorem RZ{P:Program}{W w':World}{n:String}{cs:Array Value}(h:W.var? P n=some cs)(hk:∀k,k<W.heap.size->w'.heap[k]?=W.heap[k]?):w'.var? P n=some cs:=by
 unfold World.var? at h⊢;cases hg:P.globalNamed n with
 |none=>simp[hg]at h
 |some g=>
  simp only[hg,Option.bind_some]at h⊢
  have hlt:g<W.heap.size:=by
   rcases Ac g W.heap.size with h'|h'
   ·exact h'
   ·simp[Array.getElem?_eq_none h']at h
  rw[hk g hlt];exact h
theorem ai4{W:World}(hL:laidMet Tryz.prog RY W):dR W.heap.size W:=by
 have t3:Lib.TabIs Tryz.prog W "internal/strconv.uint64pow10" .u64 Lib.pow10Tab:=
  Lib.tabIs_of_head (g:=(Tryz.prog.globalNamed "internal/strconv.uint64pow10").getD 0) (by kernel_rfl) (by kernel_rfl) Tryz.underlying260 Tryz.underlying234 (by kernel_rfl) (by kernel_rfl) hL.tail.tail
 obtain⟨a4,s4,v4,-⟩:=laid_sentinel (g:=Tryz.atoi_ren.g 16) hL.tail.tail.tail (by kernel_rfl) (by kernel_rfl) Tryz.underlying54 aaK Tryz.underlying294 Tryz.underlying296 rfl rfl Tryz.underlying9 (by kernel_rfl) (by kernel_rfl);obtain⟨a5,s5,v5,-⟩:=laid_sentinel (g:=Tryz.atoi_ren.g 15) hL.tail.tail.tail.tail (by kernel_rfl) (by kernel_rfl) Tryz.underlying54 aaK Tryz.underlying294 Tryz.underlying296 rfl rfl Tryz.underlying9 (by kernel_rfl) (by kernel_rfl);intro w' hk;exact⟨RZ t3 hk,⟨_,World.var?_cell (by kernel_rfl) (RZ v5 hk) 0,.inr ⟨_,_,rfl⟩⟩,⟨_,World.var?_cell (by kernel_rfl) (RZ v4 hk) 0,.inr ⟨_,_,rfl⟩⟩⟩
theorem ai5(os:Os)(args:Array Value):laidMetH Tryz.prog RY ((World.doorLaid Tryz.prog 400 os).forCall (λ_ _=>0) ⟨#[],args,[]⟩).memory:=
 laidMetH_of_parts3 (fuel:=8) (laidMet_of_run' 8 (by kernel_rfl) (by kernel_rfl)) (by kernel_rfl) (by kernel_rfl)
theorem ai6(H:Type)(enc:TypeId×Value->H)(W:World)(base:Nat)(args:Array Value)(ds gs:List (DataW H))(before:List MemPlace)
 (hval:∀(j:Nat) t v,Tryz.f3.params[j]?=some t->args[j]?=some v->Value.okWide Tryz.prog W .any base t v)
 (hW:DataW.Whole enc Tryz.prog Tryz.f3.params.toList Rows.driveTellsSpec.vars false W args.toList ds gs before) (hk:Rows.uptoSmall H (ds++gs)=true) (hL:laidMet Tryz.prog RY W):
 Calls Tryz.prog 3 args W λe W'=> ∃v,e= .returned v/\Rows.driveTellsSpec.post enc Tryz.prog Tryz.f3 false true false false W args v W':=by
 have hW':=hW;obtain⟨p,q,Ev,hV,rfl,hfz,hnd⟩:=hW;have hA:DataW.TrodAll enc Tryz.prog W 0 (λ_=>true) true Tryz.f3.params.toList args.toList ds p:=Ev;rw[Tryz.params3 ]at hA hval;obtain⟨v0,vs0,d0,ds0,p0,q0,hargs,rfl,rfl,h0,r0⟩:=trodAll_cons hA;obtain⟨rfl,rfl,rfl⟩:=trodAll_nil r0;obtain rfl:args= #[v0]:=by cases args;simp_all
 obtain⟨rfl,rfl⟩:=trodVars_none hV;have k0:=h0;have lt0:∀x∈p0,x.block<W.heap.size:=by obtain⟨m,hm⟩:=k0;exact DataW.trod_lt m _ _ _ hm
 obtain⟨b,rfl,hd,_,hb⟩:=Go.ChangeMaps.open_string Tryz.underlying9 (hval 0 9 v0 rfl rfl) h0;clear Ev
 have hs:b.data.toList.length<=1048576:=by
  have h:Rows.uptoBulkAll ([d0]++[])<=1048576:=wX hk;rw[hd]at h;simp only[Rows.uptoBulkAll,Rows.uptoBulk,qp]at h;omega
 have run:=ai1 (w:=W) (ai4 hL) (ah _) hs;rw[show (⟨b.data.toList.toArray⟩:ByteArray)=b by simp]at run;refine run.mono λe W' ⟨he,bel⟩=> ?_;subst he
 exact⟨_,rfl,_,_,_,[],_,[],hW',trodAll_mk1 (shut_bool Tryz.underlying4 _),
  trodAll_cons_mk (Below.trod ai3 (by kernel_rfl) (wX (by kernel_rfl)) k0 bel lt0) trodAll_mk0,rfl,bel.frame _,λh=>by cases h⟩
theorem ai7(os:Os)(started:os.Started)(H:Type)(enc:TypeId×Value->H)(F:Stop.Interp):
 ReturnsInHanded {} Tryz.checked os 3 .any ((Rows.OpenSpec.upto Rows.driveTellsSpec).preRow enc Tryz.prog Tryz.f3 Rows.driveTellsUptoRow.domain false Rows.driveTellsUptoRow.laid) (((Rows.OpenSpec.upto Rows.driveTellsSpec).at F).post enc Tryz.prog Tryz.f3 false true false false):=by
 refine returnsInHanded_of_row (C:=Tryz.checked) (s:=Rows.OpenSpec.upto Rows.driveTellsSpec) ai2 started (by kernel_rfl) Tryz.func3
  (witness_row_atRef (enc:=enc) (C:=Tryz.checked) false (World.doorLaid Tryz.prog 400 os) #[.string ⟨#[]⟩] rfl (by kernel_rfl) (by kernel_rfl) (by kernel_rfl)
    (OpenSpec.preRow_of_cond 8 (x:=([.lit (.string [])],[],[])) (by kernel_rfl) (by kernel_rfl) (λk hk=>by cases hk;kernel_rfl) (by kernel_rfl) (ai5 os _))) ?_
 intro W base args ds gs before hval hW _ hcond _ hL _ _;exact ai6 H enc W base args ds gs before hval hW (hcond _ rfl) hL
theorem ai8:Rows.DriveTellsUptoSaid:=
 OpenClaim.holds_of_cond 3 Tryz.f3 rfl rfl rfl rfl rfl rfl rfl ⟨rfl,rfl,rfl,rfl,rfl⟩ rfl rfl rfl rfl rfl (by kernel_rfl) Tryz.func3 (by kernel_rfl)
  (wX (by kernel_rfl)) (by unfold Func.isWrapper;first|(rw[au (by decide+kernel)];kernel_rfl)|(rw[aj (by decide+kernel)];exact⟨rfl,rfl⟩))
  (λos started H enc _ F=>by rw[OpenClaim.pre_eq_preRow];exact ai7 os started H enc F)
theorem driveTells_proved:Rows.DriveTellsUptoCardSaid:=
 Claim7.holds_tied_plain_at .later [] _ _ _ _ ai8 (λ_ h=>by cases h) (by kernel_rfl) (λ_ h=>by cases h) driveTellsUpto_row_tie rfl ⟨rfl,rfl⟩ (by kernel_rfl) rfl
  (λf fn hf hfn=>by
    obtain rfl:f=3:=yL ((show Tryz.prog.funcNamed "pollarding/pollardingkeep.DriveTells" =some 3 by kernel_rfl).symm.trans hf)|>.symm;obtain rfl:fn=Tryz.f3:=(yL (Tryz.func3.symm.trans hfn)).symm
    exact⟨by kernel_rfl,λj t ht=>by
     rw[Tryz.params3 ]at ht;obtain rfl:t=9:=by simpa using Array.mem_of_getElem? ht
     exact(show Tryz.prog.wantsStandIn 9=false by kernel_rfl)⟩)
  (by kernel_rfl)
#print axioms driveTells_proved
end Go.Proofs.YthbifaoaiggooaaGreatDoor
