/- PROVED: for every grammar, step and tokens, such as may not be among them: where step.Do tells no error and neither parse.Parse of the grammar nor that of what comes of the step tells one, both tell a derivation or none does; and if both derivations have at most 200 rules, step.Forward carries the one over to the other, and step.Back back (the law pollardingkeep.StepParses returns true, and the arguments read as before). No condition. -/
import Derived.Test.YtpkmpkphfflpjaaGreatPrParseAndLawSP
import Derived.Test.YtpkmpkphfflpjaaGreatReadAndReadList
import Derived.ProofKit
import Derived.OpenShut
import Derived.JoinedOf
import Derived.Lib.SmallJoins
set_option maxRecDepth 100000
namespace Go.Proofs.YtpkmpkphfflpjaaGreat
open Go.ChangeShapes Go.WideShapes Go.ChangeAt Go.RowKit
theorem afC:ownKnob Tryz.prog.godebug=none:=by kernel_rfl
theorem Pn:laidOutB Tryz.prog=true:=by kernel_rfl
theorem Tryz.cells24:Tryz.prog.cellsOf 24=3:=by kernel_rfl
theorem Tryz.cells26:Tryz.prog.cellsOf 26=4:=by kernel_rfl
theorem afD(H:Type)(enc:TypeId×Value->H)(W:World)(base:Nat)(args:Array Value)(ds gs:List (DataW H))(before:List MemPlace)
 (hval:∀(j:Nat) t v,Tryz.f3.params[j]?=some t->args[j]?=some v->Value.okWide Tryz.prog W .any base t v)
 (hW:DataW.Whole enc Tryz.prog Tryz.f3.params.toList Rows.stepParsesSpec.vars false W args.toList ds gs before):
 Calls Tryz.prog 3 args W fun e W'=> ∃v,e= .returned v/\Rows.stepParsesSpec.post enc Tryz.prog Tryz.f3 false true false false W args v W':=by
 have hW':=hW;obtain⟨p,q,BU,hV,rfl,hfz,hnd⟩:=hW;have hA:DataW.TrodAll enc Tryz.prog W 0 (fun _=>true) true Tryz.f3.params.toList args.toList ds p:=BU;rw[Tryz.params3 ]at hA hval;obtain⟨v0,vs0,d0,ds0,p0,q0,hargs,rfl,rfl,h0,r0⟩:=trodAll_cons hA;obtain⟨v1,vs1,d1,ds1,p1,q1,rfl,rfl,rfl,h1,r1⟩:=trodAll_cons r0;obtain⟨v2,vs2,d2,ds2,p2,q2,rfl,rfl,rfl,h2,r2⟩:=trodAll_cons r1;obtain⟨rfl,rfl,rfl⟩:=trodAll_nil r2;obtain rfl:args= #[v0,v1,v2]:=by cases args;simp_all
 obtain⟨rfl,rfl⟩:=trodVars_none hV;have k0:=h0;have k1:=h1;have k2:=h2;have lt2:∀x∈p2,x.block<W.heap.size:=by obtain⟨m,hm⟩:=k2;exact DataW.trod_lt m _ _ _ hm
 have lt1:∀x∈p1,x.block<W.heap.size:=by obtain⟨m,hm⟩:=k1;exact DataW.trod_lt m _ _ _ hm
 have lt0:∀x∈p0,x.block<W.heap.size:=by obtain⟨m,hm⟩:=k0;exact DataW.trod_lt m _ _ _ hm
 obtain⟨c0,c1,c2,y0,y1,y2,m,rfl,hd0,_,hy0,hy1,hy2⟩:=Joins.open_agg3 Tryz.underlying24 (by kernel_rfl) Tryz.cells24 (hval 0 24 v0 rfl rfl) h0;obtain⟨T,e0,_,_⟩:=DataW.trod_int Tryz.underlying3 hy0;obtain⟨N,e1,_,_⟩:=DataW.trod_int Tryz.underlying3 hy1;simp only[List.cons.injEq,and_true]at e0 e1;subst e0;subst e1;obtain⟨R,hR,_⟩:=afA hy2;obtain⟨a0,a1,a2,a3,x0,x1,x2,x3,m2,rfl,hd1,_,hx0,hx1,hx2,hx3⟩:=Joins.open_agg4 Tryz.underlying26 (by kernel_rfl) Tryz.cells26 (hval 1 26 v1 rfl rfl) h1;obtain⟨so,f0,_,_⟩:=DataW.trod_int Tryz.underlying3 hx0;obtain⟨sa,f1,_,_⟩:=DataW.trod_int Tryz.underlying3 hx1;obtain⟨sb,f2,_,_⟩:=DataW.trod_int Tryz.underlying3 hx2;obtain⟨sc,f3,_,_⟩:=DataW.trod_int Tryz.underlying3 hx3;simp only[List.cons.injEq,and_true]at f0 f1 f2 f3;subst f0;subst f1;subst f2;subst f3;obtain⟨da,dl,dc,rfl⟩:=okWide_slice Tryz.underlying27 (hval 2 27 v2 rfl rfl)
 obtain⟨D,hD⟩:∃D,aH W W.heap.size (.slice da dl dc) D:=by
  obtain⟨fuel,hf⟩:=h2;exact afB (by simpa [Value.cells] using hf)
 clear BU;refine(afv (T:=T) (N:=N) hR hD ⟨so,sa,sb,sc⟩).mono fun e W' ⟨he,Kb⟩=> ?_;subst he
 exact⟨_,rfl,_,_,_,[],_,[],hW',trodAll_mk1 (shut_bool Tryz.underlying4 _),
  trodAll_cons_mk (Below.trod Pn (by kernel_rfl) (of_decide_eq_true (by kernel_rfl)) k0 Kb lt0) (trodAll_cons_mk (Below.trod Pn (by kernel_rfl) (of_decide_eq_true (by kernel_rfl)) k1 Kb lt1) (trodAll_cons_mk (Below.trod Pn (by kernel_rfl) (of_decide_eq_true (by kernel_rfl)) k2 Kb lt2) trodAll_mk0)),rfl,Kb.frame _,fun h=>by cases h⟩
theorem afE(os:Os)(started:os.Started)(H:Type)(enc:TypeId×Value->H):
 ReturnsInHanded {} Tryz.checked os 3 .any (Rows.stepParsesSpec.pre6 enc Tryz.prog Tryz.f3 Rows.stepParsesRow.domain false) (Rows.stepParsesSpec.post enc Tryz.prog Tryz.f3 false true false false):=by
 refine returnsInHanded_of_change (C:=Tryz.checked) afC started (by kernel_rfl) Tryz.func3
  (ChangeSpec.witness6 (enc:=enc) (C:=Tryz.checked) false ⟨#[],#[.agg #[.int .i64 0,.int .i64 0,.slice none 0 0],.agg #[.int .i64 0,.int .i64 0,.int .i64 0,.int .i64 0],.slice none 0 0],[]⟩ 8 (by kernel_rfl) (by kernel_rfl) (by kernel_rfl) (by kernel_rfl)) ?_
 intro W base args ds gs before hval hW _ _;exact afD H enc W base args ds gs before hval hW
theorem stepParses_proved:Rows.StepParsesSaid:=
 OpenClaim.holds_of_wide 3 Tryz.f3 rfl rfl rfl rfl rfl rfl rfl ⟨rfl,rfl,rfl,rfl,rfl⟩ rfl rfl rfl rfl rfl (by kernel_rfl) Tryz.func3 (by kernel_rfl)
  (of_decide_eq_true (by kernel_rfl)) (by unfold Func.isWrapper;first|(rw[if_pos (by decide+kernel)];kernel_rfl)|(rw[if_neg (by decide+kernel)];exact⟨rfl,rfl⟩))
  (fun os started H enc _=>afE os started H enc)
#print axioms stepParses_proved
end Go.Proofs.YtpkmpkphfflpjaaGreat
