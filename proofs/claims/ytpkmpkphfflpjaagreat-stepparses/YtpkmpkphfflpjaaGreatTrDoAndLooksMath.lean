import Derived.Test.YtpkmpkphfflpjaaGreatStOutAndStKp
import Derived.Test.YtpkmpkphfflpjaaGreatMathAndHeldSeq
import Derived.Deep.QuietTactic
import Derived.BigQuiet
import Derived.Test.YtpkmpkphfflpjaaGreatLfpAndRef3Math
set_option maxHeartbeats 3200000
set_option maxRecDepth 100000
namespace Go.Proofs.YtpkmpkphfflpjaaGreat
open Go.RowKit
def BF(Z:Option (List Int))(lv:Value)(bo:Bool)(w:World):Prop:=
 match Z with
 |none=>lv= .slice none 0 0/\bo=false
 |some L=>bo=true/\aH w w.heap.size lv L/\∃da n dc,lv= .slice da n dc/\n<=dc
theorem BF.next{Z:Option (List Int)}{lv:Value}{bo:Bool}{w w':World}(h:BF Z lv bo w)(hb:Below w.heap.size w w'):BF Z lv bo w':=by
 cases Z with
 |none=>exact h
 |some L=>exact⟨h.1,(h.2.1.below hb).mono hb.size,h.2.2⟩
def vU(R:List Ru)(f:Fo->Fo)(D:List Int)(Z:Option (List Int)):Prop:=
 (jD R D=none/\Z=none)\/∃st t,jD R D=some st/\okF R t [0]/\ai t=D/\(∃p K,f t= .nd p K .no)/\(ai (f t)).length<=2000/\Z=if (ai (f t)).length<=400 then some (ai (f t)) else none
theorem TA{w:World}{T N:Int}{ra:Option Addr}{rc:Nat}{R:List Ru}{dv:Value}{D:List Int}{ty:TypeId}{v:Value}{name:String}{fn:Nat}{f:Fo->Fo}{Z:Option (List Int)}(hO:Over w ty v name fn (fun q ks=>okF R (.nd q ks .no) [0]/\(ai ks).length<=2000) (fun q ks=>(rX (f (.nd q ks .no)),ug (f (.nd q ks .no)))))(hr:aD w w.heap.size (.slice ra R.length rc) R)(hd:aH w w.heap.size dv D)(hdc:∃da n dc,dv= .slice da n dc/\n<=dc)(hM:∀q,(R.getD q (0,[])).2.length<=1000)(hZ:vU R f D Z):
 Calls Tryz.prog 12 #[.agg #[.int .i64 T,.int .i64 N,.slice ra R.length rc],dv,.func (.method name) #[.iface ty v] #[]] w fun e w'=> ∃lv bo,e= .returned (.tuple #[lv,.bool bo])/\BF Z lv bo w'/\Below w.heap.size w w':=by
 rcases hZ with⟨h,rfl⟩|⟨st,t,h,hok,hfl,⟨p,K,hf⟩,hl,rfl⟩
 ·refine(ZR hr hd hM h).mono ?_
  rintro e w' ⟨rfl,hB⟩;exact⟨_,_,rfl,⟨rfl,rfl⟩,hB⟩
 ·obtain⟨q,ks,rfl⟩:=AA hok
  have hDl:=(CR h).2;rw[hf,ai,ai,List.append_nil]at hl⊢;rw[List.length_cons]at hl⊢
  have hks:(ai ks).length<=2000:=by
   have:(ai (.nd q ks .no)).length<=400:=by rw[hfl];exact hDl
   rw[ai,List.length_cons,List.length_append]at this;omega
  have:=ZU (T:=T) (N:=N) hO ⟨hok,hks⟩ hr hd hdc hM h hok hfl hDl (by simp only[hf];show (ai K).length<=2000;omega);simp only[hf]at this;refine this.mono ?_;rintro e w' ⟨⟨h1,lv,rfl,h2,h3⟩|⟨h1,rfl⟩,hB⟩
  ·have h1':(ai K).length+1<=400:=h1
   rw[if_pos h1'];exact⟨lv,true,rfl,⟨rfl,h2,h3⟩,hB⟩
  ·have h1':400<(ai K).length+1:=h1
   rw[if_neg (by omega)];exact⟨_,false,rfl,⟨rfl,rfl⟩,hB⟩
section
variable{w:World}{ra:Option Addr}{rc:Nat}{R:List Ru}{dv:Value}{D:List Int}{Z:Option (List Int)}
theorem M9{T N:Nat}(hr:aD w w.heap.size (.slice ra R.length rc) R)(hd:aH w w.heap.size dv D)(hdc:∃da n dc,dv= .slice da n dc/\n<=dc)(s:Stp)(hm:aZ T N R=true)(hs:aR N R s=true)(hz:aZ T (gm N s:Nat) (aM N R s)=true)(hZ:vU R (qX N R s) D Z):
 Calls Tryz.prog 6 #[.agg #[.int .i64 T,.int .i64 N,.slice ra R.length rc],.agg #[.int .i64 s.op,.int .i64 s.a,.int .i64 s.b,.int .i64 s.c],dv] w fun e w'=> ∃lv bo,e= .returned (.tuple #[lv,.bool bo])/\BF Z lv bo w'/\Below w.heap.size w w':=by
 obtain⟨W0,hW0⟩:∃W,(w.alloc (.cells #[.int .i64 T,.int .i64 N,.slice ra R.length rc] 24)).alloc (.cells #[.int .i64 s.op,.int .i64 s.a,.int .i64 s.b,.int .i64 s.c] 26)=W:=⟨_,rfl⟩;have hK:=EN (T:=T) (N:=N) (s:=s) hr hd;rw[hW0]at hK;have HK:Hid (gI w T N ra rc R s dv D W0):=hK;obtain⟨da,dn,dc,hdv,vI⟩:=hdc;subst hdv;have g0:=hK.g0;have g1:=hK.g1;have g2:=hK.g2;have s0:=hK.s0;have s1:=hK.s1;have s2:=hK.s2;have s3:=hK.s3;have tk:=M8 (T:=T) (N:=N) hK.all hm s hs hz
 have hM:∀q,(R.getD q (0,[])).2.length<=1000:=fun q=>by
  obtain⟨_,_,_,_,h5⟩:=kM hm;by_cases hq:q<R.length
  ·have:=(h5 q hq).2.2.1;omega
  ·simp[List.getD,hq]
 have HZ:Hid (vU R (qX N R s) D Z/\aZ T N R=true/\aR N R s=true/\aZ T (gm N s:Nat) (aM N R s)=true/\dn<=dc/\∀q,(R.getD q (0,[])).2.length<=1000):=⟨hZ,hm,hs,hz,vI,hM⟩;obtain⟨M,uR⟩:∃M:Int,((gm N s:Nat):Int)=M:=⟨_,rfl⟩;rw[uR]at tk;clear hr hd hK hm hs hz hZ vI hM uR
 go_enter Tryz.func6,Tryz.ntmps6
 go_upto_region 4 with
  (go_at_call 9;refine tk.mono ?_;rintro e w2 ⟨cv,lv,RL,rfl,hC2,hR2,hmap,hB2⟩
   obtain⟨la,lc,hlv⟩:=aY hR2.own;subst hlv;have hB3:Below W0.heap.size W0 (w2.alloc (.cells #[.int .i64 (T:Int),.int .i64 M,.slice la RL.length lc] 24)):=hB2.alloc hB2.size _;have hbx:=heap_alloc_new w2 (.cells #[.int .i64 (T:Int),.int .i64 M,.slice la RL.length lc] 24);have kE:aD (w2.alloc (.cells #[.int .i64 (T:Int),.int .i64 M,.slice la RL.length lc] 24)) (w2.alloc (.cells #[.int .i64 (T:Int),.int .i64 M,.slice la RL.length lc] 24)).heap.size (.slice la RL.length lc) (aM N R s):=by rw[<-hmap];exact hR2.rules.boxed _
   have EO:=hC2.next ((Below.refl _ _).alloc (Nat.le_refl _) (.cells #[.int .i64 (T:Int),.int .i64 M,.slice la RL.length lc] 24));have hrl:RL.length=(aM N R s).length:=by rw[<-hmap,List.length_map]
   have HF:Hid (gI w T N ra rc R s (.slice da dn dc) D (w2.alloc (.cells #[.int .i64 (T:Int),.int .i64 M,.slice la RL.length lc] 24))/\(w2.alloc (.cells #[.int .i64 (T:Int),.int .i64 M,.slice la RL.length lc] 24)).heap[w2.heap.size]?=some (.cells #[.int .i64 (T:Int),.int .i64 M,.slice la RL.length lc] 24 (0,0))/\aD (w2.alloc (.cells #[.int .i64 (T:Int),.int .i64 M,.slice la RL.length lc] 24)) (w2.alloc (.cells #[.int .i64 (T:Int),.int .i64 M,.slice la RL.length lc] 24)).heap.size (.slice la RL.length lc) (aM N R s)/\fI (w2.alloc (.cells #[.int .i64 (T:Int),.int .i64 M,.slice la RL.length lc] 24)) W0.heap.size T N ra rc R s cv/\RL.length=(aM N R s).length):=⟨HK.out.next hB3,hbx,kE,EO,hrl⟩
   clear tk hC2 hR2 hmap hB2 hB3 hbx kE EO hrl g0 g1 g2 s0 s1 s2 s3 hW0)
 obtain⟨W3,hW3⟩:∃V,w2.alloc (.cells #[.int .i64 (T:Int),.int .i64 M,.slice la RL.length lc] 24)=V:=⟨_,rfl⟩;obtain⟨p9,zA⟩:∃x,w2.heap.size=x:=⟨_,rfl⟩;rw[hW3,zA]at HF;rw[hW3];rw[zA];clear hW3 zA;obtain⟨Wd,hWd⟩:∃V,W3.drew=V:=⟨_,rfl⟩;have hBd:Below W3.heap.size W3 Wd:=by rw[<-hWd];exact(Below.refl _ _).drew
 have qD:=HF.out.1.next hBd;have rF:=HF.out.2.2.2.1.next hBd;have lq:=(HF.out.2.2.1.below hBd).mono hBd.size;obtain⟨ty,v,fn,hcv,hO⟩:=abA rF qD.all HZ.out.2.1 HZ.out.2.2.1;subst hcv;have ca:=TA (T:=(T:Int)) (N:=(N:Int)) hO qD.all qD.allT ⟨da,dn,dc,rfl,HZ.out.2.2.2.2.1⟩ HZ.out.2.2.2.2.2 HZ.out.1;have hbd:=(hBd.block _ (Array.getElem?_eq_some_iff.1 HF.out.2.1).1).trans HF.out.2.1;have S0:Wd.cell? ⟨w.heap.size,0,none⟩=some (.int .i64 (T:Int))/\Wd.cell? ⟨w.heap.size,1,none⟩=some (.int .i64 (N:Int))/\Wd.cell? ⟨w.heap.size,2,none⟩=some (.slice ra R.length rc):=⟨qD.g0,qD.g1,qD.g2⟩;have gU:Hid (Below w.heap.size w Wd):=qD.below;clear hBd qD rF lq hO hbd HF;refine iw [0,1,2,3,4] 5 9 (fun wq=>wq.cell? ⟨w.heap.size,0,none⟩=some (.int .i64 (T:Int))/\wq.cell? ⟨w.heap.size,1,none⟩=some (.int .i64 (N:Int))/\wq.cell? ⟨w.heap.size,2,none⟩=some (.slice ra R.length rc)) (by kernel_rfl) (by kernel_rfl) (by rw[hWd];exact S0) ?_;rw[hWd];clear hWd
 iterate 5
  refine aU.gN (v:= ?_) rfl (by rfl) ?_ ?_;rotate_left
  ·intro w' hSw
   obtain⟨z0,z1,z2⟩:=hSw
   go_simp
   try with_reducible rfl
  simp only[Act.put,List.setIfInBounds_toArray,List.set_cons_zero,List.set_cons_succ]
 rw[aU];have vV:Hid (∀wq,Below Wd.heap.size Wd wq->wq.cell? ⟨w.heap.size,0,none⟩=some (.int .i64 (T:Int))/\wq.cell? ⟨w.heap.size,1,none⟩=some (.int .i64 (N:Int))/\wq.cell? ⟨w.heap.size,2,none⟩=some (.slice ra R.length rc)):=fun wq hq=>⟨(hq.cell (World.block_lt_of_cell? _ _ S0.1)).trans S0.1,(hq.cell (World.block_lt_of_cell? _ _ S0.2.1)).trans S0.2.1,(hq.cell (World.block_lt_of_cell? _ _ S0.2.2)).trans S0.2.2⟩;clear S0;refine ax.one (i:=5) (by kernel_rfl) ⟨_,rfl,fun K hK=> ?_⟩
 go_simp
 refine ca.mono ?_;rintro e w4 ⟨lv,bo,rfl,Bv,hB4⟩;dsimp only;refine hK.out _ _ (fun _=>vV.out w4 hB4) ?_;clear hK ca;refine ax.read (i:=6) (v:=lv) rfl (by kernel_rfl) (by rfl) (fun w' _=>by unfold execOp;go_simp) (vV.out w4 hB4) ?_;simp only[Act.put,List.setIfInBounds_toArray,List.set_cons_zero,List.set_cons_succ];refine ax.read (i:=7) (v:= .bool bo) rfl (by kernel_rfl) (by rfl) (fun w' _=>by unfold execOp;go_simp) (vV.out w4 hB4) ?_;simp only[Act.put,List.setIfInBounds_toArray,List.set_cons_zero,List.set_cons_succ];refine ax.read (i:=8) (v:=lv) rfl (by kernel_rfl) (by rfl) (fun w' _=>by unfold execOp;go_simp) (vV.out w4 hB4) ?_;simp only[Act.put,List.setIfInBounds_toArray,List.set_cons_zero,List.set_cons_succ];refine ax.last (i:=9) (by kernel_rfl) ⟨_,rfl,fun K hK=> ?_⟩
 go_simp
 refine hK.out _ _ (fun h=>absurd h (by omega)) (NoPanic.normal ?_);clear hK
 go_wp2_with fail
 refine bodyPost_ret (v:= .tuple #[lv,.bool bo]) (by simp[results,Tryz.results6,go_sem]) rfl ?_;exact⟨lv,bo,rfl,Bv,gU.out.trans (hB4.mono gU.out.size)⟩
theorem Na{T N:Nat}(hr:aD w w.heap.size (.slice ra R.length rc) R)(hd:aH w w.heap.size dv D)(hdc:∃da n dc,dv= .slice da n dc/\n<=dc)(s:Stp)(hm:aZ T N R=true)(hs:aR N R s=true)(hz:aZ T (gm N s:Nat) (aM N R s)=true)(hZ:vU (aM N R s) (qY N R s) D Z):
 Calls Tryz.prog 7 #[.agg #[.int .i64 T,.int .i64 N,.slice ra R.length rc],.agg #[.int .i64 s.op,.int .i64 s.a,.int .i64 s.b,.int .i64 s.c],dv] w fun e w'=> ∃lv bo,e= .returned (.tuple #[lv,.bool bo])/\BF Z lv bo w'/\Below w.heap.size w w':=by
 obtain⟨W0,hW0⟩:∃W,(w.alloc (.cells #[.int .i64 T,.int .i64 N,.slice ra R.length rc] 24)).alloc (.cells #[.int .i64 s.op,.int .i64 s.a,.int .i64 s.b,.int .i64 s.c] 26)=W:=⟨_,rfl⟩;have hK:=EN (T:=T) (N:=N) (s:=s) hr hd;rw[hW0]at hK;have HK:Hid (gI w T N ra rc R s dv D W0):=hK;obtain⟨da,dn,dc,hdv,vI⟩:=hdc;subst hdv;have g0:=hK.g0;have g1:=hK.g1;have g2:=hK.g2;have s0:=hK.s0;have s1:=hK.s1;have s2:=hK.s2;have s3:=hK.s3;have tk:=M8 (T:=T) (N:=N) hK.all hm s hs hz
 have hM:∀q,((aM N R s).getD q (0,[])).2.length<=1000:=fun q=>by
  obtain⟨_,_,_,_,h5⟩:=kM hz;by_cases hq:q<(aM N R s).length
  ·have:=(h5 q hq).2.2.1;omega
  ·simp[List.getD,hq]
 have HZ:Hid (vU (aM N R s) (qY N R s) D Z/\aZ T N R=true/\aR N R s=true/\aZ T (gm N s:Nat) (aM N R s)=true/\dn<=dc/\∀q,((aM N R s).getD q (0,[])).2.length<=1000):=⟨hZ,hm,hs,hz,vI,hM⟩;obtain⟨M,uR⟩:∃M:Int,((gm N s:Nat):Int)=M:=⟨_,rfl⟩;rw[uR]at tk;clear hr hd hK hm hs hz hZ vI hM uR
 go_enter Tryz.func7,Tryz.ntmps7
 go_upto_region 4 with
  (go_at_call 9;refine tk.mono ?_;rintro e w2 ⟨cv,lv,RL,rfl,hC2,hR2,hmap,hB2⟩
   obtain⟨la,lc,hlv⟩:=aY hR2.own;subst hlv;have hB3:Below W0.heap.size W0 (w2.alloc (.cells #[.int .i64 (T:Int),.int .i64 M,.slice la RL.length lc] 24)):=hB2.alloc hB2.size _;have hbx:=heap_alloc_new w2 (.cells #[.int .i64 (T:Int),.int .i64 M,.slice la RL.length lc] 24);have kE:aD (w2.alloc (.cells #[.int .i64 (T:Int),.int .i64 M,.slice la RL.length lc] 24)) (w2.alloc (.cells #[.int .i64 (T:Int),.int .i64 M,.slice la RL.length lc] 24)).heap.size (.slice la RL.length lc) (aM N R s):=by rw[<-hmap];exact hR2.rules.boxed _
   have EO:=hC2.next ((Below.refl _ _).alloc (Nat.le_refl _) (.cells #[.int .i64 (T:Int),.int .i64 M,.slice la RL.length lc] 24));have hrl:RL.length=(aM N R s).length:=by rw[<-hmap,List.length_map]
   have HF:Hid (gI w T N ra rc R s (.slice da dn dc) D (w2.alloc (.cells #[.int .i64 (T:Int),.int .i64 M,.slice la RL.length lc] 24))/\(w2.alloc (.cells #[.int .i64 (T:Int),.int .i64 M,.slice la RL.length lc] 24)).heap[w2.heap.size]?=some (.cells #[.int .i64 (T:Int),.int .i64 M,.slice la RL.length lc] 24 (0,0))/\aD (w2.alloc (.cells #[.int .i64 (T:Int),.int .i64 M,.slice la RL.length lc] 24)) (w2.alloc (.cells #[.int .i64 (T:Int),.int .i64 M,.slice la RL.length lc] 24)).heap.size (.slice la RL.length lc) (aM N R s)/\fI (w2.alloc (.cells #[.int .i64 (T:Int),.int .i64 M,.slice la RL.length lc] 24)) W0.heap.size T N ra rc R s cv/\RL.length=(aM N R s).length):=⟨HK.out.next hB3,hbx,kE,EO,hrl⟩
   clear tk hC2 hR2 hmap hB2 hB3 hbx kE EO hrl g0 g1 g2 s0 s1 s2 s3 hW0)
 obtain⟨W3,hW3⟩:∃V,w2.alloc (.cells #[.int .i64 (T:Int),.int .i64 M,.slice la RL.length lc] 24)=V:=⟨_,rfl⟩;obtain⟨p9,zA⟩:∃x,w2.heap.size=x:=⟨_,rfl⟩;rw[hW3,zA]at HF;rw[hW3];rw[zA];clear hW3 zA;obtain⟨Wd,hWd⟩:∃V,W3.drew=V:=⟨_,rfl⟩;have hBd:Below W3.heap.size W3 Wd:=by rw[<-hWd];exact(Below.refl _ _).drew
 have qD:=HF.out.1.next hBd;have rF:=HF.out.2.2.2.1.next hBd;have lq:=(HF.out.2.2.1.below hBd).mono hBd.size;obtain⟨ty,v,fn,hcv,hO⟩:=abB rF qD.all HZ.out.2.1 HZ.out.2.2.1 HZ.out.2.2.2.1;subst hcv;rw[HF.out.2.2.2.2]at lq;have ca:=TA (T:=(T:Int)) (N:=M) hO lq qD.allT ⟨da,dn,dc,rfl,HZ.out.2.2.2.2.1⟩ HZ.out.2.2.2.2.2 HZ.out.1;have hbd:=(hBd.block _ (Array.getElem?_eq_some_iff.1 HF.out.2.1).1).trans HF.out.2.1;have S0:Wd.cell? ⟨p9,0,none⟩=some (.int .i64 (T:Int))/\Wd.cell? ⟨p9,1,none⟩=some (.int .i64 M)/\Wd.cell? ⟨p9,2,none⟩=some (.slice la (aM N R s).length lc):=⟨ah hbd rfl,ah hbd rfl,by rw[<-HF.out.2.2.2.2];exact ah hbd rfl⟩;have gU:Hid (Below w.heap.size w Wd):=qD.below;clear hBd qD rF lq hO hbd HF;refine iw [0,1,2,3,4] 5 9 (fun wq=>wq.cell? ⟨p9,0,none⟩=some (.int .i64 (T:Int))/\wq.cell? ⟨p9,1,none⟩=some (.int .i64 M)/\wq.cell? ⟨p9,2,none⟩=some (.slice la (aM N R s).length lc)) (by kernel_rfl) (by kernel_rfl) (by rw[hWd];exact S0) ?_;rw[hWd];clear hWd
 iterate 5
  refine aU.gN (v:= ?_) rfl (by rfl) ?_ ?_;rotate_left
  ·intro w' hSw
   obtain⟨z0,z1,z2⟩:=hSw
   go_simp
   try with_reducible rfl
  simp only[Act.put,List.setIfInBounds_toArray,List.set_cons_zero,List.set_cons_succ]
 rw[aU];have vV:Hid (∀wq,Below Wd.heap.size Wd wq->wq.cell? ⟨p9,0,none⟩=some (.int .i64 (T:Int))/\wq.cell? ⟨p9,1,none⟩=some (.int .i64 M)/\wq.cell? ⟨p9,2,none⟩=some (.slice la (aM N R s).length lc)):=fun wq hq=>⟨(hq.cell (World.block_lt_of_cell? _ _ S0.1)).trans S0.1,(hq.cell (World.block_lt_of_cell? _ _ S0.2.1)).trans S0.2.1,(hq.cell (World.block_lt_of_cell? _ _ S0.2.2)).trans S0.2.2⟩;clear S0;refine ax.one (i:=5) (by kernel_rfl) ⟨_,rfl,fun K hK=> ?_⟩
 go_simp
 refine ca.mono ?_;rintro e w4 ⟨lv,bo,rfl,Bv,hB4⟩;dsimp only;refine hK.out _ _ (fun _=>vV.out w4 hB4) ?_;clear hK ca;refine ax.read (i:=6) (v:=lv) rfl (by kernel_rfl) (by rfl) (fun w' _=>by unfold execOp;go_simp) (vV.out w4 hB4) ?_;simp only[Act.put,List.setIfInBounds_toArray,List.set_cons_zero,List.set_cons_succ];refine ax.read (i:=7) (v:= .bool bo) rfl (by kernel_rfl) (by rfl) (fun w' _=>by unfold execOp;go_simp) (vV.out w4 hB4) ?_;simp only[Act.put,List.setIfInBounds_toArray,List.set_cons_zero,List.set_cons_succ];refine ax.read (i:=8) (v:=lv) rfl (by kernel_rfl) (by rfl) (fun w' _=>by unfold execOp;go_simp) (vV.out w4 hB4) ?_;simp only[Act.put,List.setIfInBounds_toArray,List.set_cons_zero,List.set_cons_succ];refine ax.last (i:=9) (by kernel_rfl) ⟨_,rfl,fun K hK=> ?_⟩
 go_simp
 refine hK.out _ _ (fun h=>absurd h (by omega)) (NoPanic.normal ?_);clear hK
 go_wp2_with fail
 refine bodyPost_ret (v:= .tuple #[lv,.bool bo]) (by simp[results,Tryz.results7,go_sem]) rfl ?_;exact⟨lv,bo,rfl,Bv,gU.out.trans (hB4.mono gU.out.size)⟩
end
abbrev It:=Nat×Nat
def aJ(R:List Ru)(r:Nat):List Sy:=if r=R.length then [(false,0)] else (R.getD r (0,[])).2
def jB(w:World)(lim:Nat)(v:Value)(L:List It):Prop:=
 (∃a c,v= .slice a L.length c)/\∀k,k<L.length->∃b o c,v= .slice (some ⟨b,o,none⟩) L.length c/\b<lim/\
  w.cell? ⟨b,o+k*2,none⟩=some (.int .i64 (L.getD k (0,0)).1)/\w.cell? ⟨b,o+(k*2+1),none⟩=some (.int .i64 (L.getD k (0,0)).2)
theorem jB.below{B:Nat}{w w':World}{v:Value}{L:List It}(h:jB w B v L)(hb:Below B w w'):jB w' B v L:=
 ⟨h.1,fun k hk=>let ⟨b,o,c,h1,h2,h3,h4⟩:=h.2 k hk;⟨b,o,c,h1,h2,(hb.cell h2).trans h3,(hb.cell h2).trans h4⟩⟩
theorem jB.mono{B B':Nat}{w:World}{v:Value}{L:List It}(h:jB w B v L)(hB:B<=B'):jB w B' v L:=
 ⟨h.1,fun k hk=>let ⟨b,o,c,h1,h2,h3,h4⟩:=h.2 k hk;⟨b,o,c,h1,by omega,h3,h4⟩⟩
structure iE(w:World)(lim ab:Nat)(T N:Nat)(rv:Value)(R:List Ru):Prop where
 t:w.cell? ⟨ab,0,none⟩=some (.int .i64 T)
 n:w.cell? ⟨ab,1,none⟩=some (.int .i64 N)
 r:w.cell? ⟨ab,2,none⟩=some rv
 rules:aD w lim rv R
 le:lim<=w.heap.size
 lt:ab<w.heap.size
theorem iE.below{w w':World}{lim ab T N B:Nat}{rv:Value}{R:List Ru}(h:iE w lim ab T N rv R)(hb:Below B w w')(hl:lim<=B)(ha:ab<B):iE w' lim ab T N rv R:=
 ⟨(hb.cell ha).trans h.t,(hb.cell ha).trans h.n,(hb.cell ha).trans h.r,h.rules.below (hb.mono hl),Nat.le_trans h.le hb.size,Nat.lt_of_lt_of_le h.lt hb.size⟩
def dB(T:Nat)(s:Sy):Int:=if s.1 then s.2 else (T:Int)+s.2
def abE(L:List It)(i:It):Int:=match L.findIdx? (fun x=>decide (x=i)) with|some k=>k|none=> -1
def Nb(A B:List It):Bool:=decide (A.length=B.length)&&A.all fun x=>decide (0<=abE B x)
end Go.Proofs.YtpkmpkphfflpjaaGreat
namespace Go.Proofs.YtpkmpkphfflpjaaGreat
inductive Cl(R:List Ru)(S:It->Prop):It->Prop
 |base {i:It} (h:S i):Cl R S i
 |step {r d n:Nat} {m:Int} (h:Cl R S (r,d)) (h1:(aJ R r)[d]?=some (false,m)) (h2:n<R.length) (h3:(R.getD n (0,[])).1=m):Cl R S (n,0)
section
variable{α:Type}[DecidableEq α]
theorem Nc{A B:List α}(hA:A.Nodup)(h:∀x∈A,x∈B):A.length<=B.length:=by
 induction A generalizing B with
 |nil=>simp
 |cons a A ih=>
  rw[List.nodup_cons]at hA;have ha:=h a (by simp);have:=ih hA.2 (B:=B.erase a) fun x hx=>(List.mem_erase_of_ne (fun e=>hA.1 (by rw[<-e];exact hx))).2 (h x (by simp[hx]));rw[List.length_erase_of_mem ha]at this;have:=List.length_pos_of_mem ha;simp only[List.length_cons];omega
end
structure CI(R:List Ru)(l O:List It)(k n:Nat):Prop where
 pre:∃E,O=l++E/\∀i∈E,∃q,q<R.length/\i=(q,0)
 ny:O.Nodup
 snd:∀i∈O,Cl R (· ∈l) i
 cls:∀j,(j<k/\j<O.length)->∀m q,(aJ R (O.getD j (0,0)).1)[(O.getD j (0,0)).2]?=some (false,m)->q<R.length->(R.getD q (0,[])).1=m->(q,0)∈O
 cur:k<O.length->∀m q,(aJ R (O.getD k (0,0)).1)[(O.getD k (0,0)).2]?=some (false,m)->q<n->q<R.length->(R.getD q (0,[])).1=m->(q,0)∈O
section
variable{R:List Ru}{l O:List It}{k n:Nat}
theorem CI.len(h:CI R l O k n):O.length<=l.length+R.length:=by
 obtain⟨E,rfl,hE⟩:=h.pre;have hn:E.Nodup:=(List.nodup_append.1 h.ny).2.1
 have:=Nc (B:=(List.range R.length).map fun q=>((q,0):It)) hn fun i hi=>by
  obtain⟨q,hq,rfl⟩:=hE i hi;exact List.mem_map.2 ⟨q,List.mem_range.2 hq,rfl⟩
 simp only[List.length_map,List.length_range]at this;simp only[List.length_append];omega
theorem CI.none(h:CI R l O k 0)(hno:k<O.length->∀m,(aJ R (O.getD k (0,0)).1)[(O.getD k (0,0)).2]?≠some (false,m)):CI R l O (k+1) 0:=
 ⟨h.pre,h.ny,h.snd,fun j hj m q h1 h2 h3=>by
   rcases Nat.lt_succ_iff_lt_or_eq.1 hj.1 with hj'|rfl
   ·exact h.cls j ⟨hj',hj.2⟩ m q h1 h2 h3
   ·exact absurd h1 (hno hj.2 m),fun _ m q _ hq=>by omega⟩
theorem CI.done(h:CI R l O k n)(hn:R.length<=n):CI R l O (k+1) 0:=
 ⟨h.pre,h.ny,h.snd,fun j hj m q h1 h2 h3=>by
   rcases Nat.lt_succ_iff_lt_or_eq.1 hj.1 with hj'|rfl
   ·exact h.cls j ⟨hj',hj.2⟩ m q h1 h2 h3
   ·exact h.cur hj.2 m q h1 (by omega) h2 h3,fun _ m q _ hq=>by omega⟩
theorem CI.push(h:CI R l O k n)(hk:k<O.length){m:Int}(h1:(aJ R (O.getD k (0,0)).1)[(O.getD k (0,0)).2]?=some (false,m))(hn:n<R.length)(h2:(R.getD n (0,[])).1=m)(h3:(n,0)∉O):CI R l (O++[(n,0)]) k (n+1):=by
 have get:∀j,j<O.length->(O++[(n,0)]).getD j (0,0)=O.getD j (0,0):=fun j hj=>by simp[List.getD,List.getElem?_append_left hj]
 have hO:O.getD k (0,0)∈O:=by simp[List.getD,hk]
 refine⟨?_,?_,fun i hi=> ?_,fun j hj m' q e1 e2 e3=> ?_,fun _ m' q e1 e2 e3 e4=> ?_⟩
 ·obtain⟨E,rfl,hE⟩:=h.pre
  refine⟨E++[(n,0)],by simp,fun i hi=> ?_⟩;rcases List.mem_append.1 hi with hi|hi
  ·exact hE i hi
  ·exact⟨n,hn,by simpa using hi⟩
 ·rw[List.nodup_append]
  refine⟨h.ny,by simp,fun a ha b hb e=> ?_⟩;have hb':b=(n,0):=by simpa using hb
  rw[e,hb']at ha;exact h3 ha
 ·rcases List.mem_append.1 hi with hi|hi
  ·exact h.snd i hi
  ·have:i=(n,0):=by simpa using hi
   subst this;exact .step (h.snd _ hO) h1 hn h2
 ·have TB:j<O.length:=by omega
  rw[get j TB]at e1;exact List.mem_append_left _ (h.cls j ⟨hj.1,TB⟩ m' q e1 e2 e3)
 ·rw[get k hk]at e1
  rcases Nat.lt_succ_iff_lt_or_eq.1 e2 with e2|rfl
  ·exact List.mem_append_left _ (h.cur hk m' q e1 e2 e3 e4)
  ·simp
theorem CI.all(h:CI R l O k n)(hk:O.length<=k):∀i,i∈O↔Cl R (· ∈l) i:=fun i=>by
 refine⟨h.snd i,fun hc=> ?_⟩
 induction hc with
 |base hb=>
  obtain⟨E,rfl,_⟩:=h.pre;exact List.mem_append_left _ hb
 |step _ h1 h2 h3 ih=>
  obtain⟨j,hj,he⟩:=List.getElem_of_mem ih;have e:O.getD j (0,0)=O[j]:=by simp[List.getD,hj]
  exact h.cls j ⟨by omega,hj⟩ _ _ (by rw[e,he];exact h1) h2 h3
end
end Go.Proofs.YtpkmpkphfflpjaaGreat
namespace Go.Proofs.YtpkmpkphfflpjaaGreat
open Classical
abbrev aX:=It->Prop
def jN(T:Nat)(R:List Ru)(i:It)(x:Nat):Prop:=∃s,(aJ R i.1)[i.2]?=some s/\dB T s=(x:Int)
def BG(T:Nat)(R:List Ru)(S:aX)(x:Nat):aX:=fun j=> ∃i,S i/\jN T R i x/\j=(i.1,i.2+1)
def pG(T:Nat)(R:List Ru)(S:aX)(x:Nat):aX:=Cl R (BG T R S x)
def bG:aX:=fun _=>False
noncomputable def visit(T:Nat)(R:List Ru)(L:List aX)(k x:Nat):Int×List aX:=
 if ∃i,L.getD k bG i/\jN T R i x then
  if h:∃n,n<L.length/\L.getD n bG=pG T R (L.getD k bG) x then (((Classical.choose h:Nat):Int),L) else ((L.length:Int),L++[pG T R (L.getD k bG) x])
 else (-1,L)
noncomputable def kF(T:Nat)(R:List Ru)(k x:Nat)(p:List Int×List aX):List Int×List aX:=(p.1++[(visit T R p.2 k x).1],(visit T R p.2 k x).2)
noncomputable def cK(T:Nat)(R:List Ru)(k x:Nat)(L:List aX):List Int×List aX:=bO x (kF T R k) ([],L)
noncomputable def lu(T N:Nat)(R:List Ru)(k:Nat)(p:List (List Int)×List aX):List (List Int)×List aX:=(p.1++[(cK T R k (T+N) p.2).1],(cK T R k (T+N) p.2).2)
noncomputable def ak(T N:Nat)(R:List Ru)(k:Nat):List (List Int)×List aX:=bO k (lu T N R) ([],[Cl R fun i=>i=(R.length,0)])
def Nf(L:List aX):Prop:=∀i j,i<L.length->j<L.length->L.getD i bG=L.getD j bG->i=j
section
variable{T N:Nat}{R:List Ru}{L:List aX}{k x:Nat}
theorem Ng(h:¬ ∃i,L.getD k bG i/\jN T R i x):visit T R L k x=(-1,L):=by unfold visit;rw[if_neg h]
theorem abF(hd:Nf L)(h:∃i,L.getD k bG i/\jN T R i x){n:Nat}(hn:n<L.length)(he:L.getD n bG=pG T R (L.getD k bG) x):visit T R L k x=((n:Int),L):=by
 unfold visit;have h2:∃n,n<L.length/\L.getD n bG=pG T R (L.getD k bG) x:=⟨n,hn,he⟩;rw[if_pos h,dif_pos h2];have:=Classical.choose_spec h2;have e:=hd _ _ this.1 hn (this.2.trans he.symm);rw[e]
theorem abG(h:∃i,L.getD k bG i/\jN T R i x)(hno:∀n,n<L.length->L.getD n bG≠pG T R (L.getD k bG) x):visit T R L k x=((L.length:Int),L++[pG T R (L.getD k bG) x]):=by
 unfold visit;rw[if_pos h,dif_neg (fun⟨n,hn,he⟩=>hno n hn he)]
theorem abH:L.length<=(visit T R L k x).2.length:=by
 unfold visit;split
 ·split
  ·exact Nat.le_refl _
  ·simp
 ·exact Nat.le_refl _
end
structure rH(O:List It)(S:aX):Prop where
 ny:O.Nodup
 mem:∀i,i∈O↔S i
theorem rH.eq{O:List It}{S S':aX}(h:rH O S)(h':rH O S'):S=S':=funext fun i=>propext ((h.mem i).symm.trans (h'.mem i))
noncomputable def dM(T:Nat)(R:List Ru)(O:List It)(x j:Nat):List It:=((O.take j).filter fun i=>decide (jN T R i x)).map fun i=>(i.1,i.2+1)
theorem abI{T:Nat}{R:List Ru}{O:List It}{x j:Nat}(h:O.Nodup):(dM T R O x j).Nodup:=by
 unfold dM;have h1:((O.take j).filter fun i=>decide (jN T R i x)).Nodup:=(h.sublist (List.take_sublist _ _)).sublist List.filter_sublist;generalize ((O.take j).filter fun i=>decide (jN T R i x))=A at h1
 induction A with
 |nil=>simp
 |cons a A ih=>
  rw[List.nodup_cons]at h1;rw[List.map_cons,List.nodup_cons];refine⟨fun hm=> ?_,ih h1.2⟩;obtain⟨b,hb,e⟩:=List.mem_map.1 hm;simp only[Prod.mk.injEq,Nat.add_right_cancel_iff]at e;exact h1.1 (by rw[show a=b from Prod.ext e.1.symm e.2.symm];exact hb)
theorem Nh{T:Nat}{R:List Ru}{O:List It}{x:Nat}{S:aX}(h:rH O S):∀i,i∈dM T R O x O.length↔BG T R S x i:=fun i=>by
 unfold dM BG;rw[List.take_length];constructor
 ·intro hi
  obtain⟨b,hb,rfl⟩:=List.mem_map.1 hi;rw[List.mem_filter]at hb;exact⟨b,(h.mem b).1 hb.1,by simpa using hb.2,rfl⟩
 ·rintro ⟨b,h1,h2,rfl⟩
  exact List.mem_map.2 ⟨b,List.mem_filter.2 ⟨(h.mem b).2 h1,by simpa using h2⟩,rfl⟩
theorem TD{T:Nat}{R:List Ru}{O:List It}{x j:Nat}(hj:j<O.length):dM T R O x (j+1)=dM T R O x j++(if jN T R (O.getD j (0,0)) x then [((O.getD j (0,0)).1,(O.getD j (0,0)).2+1)] else []):=by
 unfold dM;have e:O.getD j (0,0)=O[j]:=by simp[List.getD,hj]
 rw[List.take_succ_eq_append_getElem hj,List.filter_append,List.map_append,e]
 congr 1
 by_cases h:jN T R O[j] x
 ·simp[h]
 ·simp[h]
theorem TF{T:Nat}{R:List Ru}{O:List It}{x:Nat}{S:aX}(h:rH O S):dM T R O x O.length=[]↔¬ ∃i,S i/\jN T R i x:=by
 constructor
 ·rintro e ⟨i,h1,h2⟩
  have:(i.1,i.2+1)∈dM T R O x O.length:=(Nh h _).2 ⟨i,h1,h2,rfl⟩;rw[e]at this;cases this
 ·intro hn
  refine List.eq_nil_iff_forall_not_mem.2 fun i hi=> ?_;obtain⟨b,h1,h2,_⟩:=(Nh h i).1 hi;exact hn ⟨b,h1,h2⟩
theorem abJ{T:Nat}{R:List Ru}{O C:List It}{x:Nat}{S:aX}(h:rH O S)(hn:C.Nodup)(hC:∀i,i∈C↔Cl R (· ∈dM T R O x O.length) i):rH C (pG T R S x):=by
 refine⟨hn,fun i=>(hC i).trans ?_⟩;have e:(fun i=>i∈dM T R O x O.length)=BG T R S x:=funext fun i=>propext (Nh h i);unfold pG;rw[<-e]
def lX(R:List Ru)(i:It):Prop:=i.1<=R.length/\i.2<=(aJ R i.1).length
def I5(R:List Ru):List It:=(List.range (R.length+1)).flatMap fun r=>(List.range ((aJ R r).length+1)).map fun d=>(r,d)
theorem abK{R:List Ru}{i:It}(h:lX R i):i∈I5 R:=by
 unfold I5;rw[List.mem_flatMap];exact⟨i.1,List.mem_range.2 (by have:=h.1;omega),List.mem_map.2 ⟨i.2,List.mem_range.2 (by have:=h.2;omega),rfl⟩⟩
theorem abL{R:List Ru}(h8:∀r,r<=R.length->(aJ R r).length<=8):(I5 R).length<=(R.length+1)*9:=by
 unfold I5
 have:∀n,n<=R.length+1->((List.range n).flatMap fun r=>(List.range ((aJ R r).length+1)).map fun d=>((r,d):It)).length<=n*9:=by
  intro n
  induction n with
  |zero=>simp
  |succ n ih=>
   intro hn;rw[List.range_succ,List.flatMap_append,List.length_append];have h1:=ih (by omega);have h2:=h8 n (by omega);simp only[List.flatMap_cons,List.flatMap_nil,List.append_nil,List.length_map,List.length_range];omega
 exact this _ (Nat.le_refl _)
theorem I6{R:List Ru}(h8:∀r,r<=R.length->(aJ R r).length<=8){O:List It}(hn:O.Nodup)(ho:∀i∈O,lX R i):O.length<=(R.length+1)*9:=
 Nat.le_trans (Nc hn fun i hi=>abK (ho i hi)) (abL h8)
theorem Ni{R:List Ru}{S:aX}(hS:∀i,S i->lX R i){i:It}(h:Cl R S i):lX R i:=by
 induction h with
 |base hb=>exact hS _ hb
 |step _ _ h2 _ _=>exact⟨Nat.le_of_lt h2,Nat.zero_le _⟩
theorem abM{T:Nat}{R:List Ru}{S:aX}{x:Nat}(hS:∀i,S i->lX R i):∀i,BG T R S x i->lX R i:=by
 rintro i ⟨b,h1,⟨s,h2,_⟩,rfl⟩;have:=(List.getElem?_eq_some_iff.1 h2).1;exact⟨(hS b h1).1,by simp only;omega⟩
structure I7(R:List Ru)(OL:List (List It))(Ls:List aX):Prop where
 len:OL.length=Ls.length
 iZ:∀i,i<OL.length->rH (OL.getD i []) (Ls.getD i bG)
 dist:Nf Ls
 ok:∀i,i<OL.length->∀t∈OL.getD i [],lX R t
 ne:∀i,i<OL.length->OL.getD i []≠[]
 head:0<OL.length->(OL.getD 0 []).getD 0 (0,0)=(R.length,0)
section
variable{T N:Nat}{R:List Ru}{OL:List (List It)}{Ls:List aX}{k x:Nat}
theorem I8{α:Type}{L:List α}{y d:α}{i:Nat}(hi:i<L.length):(L++[y]).getD i d=L.getD i d:=by simp[List.getD,List.getElem?_append_left hi]
theorem I9{α:Type}{L:List α}{y d:α}{i:Nat}(hi:i=L.length):(L++[y]).getD i d=y:=by subst hi;simp[List.getD]
theorem I7.push(h:I7 R OL Ls){C:List It}{S:aX}(hC:rH C S)(hno:∀n,n<Ls.length->Ls.getD n bG≠S)(hok:∀t∈C,lX R t)(hne:C≠[])(hh:OL=[]->C.getD 0 (0,0)=(R.length,0)):I7 R (OL++[C]) (Ls++[S]):=by
 have hl:=h.len
 have tq:∀i,i<(OL++[C]).length->(i<OL.length/\(OL++[C]).getD i []=OL.getD i []/\(Ls++[S]).getD i bG=Ls.getD i bG)\/(i=OL.length/\(OL++[C]).getD i []=C/\(Ls++[S]).getD i bG=S):=fun i hi=>by
  simp only[List.length_append,List.length_cons,List.length_nil]at hi;rcases Nat.lt_succ_iff_lt_or_eq.1 hi with hi|hi
  ·exact .inl ⟨hi,I8 hi,I8 (by omega)⟩
  ·exact .inr ⟨hi,I9 hi,I9 (by omega)⟩
 refine⟨by simp[hl],fun i hi=> ?_,fun i j hi hj e=> ?_,fun i hi=> ?_,fun i hi=> ?_,fun _=> ?_⟩
 ·rcases tq i hi with⟨h1,h2,h3⟩|⟨h1,h2,h3⟩
  ·rw[h2,h3];exact h.iZ i h1
  ·rw[h2,h3];exact hC
 ·have hi':i<(OL++[C]).length:=by simp only[List.length_append,List.length_cons,List.length_nil]at hi⊢;omega
  have hj':j<(OL++[C]).length:=by simp only[List.length_append,List.length_cons,List.length_nil]at hj⊢;omega
  rcases tq i hi' with⟨h1,_,h3⟩|⟨h1,_,h3⟩<;>rcases tq j hj' with⟨k1,_,k3⟩|⟨k1,_,k3⟩
  ·rw[h3,k3]at e;exact h.dist i j (by omega) (by omega) e
  ·rw[h3,k3]at e;exact absurd e (hno i (by omega))
  ·rw[h3,k3]at e;exact absurd e.symm (hno j (by omega))
  ·omega
 ·rcases tq i hi with⟨h1,h2,_⟩|⟨_,h2,_⟩
  ·rw[h2];exact h.ok i h1
  ·rw[h2];exact hok
 ·rcases tq i hi with⟨h1,h2,_⟩|⟨_,h2,_⟩
  ·rw[h2];exact h.ne i h1
  ·rw[h2];exact hne
 ·cases hO:OL with
  |nil=>exact hh hO
  |cons o l=>
   have:=h.head (by rw[hO];simp);rw[hO]at this;exact this
def Found(OL:List (List It))(C:List It)(n:Nat)(z:Int):Prop:=
 (z= -1/\∀i,i<n->Nb (OL.getD i []) C=false)\/∃i:Nat,i<n/\z=i/\Nb (OL.getD i []) C=true
theorem Found.hit{C:List It}{n:Nat}(ha:Nb (OL.getD n []) C=true):Found OL C (n+1) n:= .inr ⟨n,Nat.lt_succ_self _,rfl,ha⟩
theorem Found.range{C:List It}{n:Nat}{z:Int}(h:Found OL C n z): -1<=z/\z<n:=by
 rcases h with⟨rfl,_⟩|⟨i,h1,rfl,_⟩<;>omega
theorem TG{O:List It}{j:Nat}:(dM T R O x j).length<=O.length:=by
 unfold dM;rw[List.length_map];refine Nat.le_trans (List.length_filter_le _ _) ?_;rw[List.length_take];omega
theorem abN{O:List It}{j r d:Nat}(hj:j<O.length)(he:O.getD j (0,0)=(r,d))(h:jN T R (r,d) x):dM T R O x (j+1)=dM T R O x j++[(r,d+1)]:=by
 rw[TD hj,he,if_pos h]
theorem TH{O:List It}{j r d:Nat}(hj:j<O.length)(he:O.getD j (0,0)=(r,d))(h:¬jN T R (r,d) x):dM T R O x (j+1)=dM T R O x j:=by
 rw[TD hj,he,if_neg h,List.append_nil]
theorem getD_in{α:Type}{L:List α}{j:Nat}{d:α}(h:j<L.length):L.getD j d∈L:=by simp[List.getD,h]
theorem TI(L:List aX)(k x:Nat):∃E,(visit T R L k x).2=L++E:=by
 unfold visit;split
 ·split
  ·exact⟨[],by simp⟩
  ·exact⟨_,rfl⟩
 ·exact⟨[],by simp⟩
theorem Nj(k x:Nat)(L:List aX):(cK T R k x L).1.length=x:=by
 induction x with
 |zero=>rfl
 |succ x ih=>
  have e:cK T R k (x+1) L=kF T R k x (cK T R k x L):=rfl;rw[e,kF];simp[ih]
theorem Ja(k x:Nat)(L:List aX):∃E,(cK T R k x L).2=L++E:=by
 induction x with
 |zero=>exact⟨[],by simp[cK,bO]⟩
 |succ x ih=>
  obtain⟨E,hE⟩:=ih;have e:cK T R k (x+1) L=kF T R k x (cK T R k x L):=rfl;obtain⟨F,hF⟩:=TI (T:=T) (R:=R) (cK T R k x L).2 k x;exact⟨E++F,by rw[e,kF];simp only;rw[hF,hE,List.append_assoc]⟩
theorem abO{k x y:Nat}{L:List aX}(h:x<=y):(cK T R k x L).2.length<=(cK T R k y L).2.length:=by
 induction h with
 |refl=>exact Nat.le_refl _
 |step _ ih=>
  rename_i m _;have e:cK T R k (m+1) L=kF T R k m (cK T R k m L):=rfl;rw[e,kF];exact Nat.le_trans ih abH
theorem TJ(k:Nat):(ak T N R k).1.length=k:=by
 induction k with
 |zero=>rfl
 |succ k ih=>
  have e:ak T N R (k+1)=lu T N R k (ak T N R k):=rfl;rw[e,lu];simp[ih]
theorem Nk{j k:Nat}(h:j<=k):(ak T N R j).2.length<=(ak T N R k).2.length:=by
 induction h with
 |refl=>exact Nat.le_refl _
 |step _ ih=>
  rename_i m _;have e:ak T N R (m+1)=lu T N R m (ak T N R m):=rfl;obtain⟨E,hE⟩:=Ja (T:=T) (R:=R) m (T+N) (ak T N R m).2;rw[e,lu];simp only;rw[hE,List.length_append];omega
def Whole(T N:Nat)(R:List Ru)(K:Nat):Prop:=(ak T N R K).2.length=K
def More(T N:Nat)(R:List Ru)(m:Nat):Prop:=∃k x,k<(ak T N R k).2.length/\x<=T+N/\m<(cK T R k x (ak T N R k).2).2.length
theorem Jb{K m:Nat}(h:Whole T N R K)(hK:K<=m):¬More T N R m:=by
 rintro ⟨k,x,h1,h2,h3⟩;by_cases hk:k<K
 ·have e:ak T N R (k+1)=lu T N R k (ak T N R k):=rfl
  have l1:=abO (T:=T) (R:=R) (k:=k) (L:=(ak T N R k).2) h2;have l2:(cK T R k (T+N) (ak T N R k).2).2.length=(ak T N R (k+1)).2.length:=by rw[e,lu]
  have l3:=Nk (T:=T) (N:=N) (R:=R) (show k+1<=K by omega);unfold Whole at h;omega
 ·
  have hfix:∀j,K<=j->(ak T N R j).2.length=K:=by
   intro j hj
   induction hj with
   |refl=>exact h
   |step hj ih=>
    rename_i j;have e:ak T N R (j+1)=lu T N R j (ak T N R j):=rfl
    have hno:∀y L,L.length=K->(cK T R j y L).2=L:=by
     intro y L hL
     induction y with
     |zero=>rfl
     |succ y ihy=>
      have e2:cK T R j (y+1) L=kF T R j y (cK T R j y L):=rfl;rw[e2,kF];simp only;rw[ihy,Ng];rintro ⟨i,hi,_⟩;rw[List.getD,List.getElem?_eq_none (by have hj':K<=j:=hj;omega)]at hi;exact hi
    rw[e,lu];simp only;rw[hno _ _ ih];exact ih
  have:=hfix k (by omega);omega
end
section
variable{T N:Nat}{R:List Ru}
structure vW(T:Nat)(R:List Ru)(Ls:List aX)(k x:Nat)(z:Int):Prop where
 some:(∃i,Ls.getD k bG i/\jN T R i x)->∃n:Nat,z=n/\n<Ls.length/\Ls.getD n bG=pG T R (Ls.getD k bG) x
 none:(¬ ∃i,Ls.getD k bG i/\jN T R i x)->z= -1
theorem EP{L E:List aX}{n:Nat}(h:n<L.length):(L++E).getD n bG=L.getD n bG:=by simp[List.getD,List.getElem?_append_left h]
theorem vW.more{Ls:List aX}{k x:Nat}{z:Int}(h:vW T R Ls k x z)(hk:k<Ls.length)(E:List aX):vW T R (Ls++E) k x z:=by
 refine⟨fun hx=> ?_,fun hx=> ?_⟩
 ·rw[EP hk]at hx⊢
  obtain⟨n,h1,h2,h3⟩:=h.some hx;exact⟨n,h1,by simp;omega,by rw[EP h2];exact h3⟩
 ·rw[EP hk]at hx
  exact h.none hx
theorem abP{L:List aX}{k x:Nat}(hk:k<L.length):vW T R (visit T R L k x).2 k x (visit T R L k x).1:=by
 unfold visit;by_cases h:∃i,L.getD k bG i/\jN T R i x
 ·rw[if_pos h]
  by_cases h2:∃n,n<L.length/\L.getD n bG=pG T R (L.getD k bG) x
  ·rw[dif_pos h2]
   exact⟨fun _=>⟨_,rfl,(Classical.choose_spec h2).1,(Classical.choose_spec h2).2⟩,fun hn=>absurd h hn⟩
  ·rw[dif_neg h2]
   refine⟨fun _=>⟨L.length,rfl,by simp,?_⟩,fun hn=> ?_⟩
   ·rw[EP hk];simp[List.getD]
   ·rw[EP hk]at hn;exact absurd h hn
 ·rw[if_neg h]
  exact⟨fun hh=>absurd hh h,fun _=>rfl⟩
theorem abQ{L:List aX}{k:Nat}(hk:k<L.length)(x:Nat):∀y,y<x->vW T R (cK T R k x L).2 k y ((cK T R k x L).1.getD y 0):=by
 induction x with
 |zero=>intro y hy;exact absurd hy (Nat.not_lt_zero _)
 |succ x ih=>
  intro y hy;have e:cK T R k (x+1) L=kF T R k x (cK T R k x L):=rfl;obtain⟨E,hE⟩:=Ja (T:=T) (R:=R) k x L;have hk':k<(cK T R k x L).2.length:=by rw[hE,List.length_append];omega
  have hl:=Nj (T:=T) (R:=R) k x L;rw[e,kF];simp only;rcases Nat.lt_succ_iff_lt_or_eq.1 hy with hy|rfl
  ·obtain⟨F,hF⟩:=TI (T:=T) (R:=R) (cK T R k x L).2 k x
   rw[hF];have:=(ih y hy).more hk' F;have e2:((cK T R k x L).1++[(visit T R (cK T R k x L).2 k x).1]).getD y 0=(cK T R k x L).1.getD y 0:=by simp[List.getD,List.getElem?_append_left (show y<(cK T R k x L).1.length by omega)]
   rw[e2];exact this
  ·have e2:((cK T R k y L).1++[(visit T R (cK T R k y L).2 k y).1]).getD y 0=(visit T R (cK T R k y L).2 k y).1:=by
    rw[List.getD,List.getElem?_append_right (by omega),hl];simp
   rw[e2];exact abP hk'
theorem Nl(j k:Nat)(h:j<=k):∃E,(ak T N R k).2=(ak T N R j).2++E:=by
 induction h with
 |refl=>exact⟨[],by simp⟩
 |step _ ih=>
  rename_i m _;obtain⟨E,hE⟩:=ih;obtain⟨F,hF⟩:=Ja (T:=T) (R:=R) m (T+N) (ak T N R m).2;have e:ak T N R (m+1)=lu T N R m (ak T N R m):=rfl;exact⟨E++F,by rw[e,lu];simp only;rw[hF,hE,List.append_assoc]⟩
theorem Np{K:Nat}(hK:∀k,k<K->k<(ak T N R k).2.length):∀k,k<K->∀x,x<T+N->((ak T N R K).1.getD k []).length=T+N/\vW T R (ak T N R K).2 k x (((ak T N R K).1.getD k []).getD x 0):=by
 induction K with
 |zero=>intro k hk;exact absurd hk (Nat.not_lt_zero _)
 |succ K ih=>
  intro k hk x hx;have e:ak T N R (K+1)=lu T N R K (ak T N R K):=rfl;have hl:=TJ (T:=T) (N:=N) (R:=R) K;obtain⟨F,hF⟩:=Ja (T:=T) (R:=R) K (T+N) (ak T N R K).2;rw[e,lu];simp only;rcases Nat.lt_succ_iff_lt_or_eq.1 hk with hk|rfl
  ·obtain⟨h1,h2⟩:=ih (fun k hk=>hK k (by omega)) k hk x hx
   have e2:((ak T N R K).1++[(cK T R K (T+N) (ak T N R K).2).1]).getD k []=(ak T N R K).1.getD k []:=by simp[List.getD,List.getElem?_append_left (show k<(ak T N R K).1.length by omega)]
   have hkl:k<(ak T N R K).2.length:=Nat.lt_of_lt_of_le (hK k (by omega)) (Nk (by omega));rw[e2,hF];exact⟨h1,h2.more hkl F⟩
  ·have e2:((ak T N R k).1++[(cK T R k (T+N) (ak T N R k).2).1]).getD k []=(cK T R k (T+N) (ak T N R k).2).1:=by
    rw[List.getD,List.getElem?_append_right (by omega),hl];simp
   rw[e2];exact⟨Nj _ _ _,abQ (hK k (by omega)) (T+N) x hx⟩
theorem EQ{K:Nat}(h:Whole T N R K):∀k,k<K->k<(ak T N R k).2.length:=by
 intro k hk;refine Classical.byContradiction fun hn=> ?_
 have hfix:∀j,k<=j->(ak T N R j).2.length<=k:=by
  intro j hj
  induction hj with
  |refl=>omega
  |step hj ih=>
   rename_i j;have e:ak T N R (j+1)=lu T N R j (ak T N R j):=rfl
   have hno:∀y L,L.length<=k->(cK T R j y L).2=L:=by
    intro y L hL
    induction y with
    |zero=>rfl
    |succ y ihy=>
     have e2:cK T R j (y+1) L=kF T R j y (cK T R j y L):=rfl;rw[e2,kF];simp only;rw[ihy,Ng];rintro ⟨i,hi,_⟩;rw[List.getD,List.getElem?_eq_none (by have hj':k<=j:=hj;omega)]at hi;exact hi
   rw[e,lu];simp only;rw[hno _ _ ih];exact ih
 have:=hfix K (by omega);unfold Whole at h;omega
def vX(R:List Ru)(S:aX):Prop:=∃S0,S=Cl R S0
theorem abR{L:List aX}{k x:Nat}(h:∀S∈L,vX R S):∀S∈(visit T R L k x).2,vX R S:=by
 unfold visit;split
 ·split
  ·exact h
  ·intro S hS
   rcases List.mem_append.1 hS with hS|hS
   ·exact h S hS
   ·simp only[List.mem_singleton]at hS
    exact⟨_,hS⟩
 ·exact h
theorem TK(k:Nat):∀S∈(ak T N R k).2,vX R S:=by
 induction k with
 |zero=>intro S hS;simp only[ak,bO,List.mem_singleton]at hS;exact⟨_,hS⟩
 |succ k ih=>
  have e:ak T N R (k+1)=lu T N R k (ak T N R k):=rfl;rw[e,lu];simp only
  have:∀x L,(∀S∈L,vX R S)->∀S∈(cK T R k x L).2,vX R S:=by
   intro x L hL
   induction x with
   |zero=>exact hL
   |succ x ihx=>
    have e:cK T R k (x+1) L=kF T R k x (cK T R k x L):=rfl;rw[e,kF];exact abR ihx
  exact this _ _ ih
theorem Nq{S:aX}(h:vX R S){i:It}(hi:S i){m:Int}(h1:(aJ R i.1)[i.2]?=some (false,m)){n:Nat}(h2:n<R.length)(h3:(R.getD n (0,[])).1=m):S (n,0):=by
 obtain⟨S0,rfl⟩:=h;exact Cl.step (r:=i.1) (d:=i.2) hi h1 h2 h3
theorem Nr{S:aX}{i:It}(hi:S i){s:Sy}{x:Nat}(h1:(aJ R i.1)[i.2]?=some s)(h2:dB T s=x):pG T R S x (i.1,i.2+1):=Cl.base ⟨i,hi,⟨s,h1,h2⟩,rfl⟩
end
inductive lC(T:Nat)(R:List Ru)(rJ:List Sy->Nat->Bool)(mF:List Sy->Bool)(NL:List (List Int))(Ls:List aX):Nat->It->Nat->Prop
 |start:lC T R rJ mF NL Ls 0 (R.length,0) T
 |on {k:Nat} {i:It} {t:Nat} {s:Sy} {n:Nat} (h:lC T R rJ mF NL Ls k i t) (h1:(aJ R i.1)[i.2]?=some s) (h2:(NL.getD k []).getD (dB T s).toNat 0=(n:Int)):lC T R rJ mF NL Ls n (i.1,i.2+1) t
 |begins {k:Nat} {i:It} {t:Nat} {m:Int} {n:Nat} (hk:k<Ls.length) (h:Ls.getD k bG i) (h1:(aJ R i.1)[i.2]?=some (false,m)) (h2:n<R.length) (h3:(R.getD n (0,[])).1=m) (ht:t<=T) (h4:rJ ((aJ R i.1).drop (i.2+1)) t=true):lC T R rJ mF NL Ls k (n,0) t
 |nothing {k:Nat} {i:It} {t:Nat} {m:Int} {n:Nat} (h:lC T R rJ mF NL Ls k i t) (h1:(aJ R i.1)[i.2]?=some (false,m)) (h2:n<R.length) (h3:(R.getD n (0,[])).1=m) (h4:mF ((aJ R i.1).drop (i.2+1))=true):lC T R rJ mF NL Ls k (n,0) t
end Go.Proofs.YtpkmpkphfflpjaaGreat
namespace Go.Proofs.YtpkmpkphfflpjaaGreat
open Go.RowKit
def uS(Nu:List Bool)(Fi:List (List Bool))(T t:Nat):List Sy->Bool×Bool
 | []=>(false,true)
 |(true,v)::_=>(decide (v=(t:Int)),false)
 |(false,v)::l=>if decide (t<T)&&(Fi.getD v.toNat []).getD t false then (true,false) else if Nu.getD v.toNat false then uS Nu Fi T t l else (false,false)
end Go.Proofs.YtpkmpkphfflpjaaGreat
namespace Go.Proofs.YtpkmpkphfflpjaaGreat
abbrev zB:=Nat×Nat->List Bool
abbrev ER:=zB×Bool
structure BH(dom:Nat×Nat->Option Nat)(X Y:zB)(g:Bool):Prop where
 eG:∀p n,dom p=some n->(Y p).length=n
 up:∀p m,bit X p m=true->bit Y p m=true
 still:g=false->Y=X
 grew:g=true->∃p m n,dom p=some n/\m<n/\bit X p m=false/\bit Y p m=true
def TL(p:Nat×Nat)(t:Nat)(s:ER):ER:=if bit s.1 p t then s else (bH s.1 p t true,true)
def acc(F:Nat->zB->ER)(i:Nat)(s:ER):ER:=((F i s.1).1,s.2||(F i s.1).2)
section
variable{dom:Nat×Nat->Option Nat}{Z:Nat×Nat->Nat->Prop}{X Y W:zB}{g h:Bool}
theorem BH.refl(hs:∀p n,dom p=some n->(X p).length=n):BH dom X X false:=⟨hs,fun _ _ h=>h,fun _=>rfl,fun h=>(nomatch h)⟩
theorem BH.trans(a:BH dom X Y g)(b:BH dom Y W h):BH dom X W (g||h):=by
 refine⟨b.eG,fun p m hm=>b.up p m (a.up p m hm),fun e=> ?_,fun e=> ?_⟩
 ·rw[Bool.or_eq_false_iff]at e
  rw[b.still e.2,a.still e.1]
 ·cases g with
  |true=>
   obtain⟨p,m,n,h1,h2,h3,h4⟩:=a.grew rfl;exact⟨p,m,n,h1,h2,h3,b.up p m h4⟩
  |false=>
   obtain⟨p,m,n,h1,h2,h3,h4⟩:=b.grew (by simpa using e);rw[a.still rfl]at h3;exact⟨p,m,n,h1,h2,h3,h4⟩
end
section
variable(OL:List (List It))(NL:List (List Int))(R:List Ru)(T:Nat)(Nu:List Bool)(Fi:List (List Bool))
def toN(k:Nat)(s:Sy):Nat:=((NL.getD k []).getD (dB T s).toNat 0).toNat
def uT(k j:Nat):It:=(OL.getD k []).getD j (0,0)
end
structure BI(T N:Nat)(R:List Ru)(OL:List (List It))(NL:List (List Int))(Ls:List aX)(dom:Nat×Nat->Option Nat):Prop where
 lD:I7 R OL Ls
 len:NL.length=OL.length
 go:∀k,k<OL.length->∀x,x<T+N->(NL.getD k []).length=T+N/\vW T R Ls k x ((NL.getD k []).getD x 0)
 cl:∀k,k<OL.length->vX R (Ls.getD k bG)
 dom:∀k j,dom (k,j)=if k<OL.length/\j<(OL.getD k []).length then some (T+1) else none
 num:∀r,r<=R.length->∀s∈aJ R r,0<=dB T s/\dB T s<(T:Int)+N
section
variable{T N:Nat}{R:List Ru}{OL:List (List It)}{NL:List (List Int)}{Ls:List aX}{dom:Nat×Nat->Option Nat}{Nu:List Bool}{Fi:List (List Bool)}{k j t:Nat}{X:zB}
theorem BI.item(h:BI T N R OL NL Ls dom)(hk:k<OL.length)(hj:j<(OL.getD k []).length):uT OL k j∈OL.getD k []/\Ls.getD k bG (uT OL k j)/\lX R (uT OL k j):=by
 have hm:uT OL k j∈OL.getD k []:=getD_in hj;exact⟨hm,((h.lD.iZ k hk).mem _).1 hm,h.lD.ok k hk _ hm⟩
theorem BI.on(h:BI T N R OL NL Ls dom)(hk:k<OL.length)(hj:j<(OL.getD k []).length){s:Sy}(hs:(aJ R (uT OL k j).1)[(uT OL k j).2]?=some s):
 (NL.getD k []).getD (dB T s).toNat 0=((toN NL T k s:Nat):Int)/\toN NL T k s<OL.length/\((uT OL k j).1,(uT OL k j).2+1)∈OL.getD (toN NL T k s) []/\(dB T s).toNat<T+N/\((dB T s).toNat:Int)=dB T s:=by
 obtain⟨h1,h2,h3⟩:=h.item hk hj;have hn:=h.num _ h3.1 s (List.mem_of_getElem? hs);have hx:(dB T s).toNat<T+N:=by omega
 have hcast:((dB T s).toNat:Int)=dB T s:=by omega
 obtain⟨hl,hg⟩:=h.go k hk _ hx;obtain⟨n,e1,e2,e3⟩:=hg.some ⟨_,h2,s,hs,hcast.symm⟩;have et:toN NL T k s=n:=by unfold toN;rw[e1];simp
 rw[et,e1];have hn':n<OL.length:=by rw[h.lD.len];exact e2
 refine⟨rfl,hn',((h.lD.iZ n hn').mem _).2 ?_,hx,hcast⟩;rw[e3];exact Nr h2 hs hcast.symm
theorem BI.close(h:BI T N R OL NL Ls dom)(hk:k<OL.length)(hj:j<(OL.getD k []).length){m:Int}(hs:(aJ R (uT OL k j).1)[(uT OL k j).2]?=some (false,m)){n:Nat}(hn:n<R.length)(hL:(R.getD n (0,[])).1=m):(n,0)∈OL.getD k []:=
 ((h.lD.iZ k hk).mem _).2 (Nq (h.cl k hk) (h.item hk hj).2.1 hs hn hL)
end
def xJ(Nu:List Bool)(l:List Sy):Bool:=l.all fun s=> !s.1&&Nu.getD s.2.toNat false
def nQ(Nu:List Bool)(Fi:List (List Bool))(T:Nat)(l:List Sy)(t:Nat):Bool:=(uS Nu Fi T t l).1
section
variable{T N:Nat}{R:List Ru}{OL:List (List It)}{NL:List (List Int)}{Ls:List aX}{dom:Nat×Nat->Option Nat}{Nu:List Bool}{Fi:List (List Bool)}{X:zB}
abbrev vY(T:Nat)(R:List Ru)(Nu:List Bool)(Fi:List (List Bool))(NL:List (List Int))(Ls:List aX):=lC T R (nQ Nu Fi T) (xJ Nu) NL Ls
end
section
variable(OL:List (List It))(NL:List (List Int))(R:List Ru)(T:Nat)(Nu:List Bool)(Fi:List (List Bool))
end
section
variable{T N:Nat}{R:List Ru}{OL:List (List It)}{NL:List (List Int)}{Ls:List aX}{dom:Nat×Nat->Option Nat}{Nu:List Bool}{Fi:List (List Bool)}{X:zB}
end
end Go.Proofs.YtpkmpkphfflpjaaGreat
