import Derived.Test.YtpkmpkphfflpjaaGreatGrW3AndTrCar
import Derived.Test.YtpkmpkphfflpjaaGreatDerdMathAndOne8Mem
set_option maxHeartbeats 3200000
set_option maxRecDepth 100000
namespace Go.Proofs.YtpkmpkphfflpjaaGreat
open Go.RowKit
structure DL(w W:World)(cx:Array Value)(tx:TypeId)(q:Int)(kv:Value):Prop where
 below:Below w.heap.size w W
 size:W.heap.size=w.heap.size+3
 fG:W.heap[w.heap.size]?=some (.cells cx tx (0,0))
 gV:W.heap[w.heap.size+1]?=some (.cells #[.int .i64 q,kv] 73 (0,0))
 res:W.heap[w.heap.size+1+1]?=some (.cells #[.int .i64 0,.slice none 0 0] 73 (0,0))
theorem oh{w W:World}{cx:Array Value}{tx:TypeId}{q:Int}{kv:Value}(hW:((w.alloc (.cells cx tx)).alloc (.cells #[.int .i64 q,kv] 73)).alloc (.cells #[.int .i64 0,.slice none 0 0] 73)=W):DL w W cx tx q kv:=by
 subst hW;have h1:=heap_alloc_new w (.cells cx tx);have h2:=heap_alloc_new (w.alloc (.cells cx tx)) (.cells #[.int .i64 q,kv] 73);have h3:=heap_alloc_new ((w.alloc (.cells cx tx)).alloc (.cells #[.int .i64 q,kv] 73)) (.cells #[.int .i64 0,.slice none 0 0] 73);have b1:=(Below.refl (w.alloc (.cells cx tx)).heap.size (w.alloc (.cells cx tx))).alloc (Nat.le_refl _) (.cells #[.int .i64 q,kv] 73);have b2:=(Below.refl ((w.alloc (.cells cx tx)).alloc (.cells #[.int .i64 q,kv] 73)).heap.size ((w.alloc (.cells cx tx)).alloc (.cells #[.int .i64 q,kv] 73))).alloc (Nat.le_refl _) (.cells #[.int .i64 0,.slice none 0 0] 73);refine⟨(((Below.refl _ _).alloc (Nat.le_refl _) _).alloc (by simp) _).alloc (by simp;omega) _,by simp,?_,?_,?_⟩
 ·rw[b2.block _ (by simp;omega),b1.block _ (by simp)];exact h1
 ·rw[b2.block _ (by simp)];simpa using h2
 ·simpa using h3
theorem kW{w:World}{b:Nat}{v0 v1:Value}(h:w.heap[b]?=some (.cells #[.int .i64 0,.slice none 0 0] 73 (0,0))):((w.setCell ⟨b,0,none⟩ v0).setCell ⟨b,1,none⟩ v1).cell? ⟨b,0,none⟩=some v0:=LW (ah h rfl)
theorem kX{w:World}{b:Nat}{v0 v1:Value}(h:w.heap[b]?=some (.cells #[.int .i64 0,.slice none 0 0] 73 (0,0))):((w.setCell ⟨b,0,none⟩ v0).setCell ⟨b,1,none⟩ v1).cell? ⟨b,1,none⟩=some v1:=LX (ah h rfl)
theorem aG.laid{w:World}{A:Nat->Prop}{v:Value}{t:Fo}(h:aG w A v t){b:Nat}(hA:¬A b)(v0 v1:Value){A':Nat->Prop}(hA':∀b,A b->A' b):aG ((w.setCell ⟨b,0,none⟩ v0).setCell ⟨b,1,none⟩ v1) A' v t:=h.kept fun c hc _=>by
 have hne:c≠b:=fun e=>hA (e▸hc);exact⟨by rw[Below.heap_setCell _ _ _ _ hne,Below.heap_setCell _ _ _ _ hne],hA' c hc⟩
section
variable{w:World}{A:Nat->Prop}{T N o a b c:Int}{ra:Option Addr}{rl rc:Nat}{q:Nat}{ks:Fo}{kv:Value}
theorem ZW(hk:aG w A kv ks)(hA:∀b,A b->b<w.heap.size):
 Calls Tryz.prog 131 #[.agg #[.int .i64 T,.int .i64 N,.slice ra rl rc,.int .i64 o,.int .i64 a,.int .i64 b,.int .i64 c],.agg #[.int .i64 (q:Int),kv]] w fun e w'=> ∃kv',e= .returned (.agg #[.int .i64 (q:Int),kv'])/\aG w' (fun b=>A b\/w.heap.size<=b) kv' ks/\Below w.heap.size w w':=by
 have hk1:=hk;obtain⟨ka,kc,hkv,_⟩:=hk1;obtain⟨n1,hn1⟩:∃n,aS ks=n:=⟨_,rfl⟩;rw[hn1]at hkv;subst hkv;obtain⟨W,hW⟩:∃W,((w.alloc (.cells #[.int .i64 T,.int .i64 N,.slice ra rl rc,.int .i64 o,.int .i64 a,.int .i64 b,.int .i64 c] 107)).alloc (.cells #[.int .i64 (q:Int),.slice ka n1 kc] 73)).alloc (.cells #[.int .i64 0,.slice none 0 0] 73)=W:=⟨_,rfl⟩;have hM:=oh hW;have x0:W.cell? ⟨w.heap.size+1,0,none⟩=some (.int .i64 (q:Int)):=ah hM.gV rfl;have x1:W.cell? ⟨w.heap.size+1,1,none⟩=some (.slice ka n1 kc):=ah hM.gV rfl;have y0:W.cell? ⟨w.heap.size+1+1,0,none⟩=some (.int .i64 0):=ah hM.res rfl;have y1:W.cell? ⟨w.heap.size+1+1,1,none⟩=some (.slice none 0 0):=ah hM.res rfl;have eB:W.frozen? ⟨w.heap.size+1+1,0,none⟩=false:=bE hM.res;have eD:W.frozen? ⟨w.heap.size+1+1,1,none⟩=false:=bE hM.res;have q0:=kW (v0:= .int .i64 (q:Int)) (v1:= .slice ka n1 kc) hM.res;have q1:=kX (v0:= .int .i64 (q:Int)) (v1:= .slice ka n1 kc) hM.res;have HF:Hid (aG W A (.slice ka n1 kc) ks/\Below w.heap.size w W):=⟨hk.below hM.below,hM.below⟩;have HA:Hid (∀b,A b->b<w.heap.size):=hA;clear hk hA hM hn1
 go_enter Tryz.func131,Tryz.ntmps131
 go_wp2_with fail
 refine bodyPost_ret (v:= .agg #[.int .i64 (q:Int),.slice ka n1 kc]) (by simp[results,Tryz.results131,go_sem,q0,q1]) rfl ?_;exact⟨_,rfl,HF.out.1.laid (fun h=>by have:=HA.out _ h;omega) _ _ fun b hb=> .inl hb,(HF.out.2.setCell (by simp;omega) _).setCell (by simp;omega) _⟩
theorem ZX(hk:aG w A kv ks)(hA:∀b,A b->b<w.heap.size):
 Calls Tryz.prog 130 #[.agg #[.int .i64 T,.int .i64 N,.slice ra rl rc,.int .i64 o,.int .i64 a,.int .i64 b,.int .i64 c],.agg #[.int .i64 (q:Int),kv]] w fun e w'=> ∃kv',e= .returned (.agg #[.int .i64 (q:Int),kv'])/\aG w' (fun b=>A b\/w.heap.size<=b) kv' ks/\Below w.heap.size w w':=by
 have hk1:=hk;obtain⟨ka,kc,hkv,_⟩:=hk1;obtain⟨n1,hn1⟩:∃n,aS ks=n:=⟨_,rfl⟩;rw[hn1]at hkv;subst hkv;obtain⟨W,hW⟩:∃W,((w.alloc (.cells #[.int .i64 T,.int .i64 N,.slice ra rl rc,.int .i64 o,.int .i64 a,.int .i64 b,.int .i64 c] 107)).alloc (.cells #[.int .i64 (q:Int),.slice ka n1 kc] 73)).alloc (.cells #[.int .i64 0,.slice none 0 0] 73)=W:=⟨_,rfl⟩;have hM:=oh hW;have x0:W.cell? ⟨w.heap.size+1,0,none⟩=some (.int .i64 (q:Int)):=ah hM.gV rfl;have x1:W.cell? ⟨w.heap.size+1,1,none⟩=some (.slice ka n1 kc):=ah hM.gV rfl;have y0:W.cell? ⟨w.heap.size+1+1,0,none⟩=some (.int .i64 0):=ah hM.res rfl;have y1:W.cell? ⟨w.heap.size+1+1,1,none⟩=some (.slice none 0 0):=ah hM.res rfl;have eB:W.frozen? ⟨w.heap.size+1+1,0,none⟩=false:=bE hM.res;have eD:W.frozen? ⟨w.heap.size+1+1,1,none⟩=false:=bE hM.res;have q0:=kW (v0:= .int .i64 (q:Int)) (v1:= .slice ka n1 kc) hM.res;have q1:=kX (v0:= .int .i64 (q:Int)) (v1:= .slice ka n1 kc) hM.res;have HF:Hid (aG W A (.slice ka n1 kc) ks/\Below w.heap.size w W):=⟨hk.below hM.below,hM.below⟩;have HA:Hid (∀b,A b->b<w.heap.size):=hA;clear hk hA hM hn1
 go_enter Tryz.func130,Tryz.ntmps130
 go_wp2_with fail
 refine bodyPost_ret (v:= .agg #[.int .i64 (q:Int),.slice ka n1 kc]) (by simp[results,Tryz.results130,go_sem,q0,q1]) rfl ?_;exact⟨_,rfl,HF.out.1.laid (fun h=>by have:=HA.out _ h;omega) _ _ fun b hb=> .inl hb,(HF.out.2.setCell (by simp;omega) _).setCell (by simp;omega) _⟩
end
def uy(q':Nat)(ks':Fo):Fo->Prop
 | .no=>False
 | .nd q ks ts=>(q'=q/\ks'=ks)\/uy q' ks' ts
theorem sj{q':Nat}{ks':Fo}:∀{t:Fo},uy q' ks' t->(ai ks').length<(ai t).length
 | .nd q ks ts,h=>by
  rw[ai,List.length_cons,List.length_append];rcases h with⟨_,rfl⟩|h
  ·omega
  ·have:=sj h;omega
theorem DN{L:List Tr}{x:Tr}(h:x∈L):uy x.2.1 x.2.2 (rowOf L):=by
 induction L with
 |nil=>cases h
 |cons y L ih=>
  rcases List.mem_cons.1 h with rfl|h
  ·exact .inl ⟨rfl,rfl⟩
  ·exact .inr (ih h)
theorem qj(L:List Tr):L.length<=(ai (rowOf L)).length:=by
 induction L with
 |nil=>exact Nat.zero_le _
 |cons y L ih=>rw[rowOf,ai,List.length_cons,List.length_cons,List.length_append];omega
theorem Rk{F:Nat->Fo->Nat×Fo}{G:Fo->Fo}(h0:G .no= .no)(hG:∀q ks ts,G (.nd q ks ts)= .nd (F q ks).1 (F q ks).2 (G ts)):∀(L L':List Tr),(L'.map fun x=>x.2)=L.map (fun x=>F x.2.1 x.2.2)->rowOf L'=G (rowOf L)
 | [],[],_=>h0.symm
 | [],_::_,h=>by simp at h
 |_::_,[],h=>by simp at h
 |x::L,y::L',h=>by
  simp only[List.map_cons,List.cons.injEq]at h;rw[rowOf,rowOf,hG,Rk h0 hG L L' h.2,h.1]
theorem AY{w:World}{A:Nat->Prop}{v recv:Value}{ks:Fo}{dn:Nat}{F:Nat->Fo->Nat×Fo}{G:Fo->Fo}(hdn:∀args w,(callFunc dn args).run Tryz.prog w= .ok (.enter dn args) w)(h0:G .no= .no)(hG:∀q ks ts,G (.nd q ks ts)= .nd (F q ks).1 (F q ks).2 (G ts))(hk:aG w A v ks)(hA:∀b,A b->b<w.heap.size)(hl:(ai ks).length<=50000)
 (hF:∀(w':World) (q':Nat) (ks':Fo) (kv':Value),uy q' ks' ks->Below w.heap.size w w'->aG w' A kv' ks'->(∀b,A b->b<w'.heap.size)->Calls Tryz.prog dn #[recv,.agg #[.int .i64 (q':Int),kv']] w' fun e w''=> ∃kv,e= .returned (.agg #[.int .i64 ((F q' ks').1:Int),kv])/\aG w'' (fun b=>A b\/w'.heap.size<=b) kv (F q' ks').2/\Below w'.heap.size w' w''):
 Calls Tryz.prog 141 #[v,.func (.func dn) #[recv] #[]] w fun e w'=> ∃ov L',e= .returned ov/\gu w' w.heap.size A ov L'/\rowOf L'=G ks/\Below w.heap.size w w':=by
 obtain⟨L,rfl,hL⟩:=hk.list;refine(QL (F:=F) hdn hL hA (Nat.le_trans (qj L) hl) fun x hx w' hb=> ?_).mono ?_
 ·exact hF w' x.2.1 x.2.2 x.1 (DN hx) hb ((hL.kids x hx).below hb) fun b hb'=>Nat.lt_of_lt_of_le (hA b hb') hb.size
 ·rintro e w' ⟨ov,L',rfl,h1,h2,h3⟩
  exact⟨ov,L',rfl,h1,Rk h0 hG L L' h2,h3⟩
def xu(P:Nat->Prop):Fo->Prop
 | .no=>True
 | .nd q ks ts=>P q/\xu P ks/\xu P ts
theorem L9{P:Nat->Prop}{q':Nat}{ks':Fo}:∀{t:Fo},xu P t->uy q' ks' t->P q'/\xu P ks'
 | .nd _ _ _,h,hm=>by
  rcases hm with⟨rfl,rfl⟩|hm
  ·exact⟨h.1,h.2.1⟩
  ·exact L9 h.2.2 hm
theorem Ma{R:List Ru}:∀(t:Fo) (ns:List Int),okF R t ns->xu (fun q=>q<R.length) t
 | .no,_,_=>trivial
 | .nd _ ks ts,_,⟨_,_,_,h1,_,h2,h3⟩=>⟨h1,Ma ks _ h2,Ma ts _ h3⟩
theorem aG.rz{w:World}{A:Nat->Prop}{s z:Nat}{v:Value}{t:Fo}(h:aG w (fun b=>A b\/z<=b) v t)(hA:∀b,A b->b<s)(hz:s+3<=z)(v0 v1:Value):aG ((w.setCell ⟨s+1+1,0,none⟩ v0).setCell ⟨s+1+1,1,none⟩ v1) (fun b=>A b\/s<=b) v t:=by
 refine h.laid ?_ v0 v1 ?_
 ·rintro (h|h)
  ·have:=hA _ h;omega
  ·omega
 ·rintro b (h|h)
  ·exact .inl h
  ·exact .inr (by omega)
def Rl(sz:Nat)(T N o a b c:Int)(ra:Option Addr)(rl rc:Nat)(ov:Value)(q:Nat)(kv:Value)(g u:Nat)(wq:World):Prop:=
 wq.cell? ⟨sz,0,none⟩=some (.int .i64 T)/\wq.cell? ⟨sz,1,none⟩=some (.int .i64 N)/\wq.cell? ⟨sz,2,none⟩=some (.slice ra rl rc)/\wq.cell? ⟨sz,3,none⟩=some (.int .i64 o)/\wq.cell? ⟨sz,4,none⟩=some (.int .i64 a)/\wq.cell? ⟨sz,5,none⟩=some (.int .i64 b)/\wq.cell? ⟨sz,6,none⟩=some (.int .i64 c)/\wq.cell? ⟨sz,7,none⟩=some ov/\wq.cell? ⟨sz+1,0,none⟩=some (.int .i64 (q:Int))/\wq.cell? ⟨sz+1,1,none⟩=some kv/\wq.cell? ⟨g,q,none⟩=some (.int .i64 (u:Int))
section
variable{w0:World}{B:Nat}{ov:Value}{I:List Nat}{T N o a b c:Int}{ra:Option Addr}{rl rc:Nat}
theorem ZY(hO:w0.ownsRow B 3 1 ov I.length (iI I)):∀(n:Nat) (w:World) (q:Nat) (ks:Fo) (kv:Value) (A:Nat->Prop),(ai ks).length<n->Below w0.heap.size w0 w->q<I.length->xu (fun q=>q<I.length) ks->(ai ks).length<=2000->aG w A kv ks->(∀b,A b->b<w.heap.size)->
 Calls Tryz.prog 159 #[.agg #[.int .i64 T,.int .i64 N,.slice ra rl rc,.int .i64 o,.int .i64 a,.int .i64 b,.int .i64 c,ov],.agg #[.int .i64 (q:Int),kv]] w fun e w'=> ∃kv',e= .returned (.agg #[.int .i64 ((I.getD q 0:Nat):Int),kv'])/\aG w' (fun b=>A b\/w.heap.size<=b) kv' (iB (fun j=>I.getD j 0) ks)/\Below w.heap.size w w':=by
 intro n
 induction n with
 |zero=>intro _ _ _ _ _ h;omega
 |succ n ih=>
 intro w q ks kv A hn hb0 hq hall hl hk hA;obtain⟨g,cap,hov,hBg,hgl⟩:=hO.form (by omega);subst hov;obtain⟨u,hu⟩:∃u:Nat,I.getD q 0=u:=⟨_,rfl⟩
 have hgc:w0.cell? ⟨g,q,none⟩=some (.int .i64 (u:Int)):=by
  rw[hO.cellAt q (by omega)];simp[iI,hq,<-hu]
 have hk1:=hk;obtain⟨ka,kc,hkv,_⟩:=hk1;obtain⟨n1,hn1⟩:∃n,aS ks=n:=⟨_,rfl⟩;rw[hn1]at hkv;subst hkv;obtain⟨W,hW⟩:∃W,((w.alloc (.cells #[.int .i64 T,.int .i64 N,.slice ra rl rc,.int .i64 o,.int .i64 a,.int .i64 b,.int .i64 c,.slice (some ⟨g,0,none⟩) I.length cap] 119)).alloc (.cells #[.int .i64 (q:Int),.slice ka n1 kc] 73)).alloc (.cells #[.int .i64 0,.slice none 0 0] 73)=W:=⟨_,rfl⟩;have hM:=oh hW;obtain⟨Wd,hWd⟩:∃V,W.drew=V:=⟨_,rfl⟩;have hBd:Below W.heap.size W Wd:=by rw[<-hWd];exact(Below.refl _ _).drew
 have DR:w.heap.size+3<=Wd.heap.size:=by have:=hBd.size;have:=hM.size;omega
 have hBw:Below w.heap.size w Wd:=hM.below.trans (hBd.mono hM.below.size)
 have HS:Hid (∀wq,Below Wd.heap.size Wd wq->Rl w.heap.size T N o a b c ra rl rc (.slice (some ⟨g,0,none⟩) I.length cap) q (.slice ka n1 kc) g u wq/\wq.heap[w.heap.size+1+1]?=some (.cells #[.int .i64 0,.slice none 0 0] 73 (0,0))):=fun wq hq'=>by
  have h1:Below W.heap.size W wq:=hBd.trans (hq'.mono hBd.size);have hc:=(h1.block _ (by have:=hM.size;omega)).trans hM.fG;have ht:=(h1.block _ (by have:=hM.size;omega)).trans hM.gV;have h2:Below w0.heap.size w0 wq:=hb0.trans ((hM.below.trans (h1.mono hM.below.size)).mono hb0.size);exact⟨⟨ah hc rfl,ah hc rfl,ah hc rfl,ah hc rfl,ah hc rfl,ah hc rfl,ah hc rfl,ah hc rfl,ah ht rfl,ah ht rfl,(h2.cell hgl).trans hgc⟩,(h1.block _ (by have:=hM.size;omega)).trans hM.res⟩
 have S0:=(HS.out Wd (Below.refl _ _)).1
 have ea:=AY (w:=Wd) (A:=A) (v:= .slice ka n1 kc) (recv:= .agg #[.int .i64 T,.int .i64 N,.slice ra rl rc,.int .i64 o,.int .i64 a,.int .i64 b,.int .i64 c,.slice (some ⟨g,0,none⟩) I.length cap]) (dn:=159) (F:=fun q ks=>(I.getD q 0,iB (fun j=>I.getD j 0) ks)) (G:=iB (fun j=>I.getD j 0)) (fun args w'=>by simp[callFunc,Tryz.func159,Tryz.f159 ]) rfl (fun _ _ _=>rfl) (hk.below hBw) (fun b hb=>Nat.lt_of_lt_of_le (hA b hb) hBw.size) (by omega) fun w' q' ks' kv' hm hb' hk' hA'=>by
  have:=sj hm;have h2:=L9 hall hm;exact ih w' q' ks' kv' A (by omega) (hb0.trans ((hBw.trans (hb'.mono hBw.size)).mono hb0.size)) h2.1 h2.2 (by omega) hk' hA'
 have hqI:decide (q<I.length)=true:=decide_eq_true hq;have iK:Hid (Below w.heap.size w Wd/\w.heap.size+3<=Wd.heap.size):=⟨hBw,DR⟩;have HA:Hid (∀b,A b->b<w.heap.size):=hA;have HU:Hid (I.getD q 0=u):=hu;rw[hu];clear hO ih hn hb0 hall hl hk hA hBg hgl hgc hn1 hM hBd DR hBw hu
 go_enter Tryz.func159,Tryz.ntmps159
 go_upto_region 1 with fail
 refine iw [0,1,2,3,4,5,6,7,8,9] 3 12 (Rl w.heap.size T N o a b c ra rl rc (.slice (some ⟨g,0,none⟩) I.length cap) q (.slice ka n1 kc) g u) (by kernel_rfl) (by kernel_rfl) (by rw[hWd];exact S0) ?_;rw[hWd];clear hWd S0 hW
 iterate 10
  refine aU.gN (v:= ?_) rfl (by rfl) ?_ ?_;rotate_left
  ·intro w' hSw
   obtain⟨z0,z1,z2,z3,z4,z5,z6,z7,z8,z9,jK⟩:=hSw
   go_simp
   try with_reducible rfl
  simp only[Act.put,List.setIfInBounds_toArray,List.set_cons_zero,List.set_cons_succ]
 rw[aU];refine ax.one (i:=10) (by kernel_rfl) ⟨_,rfl,fun K hK=> ?_⟩
 go_simp
 refine ea.mono ?_;rintro e w3 ⟨rv,L',rfl,bY,hG3,hB3⟩;obtain⟨la,lc,hlv⟩:=aY bY.own;subst hlv;obtain⟨n3,jv⟩:∃n,L'.length=n:=⟨_,rfl⟩;rw[jv]at bY⊢;dsimp only;refine hK.out _ _ (fun _=>(HS.out w3 hB3).1) ?_;clear hK ea;have hres:=(HS.out w3 hB3).2;have y0:w3.cell? ⟨w.heap.size+1+1,0,none⟩=some (.int .i64 0):=ah hres rfl;have y1:w3.cell? ⟨w.heap.size+1+1,1,none⟩=some (.slice none 0 0):=ah hres rfl;have eB:w3.frozen? ⟨w.heap.size+1+1,0,none⟩=false:=bE hres;have eD:w3.frozen? ⟨w.heap.size+1+1,1,none⟩=false:=bE hres;have q0:=kW (v0:= .int .i64 (u:Int)) (v1:= .slice la n3 lc) hres;have q1:=kX (v0:= .int .i64 (u:Int)) (v1:= .slice la n3 lc) hres;refine ax.one (i:=11) (by kernel_rfl) ⟨_,rfl,fun K hK=> ?_⟩
 go_simp
 refine hK.out _ _ (fun _=>(HS.out w3 hB3).1) ?_;clear hK
 have HT:Hid (aG w3 (fun b=>A b\/Wd.heap.size<=b) (.slice la n3 lc) (iB (fun j=>I.getD j 0) ks)/\Below Wd.heap.size Wd w3):=by
  refine⟨?_,hB3⟩;have:=bY.kU.fo;rw[hG3]at this;exact this
 clear bY hG3 hB3 jv hres;refine ax.last (i:=12) (by kernel_rfl) ⟨_,rfl,fun K hK=> ?_⟩
 go_simp
 refine hK.out _ _ (fun h=>absurd h (by omega)) (NoPanic.normal ?_);clear hK
 go_wp2_with fail
 refine bodyPost_ret (v:= .agg #[.int .i64 (u:Int),.slice la n3 lc]) (by simp[results,Tryz.results159,go_sem,q0,q1]) rfl ?_;have hz:=iK.out.2;exact⟨_,rfl,HT.out.1.rz HA.out hz _ _,((iK.out.1.trans (HT.out.2.mono iK.out.1.size)).setCell (by simp;omega) _).setCell (by simp;omega) _⟩
end
theorem Rm{w:World}{lim:Nat}{sv:Value}{L:List Int}(h:aH w lim sv L)(hl:L.length<=1000000){x:Int}{p:Nat}(hp:p<L.length)(hx:L.getD p 0=x)(hne:∀j,j<p->L.getD j 0≠x):
 Calls Tryz.prog 152 #[sv,.int .i64 x] w fun e w'=>e= .returned (.int .i64 (p:Int))/\w'=w:=by
 obtain⟨sa,sc,hsv⟩:=h.1;subst hsv;have HL:Hid (aH w lim (.slice sa L.length sc) L):=h;have HX:Hid (L.getD p 0=x/\∀j,j<p->L.getD j 0≠x):=⟨hx,hne⟩;clear h hx hne
 go_enter Tryz.func152,Tryz.ntmps152
 go_wp2_with fail
 go_loop [8] (fun s=> ∃k:Nat,s= .int .i64 k/\k<=p) (fun s=>L.length-(intOf s).toNat)
 case atStart=>exact⟨0,rfl,Nat.zero_le _⟩
 case round=>
  obtain⟨k,rfl,hk⟩:=hrel;have hlt:k<L.length:=by omega
  obtain⟨b,o,sc',he,_,c1⟩:=HL.out.2 k hlt;injection he with ha _ hc;subst ha;subst hc;obtain⟨y,hy⟩:∃y,L.getD k 0=y:=⟨_,rfl⟩;rw[hy]at c1;have i0:(0:Int)<=(k:Int):=Int.natCast_nonneg _;have i1:(k:Int)<(L.length:Int):=by omega
  by_cases hxy:k=p
  ·subst hxy
   have:y=x:=hy.symm.trans HX.out.1;subst this;clear hy
   go_wp2_with fail
   go_ret;exact⟨rfl,rfl⟩
  ·have hb:(x==y)=false:=by
    have:=HX.out.2 k (by omega);rw[hy]at this;simpa using fun e=>this e.symm
   clear hy
   go_wp2_with fail
   go_round
   case rel=>exact⟨k+1,by go_num,by omega⟩
   case measure=>simp[intOf];omega
theorem Rn(I:List Nat):iI I=jr (I.map fun(n:Nat)=>(n:Int)):=by unfold iI jr;rw[List.map_map];rfl
theorem getD_map(I:List Nat)(j:Nat):(I.map fun(n:Nat)=>(n:Int)).getD j 0=((I.getD j 0:Nat):Int):=by
 rw[List.getD,List.getD,List.getElem?_map];cases I[j]?<;>rfl
def DT(I:List Nat)(f:Nat->Nat)(q:Nat):Prop:=f q<I.length/\I.getD (f q) 0=q/\∀j,j<f q->I.getD j 0≠q
def Ro(sz:Nat)(T N o a b c:Int)(ra:Option Addr)(rl rc:Nat)(ov:Value)(q:Nat)(kv:Value)(wq:World):Prop:=
 wq.cell? ⟨sz,0,none⟩=some (.int .i64 T)/\wq.cell? ⟨sz,1,none⟩=some (.int .i64 N)/\wq.cell? ⟨sz,2,none⟩=some (.slice ra rl rc)/\wq.cell? ⟨sz,3,none⟩=some (.int .i64 o)/\wq.cell? ⟨sz,4,none⟩=some (.int .i64 a)/\wq.cell? ⟨sz,5,none⟩=some (.int .i64 b)/\wq.cell? ⟨sz,6,none⟩=some (.int .i64 c)/\wq.cell? ⟨sz,7,none⟩=some ov/\wq.cell? ⟨sz+1,0,none⟩=some (.int .i64 (q:Int))/\wq.cell? ⟨sz+1,1,none⟩=some kv
section
variable{w0:World}{B:Nat}{ov:Value}{I:List Nat}{T N o a b c:Int}{ra:Option Addr}{rl rc:Nat}
theorem Z0{f:Nat->Nat}(uz:I.length<=100000)(hO:w0.ownsRow B 3 1 ov I.length (iI I)):∀(n:Nat) (w:World) (q:Nat) (ks:Fo) (kv:Value) (A:Nat->Prop),(ai ks).length<n->Below w0.heap.size w0 w->DT I f q->xu (DT I f) ks->(ai ks).length<=2000->aG w A kv ks->(∀b,A b->b<w.heap.size)->
 Calls Tryz.prog 160 #[.agg #[.int .i64 T,.int .i64 N,.slice ra rl rc,.int .i64 o,.int .i64 a,.int .i64 b,.int .i64 c,ov],.agg #[.int .i64 (q:Int),kv]] w fun e w'=> ∃kv',e= .returned (.agg #[.int .i64 ((f q:Nat):Int),kv'])/\aG w' (fun b=>A b\/w.heap.size<=b) kv' (iB f ks)/\Below w.heap.size w w':=by
 intro n
 induction n with
 |zero=>intro _ _ _ _ _ h;omega
 |succ n ih=>
 intro w q ks kv A hn hb0 hq hall hl hk hA;obtain⟨g,cap,hov,hBg,hgl⟩:=hO.form (by have:=hq.1;omega);subst hov;obtain⟨u,hu⟩:∃u:Nat,f q=u:=⟨_,rfl⟩
 have hIx:Hid (∀wq,Below w0.heap.size w0 wq->Calls Tryz.prog 152 #[.slice (some ⟨g,0,none⟩) I.length cap,.int .i64 (q:Int)] wq fun e w'=>e= .returned (.int .i64 (u:Int))/\w'=wq):=fun wq hq'=>by
  have h1:=own_below hO hq' fun g hg=>(hO.lt g hg).2;rw[Rn]at h1;have h2:=Li (Z:=I.map fun(n:Nat)=>(n:Int)) (by rw[List.length_map];exact h1);refine Rm h2 (by rw[List.length_map];omega) (by rw[List.length_map,<-hu];exact hq.1) (by rw[getD_map,<-hu,hq.2.1]) fun j hj=> ?_;rw[getD_map];have:=hq.2.2 j (by omega);omega
 have hk1:=hk;obtain⟨ka,kc,hkv,_⟩:=hk1;obtain⟨n1,hn1⟩:∃n,aS ks=n:=⟨_,rfl⟩;rw[hn1]at hkv;subst hkv;obtain⟨W,hW⟩:∃W,((w.alloc (.cells #[.int .i64 T,.int .i64 N,.slice ra rl rc,.int .i64 o,.int .i64 a,.int .i64 b,.int .i64 c,.slice (some ⟨g,0,none⟩) I.length cap] 119)).alloc (.cells #[.int .i64 (q:Int),.slice ka n1 kc] 73)).alloc (.cells #[.int .i64 0,.slice none 0 0] 73)=W:=⟨_,rfl⟩;have hM:=oh hW;obtain⟨Wd,hWd⟩:∃V,W.drew=V:=⟨_,rfl⟩;have hBd:Below W.heap.size W Wd:=by rw[<-hWd];exact(Below.refl _ _).drew
 have DR:w.heap.size+3<=Wd.heap.size:=by have:=hBd.size;have:=hM.size;omega
 have hBw:Below w.heap.size w Wd:=hM.below.trans (hBd.mono hM.below.size)
 have HS:Hid (∀wq,Below Wd.heap.size Wd wq->Ro w.heap.size T N o a b c ra rl rc (.slice (some ⟨g,0,none⟩) I.length cap) q (.slice ka n1 kc) wq/\wq.heap[w.heap.size+1+1]?=some (.cells #[.int .i64 0,.slice none 0 0] 73 (0,0))):=fun wq hq'=>by
  have h1:Below W.heap.size W wq:=hBd.trans (hq'.mono hBd.size);have hc:=(h1.block _ (by have:=hM.size;omega)).trans hM.fG;have ht:=(h1.block _ (by have:=hM.size;omega)).trans hM.gV;exact⟨⟨ah hc rfl,ah hc rfl,ah hc rfl,ah hc rfl,ah hc rfl,ah hc rfl,ah hc rfl,ah hc rfl,ah ht rfl,ah ht rfl⟩,(h1.block _ (by have:=hM.size;omega)).trans hM.res⟩
 have S0:=(HS.out Wd (Below.refl _ _)).1
 have ea:=AY (w:=Wd) (A:=A) (v:= .slice ka n1 kc) (recv:= .agg #[.int .i64 T,.int .i64 N,.slice ra rl rc,.int .i64 o,.int .i64 a,.int .i64 b,.int .i64 c,.slice (some ⟨g,0,none⟩) I.length cap]) (dn:=160) (F:=fun q ks=>(f q,iB f ks)) (G:=iB f) (fun args w'=>by simp[callFunc,Tryz.func160,Tryz.f160 ]) rfl (fun _ _ _=>rfl) (hk.below hBw) (fun b hb=>Nat.lt_of_lt_of_le (hA b hb) hBw.size) (by omega) fun w' q' ks' kv' hm hb' hk' hA'=>by
  have:=sj hm;have h2:=L9 hall hm;exact ih w' q' ks' kv' A (by omega) (hb0.trans ((hBw.trans (hb'.mono hBw.size)).mono hb0.size)) h2.1 h2.2 (by omega) hk' hA'
 have ix:=hIx.out Wd (hb0.trans (hBw.mono hb0.size));have iK:Hid (Below w.heap.size w Wd/\w.heap.size+3<=Wd.heap.size):=⟨hBw,DR⟩;have HA:Hid (∀b,A b->b<w.heap.size):=hA;have HU:Hid (f q=u):=hu;rw[hu];clear hO ih hn hb0 hall hl hk hA hBg hgl hIx hq hn1 hM hBd DR hBw hu
 go_enter Tryz.func160,Tryz.ntmps160
 go_upto_region 1 with fail
 refine iw [0,1,2,3,5,6,7,8] 4 11 (Ro w.heap.size T N o a b c ra rl rc (.slice (some ⟨g,0,none⟩) I.length cap) q (.slice ka n1 kc)) (by kernel_rfl) (by kernel_rfl) (by rw[hWd];exact S0) ?_;rw[hWd];clear hWd S0 hW
 iterate 8
  refine aU.gN (v:= ?_) rfl (by rfl) ?_ ?_;rotate_left
  ·intro w' hSw
   obtain⟨z0,z1,z2,z3,z4,z5,z6,z7,z8,z9⟩:=hSw
   go_simp
   try with_reducible rfl
  simp only[Act.put,List.setIfInBounds_toArray,List.set_cons_zero,List.set_cons_succ]
 rw[aU];refine ax.one (i:=4) (by kernel_rfl) ⟨_,rfl,fun K hK=> ?_⟩
 go_simp
 refine ix.mono ?_;rintro e w2 ⟨rfl,h2⟩;obtain rfl:Wd=w2:=h2.symm;dsimp only;refine hK.out _ _ (fun _=>(HS.out Wd (Below.refl _ _)).1) ?_;clear hK ix;refine ax.one (i:=9) (by kernel_rfl) ⟨_,rfl,fun K hK=> ?_⟩
 go_simp
 refine ea.mono ?_;rintro e w3 ⟨rv,L',rfl,bY,hG3,hB3⟩;obtain⟨la,lc,hlv⟩:=aY bY.own;subst hlv;obtain⟨n3,jv⟩:∃n,L'.length=n:=⟨_,rfl⟩;rw[jv]at bY⊢;dsimp only;refine hK.out _ _ (fun _=>(HS.out w3 hB3).1) ?_;clear hK ea;have hres:=(HS.out w3 hB3).2;have y0:w3.cell? ⟨w.heap.size+1+1,0,none⟩=some (.int .i64 0):=ah hres rfl;have y1:w3.cell? ⟨w.heap.size+1+1,1,none⟩=some (.slice none 0 0):=ah hres rfl;have eB:w3.frozen? ⟨w.heap.size+1+1,0,none⟩=false:=bE hres;have eD:w3.frozen? ⟨w.heap.size+1+1,1,none⟩=false:=bE hres;have q0:=kW (v0:= .int .i64 (u:Int)) (v1:= .slice la n3 lc) hres;have q1:=kX (v0:= .int .i64 (u:Int)) (v1:= .slice la n3 lc) hres;refine ax.one (i:=10) (by kernel_rfl) ⟨_,rfl,fun K hK=> ?_⟩
 go_simp
 refine hK.out _ _ (fun _=>(HS.out w3 hB3).1) ?_;clear hK
 have HT:Hid (aG w3 (fun b=>A b\/Wd.heap.size<=b) (.slice la n3 lc) (iB f ks)/\Below Wd.heap.size Wd w3):=by
  refine⟨?_,hB3⟩;have:=bY.kU.fo;rw[hG3]at this;exact this
 clear bY hG3 hB3 jv hres;refine ax.last (i:=11) (by kernel_rfl) ⟨_,rfl,fun K hK=> ?_⟩
 go_simp
 refine hK.out _ _ (fun h=>absurd h (by omega)) (NoPanic.normal ?_);clear hK
 go_wp2_with fail
 refine bodyPost_ret (v:= .agg #[.int .i64 (u:Int),.slice la n3 lc]) (by simp[results,Tryz.results160,go_sem,q0,q1]) rfl ?_;have hz:=iK.out.2;exact⟨_,rfl,HT.out.1.rz HA.out hz _ _,((iK.out.1.trans (HT.out.2.mono iK.out.1.size)).setCell (by simp;omega) _).setCell (by simp;omega) _⟩
end
theorem DU{la:Option Addr}{f n sl lc:Nat}{fi:Int}(hf:fi=f)(hs:sl=f+n):∃A,(∀w:World,Sem.run Tryz.prog (Instr.sliceAt 71 (.slice la sl lc) (some (.int .i64 fi)) none none) w= .ok (.slice A n (lc-f)) w)/\(lc≠f->A=la.map (·.add (f*2))):=by
 subst hf;have h0:(0:Int)<=(f:Int):=Int.natCast_nonneg _;have h1:(f:Int)<=(sl:Int):=by omega
 have h2:sl-f=n:=by omega
 refine⟨if lc=f then la else la.map (·.add (f*2)),fun w=> ?_,fun h=>by rw[if_neg h]⟩
 go_simp
 intro h;omega
theorem DV{la:Option Addr}{f sl lc:Nat}{fi:Int}(hf:fi=f)(hu:f<=lc)(w:World):Sem.run Tryz.prog (Instr.sliceAt 71 (.slice la sl lc) none (some (.int .i64 fi)) none) w= .ok (.slice la f lc) w:=by
 subst hf;have h0:(0:Int)<=(f:Int):=Int.natCast_nonneg _;have h1:(f:Int)<=(lc:Int):=by omega
 cases la with
 |none=>go_simp
 |some ad=>go_simp
theorem Rp{la:Option Addr}{f n g sl lc:Nat}{fi gi:Int}(hf:fi=f)(hg:gi=g)(hn:g=f+n)(hu:g<=lc):∃A,(∀w:World,Sem.run Tryz.prog (Instr.sliceAt 71 (.slice la sl lc) (some (.int .i64 fi)) (some (.int .i64 gi)) none) w= .ok (.slice A n (lc-f)) w)/\(lc≠f->A=la.map (·.add (f*2))):=by
 subst hf hg;have h0:(0:Int)<=(f:Int):=Int.natCast_nonneg _;have h1:(f:Int)<=(g:Int):=by omega
 have h2:g-f=n:=by omega
 have h3:(0:Int)<=(g:Int):=Int.natCast_nonneg _;have h4:(g:Int)<=(lc:Int):=by omega
 have h5:f<=g:=by omega
 clear hn;refine⟨if lc=f then la else la.map (·.add (f*2)),fun w=> ?_,fun h=>by rw[if_neg h]⟩
 go_simp
section
variable{w:World}{A:Nat->Prop}{pb:Nat}{va vb vc:Value}{La Lb Lc:List Tr}
theorem Hy(p0:w.cell? ⟨pb,0,none⟩=some va)(p1:w.cell? ⟨pb,1,none⟩=some vb)(p2:w.cell? ⟨pb,2,none⟩=some vc)(ha:bU w A va La)(hb:bU w A vb Lb)(hc:bU w A vc Lc)(hs:La.length+Lb.length+Lc.length<=100000):
 Calls Tryz.prog 142 #[.slice (some ⟨pb,0,none⟩) 3 3] w fun e w'=> ∃a n d,e= .returned (.slice a n d)/\bU w' (fun b=>A b\/w.heap.size<=b) (.slice a n d) (La++Lb++Lc)/\Below w.heap.size w w':=by
 have hN:bQ [(va,La.length,fA La),(vb,Lb.length,fA Lb),(vc,Lc.length,fA Lc)]=La.length+Lb.length+Lc.length:=by simp[bQ];omega
 have hX:iG [(va,La.length,fA La),(vb,Lb.length,fA Lb),(vc,Lc.length,fA Lc)]=fA (La++Lb++Lc):=by simp[iG,Le]
 have cc:=PI (w:=w) (pb:=pb) (PL:=[(va,La.length,fA La),(vb,Lb.length,fA Lb),(vc,Lc.length,fA Lc)]) (fun i hi=>by
  match i,hi with
  |0,_=>exact p0
  |1,_=>exact p1
  |2,_=>exact p2
  |i+3,hi=>exact absurd hi (by simp)) (fun p hp=>by
  simp only[List.mem_cons,List.not_mem_nil,or_false]at hp;rcases hp with rfl|rfl|rfl
  ·exact ha.row
  ·exact hb.row
  ·exact hc.row) (by rw[hN];exact hs) (by simp)
 rw[hN,hX]at cc;refine cc.mono ?_;rintro e w' ⟨a,d,rfl,ho,hB⟩;have hl:(La++Lb++Lc).length=La.length+Lb.length+Lc.length:=by rw[List.length_append,List.length_append]
 refine⟨a,_,d,rfl,Lg (B:=w.heap.size) (by rw[hl];exact ho) (fun g hg=> .inr (ho.lt g hg).1) fun x hx=> ?_,hB⟩
 have h1:aG w A x.1 x.2.2:=by
  rcases List.mem_append.1 hx with hx|hx
  ·rcases List.mem_append.1 hx with hx|hx
   ·exact ha.kids x hx
   ·exact hb.kids x hx
  ·exact hc.kids x hx
 exact h1.kept fun b hA hlt=>⟨hB.block b hlt,.inl hA⟩
theorem Rq(p0:w.cell? ⟨pb,0,none⟩=some va)(p1:w.cell? ⟨pb,1,none⟩=some vb)(ha:bU w A va La)(hb:bU w A vb Lb)(hs:La.length+Lb.length<=100000):
 Calls Tryz.prog 142 #[.slice (some ⟨pb,0,none⟩) 2 2] w fun e w'=> ∃a n d,e= .returned (.slice a n d)/\bU w' (fun b=>A b\/w.heap.size<=b) (.slice a n d) (La++Lb)/\Below w.heap.size w w':=by
 have hN:bQ [(va,La.length,fA La),(vb,Lb.length,fA Lb)]=La.length+Lb.length:=by simp[bQ]
 have hX:iG [(va,La.length,fA La),(vb,Lb.length,fA Lb)]=fA (La++Lb):=by simp[iG,Le]
 have cc:=PI (w:=w) (pb:=pb) (PL:=[(va,La.length,fA La),(vb,Lb.length,fA Lb)]) (fun i hi=>by
  match i,hi with
  |0,_=>exact p0
  |1,_=>exact p1
  |i+2,hi=>exact absurd hi (by simp)) (fun p hp=>by
  simp only[List.mem_cons,List.not_mem_nil,or_false]at hp;rcases hp with rfl|rfl
  ·exact ha.row
  ·exact hb.row) (by rw[hN];exact hs) (by simp)
 rw[hN,hX]at cc;refine cc.mono ?_;rintro e w' ⟨a,d,rfl,ho,hB⟩;have hl:(La++Lb).length=La.length+Lb.length:=by rw[List.length_append]
 refine⟨a,_,d,rfl,Lg (B:=w.heap.size) (by rw[hl];exact ho) (fun g hg=> .inr (ho.lt g hg).1) fun x hx=> ?_,hB⟩
 have h1:aG w A x.1 x.2.2:=by
  rcases List.mem_append.1 hx with hx|hx
  ·exact ha.kids x hx
  ·exact hb.kids x hx
 exact h1.kept fun b hA hlt=>⟨hB.block b hlt,.inl hA⟩
end
theorem Hz{w:World}{A:Nat->Prop}{b:Nat}{kv:Value}{q:Nat}{ks:Fo}(hb:w.heap[b]?=some (.cells #[.int .i64 (q:Int),kv] 73 (0,0)))(hA:A b)(hk:aG w A kv ks):bU w A (.slice (some ⟨b,0,none⟩) 1 1) [(kv,q,ks)]:=by
 refine⟨⟨_,_,rfl,Nat.le_refl _⟩,fun k hkl=> ?_,fun x hx=>by rw[List.mem_singleton.1 hx];exact hk⟩;have:k=0:=by simp at hkl;omega
 subst this;exact⟨b,0,1,rfl,hA,ah (i:=0) hb rfl,ah (i:=1) hb rfl⟩
section
variable{w:World}{T N:Int}{ra:Option Addr}{rn rc:Nat}{op a b c:Int}
theorem H7:Calls Tryz.prog 129 #[.agg #[.int .i64 T,.int .i64 N,.slice ra rn rc,.int .i64 op,.int .i64 a,.int .i64 b,.int .i64 c]] w fun e w'=>e= .returned (.int .i64 rn)/\Below w.heap.size w w':=by
 go_enter Tryz.func129,Tryz.ntmps129
 go_wp2_with fail
 go_ret;exact⟨rfl,(Below.refl _ _).alloc (Nat.le_refl _) _⟩
end
end Go.Proofs.YtpkmpkphfflpjaaGreat
