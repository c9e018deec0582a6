import Derived.Test.YtpkmpkphfflpjaaGreatMathAndHeldSeq
import Derived.Laws.AppendOwnNone
import Derived.Lib.AppendZeros
set_option maxHeartbeats 6400000
set_option maxRecDepth 100000
namespace Go.Proofs.YtpkmpkphfflpjaaGreat
open Go.RowKit
theorem aU.gN{P:Program}{ops:Array Oper}{S:World->Prop}{K:Act->Prop}{i:Nat}{o:Oper}{l:List Nat}{a:Act}{v:Value}(ho:ops.toList[i]?=some o)(hw:Region.wanted o (yielded ops a.tmps)=true)(hy:∀w,S w->(execOp a.eval o).run P w= .ok (.value v) w)(h:aU P ops S K l (a.put o.dst v)):aU P ops S K (i::l) a:=
 aU.cons (by simpa using ho) hw hy h
theorem dQ.gN{P:Program}{ops:Array Oper}{Q:Exit->Act->World->Prop}{S:World->Prop}{n k:Nat}{o:Oper}{l:List Nat}{a:Act}{w:World}(ho:ops.toList[k]?=some o)(h:∀K:Act->World->Prop,Shut (∀a w,(k<n->S w)->dQ P ops Q S n l a w->K a w)->if Region.wanted o (yielded ops a.tmps)=true then Oper.wp P o a w K Q else K (a.put o.dst undef) w):dQ P ops Q S n (k::l) a w:=
 dQ.cons (by simpa using ho) h
def oU(s:Sy):List Value:=[.bool s.1,.int .i64 s.2]
def bC(l:List Sy):List Value:=l.flatMap oU
section
variable{l m:List Sy}
theorem PD(l:List Sy):(bC l).length=l.length*2:=by
 unfold bC
 induction l with
 |nil=>rfl
 |cons a L ih=>rw[List.flatMap_cons,List.length_append,ih];simp[oU];omega
theorem Af{i j:Nat}(hi:i<l.length)(hj:j<2):(bC l)[i*2+j]?=(oU (l.getD i (false,0)))[j]?:=by
 unfold bC
 induction l generalizing i with
 |nil=>simp at hi
 |cons a L ih=>
  rw[List.flatMap_cons];cases i with
  |zero=>rw[List.getElem?_append_left (by simp[oU];omega)];simp
  |succ i=>
   rw[List.getElem?_append_right (by simp[oU];omega)];simp only[oU,List.length_cons,List.length_nil];rw[show (i+1)*2+j-(0+1+1)=i*2+j by omega];have:=ih (i:=i) (by simpa using hi);simpa [List.getD,oU] using this
theorem PE(l m:List Sy):bC (l++m)=bC l++bC m:=by simp[bC]
theorem XB(l:List Sy):∀u∈bC l,u.oneCell'=true:=fun u hu=>by
 unfold bC at hu;obtain⟨x,_,hu⟩:=List.mem_flatMap.1 hu;simp only[oU,List.mem_cons,List.not_mem_nil,or_false]at hu;rcases hu with rfl|rfl<;>rfl
theorem XC{i:Nat}{v:Int}(hi:i<l.length):(bC l).set (i*2+1) (.int .i64 v)=bC (l.set i ((l.getD i (false,0)).1,v)):=by
 unfold bC
 induction l generalizing i with
 |nil=>simp at hi
 |cons a L ih=>
  cases i with
  |zero=>simp[oU]
  |succ i=>
   have:=ih (i:=i) (by simpa using hi);rw[List.flatMap_cons,List.set_cons_succ,List.flatMap_cons,List.set_append_right _ _ (by simp[oU];omega)];simp only[oU,List.length_cons,List.length_nil]at this⊢;rw[show (i+1)*2+1-(0+1+1)=i*2+1 by omega,this];simp[List.getD]
end
def nJ(w:World)(A:Nat->Prop)(v:Value)(l:List Sy):Prop:=
 (∃a c,v= .slice a l.length c/\l.length<=c)/\∀j,j<l.length->∃b o c,v= .slice (some ⟨b,o,none⟩) l.length c/\A b/\b<w.heap.size/\w.cell? ⟨b,o+j*2,none⟩=some (.bool (l.getD j (false,0)).1)/\w.cell? ⟨b,o+j*2+1,none⟩=some (.int .i64 (l.getD j (false,0)).2)
section
variable{w w':World}{A A':Nat->Prop}{v:Value}{l:List Sy}
theorem nJ.kept(h:nJ w A v l)(hs:w.heap.size<=w'.heap.size)(hb:∀b,A b->b<w.heap.size->w'.heap[b]?=w.heap[b]?/\A' b):nJ w' A' v l:=
 ⟨h.1,fun j hj=>let ⟨b,o,c,h1,h2,h3,h4,h5⟩:=h.2 j hj
   ⟨b,o,c,h1,(hb b h2 h3).2,by omega,(World.cell?_of_block (w:=w) (hb b h2 h3).1).trans h4,(World.cell?_of_block (w:=w) (hb b h2 h3).1).trans h5⟩⟩
theorem nJ.below(h:nJ w A v l)(hb:Below w.heap.size w w'):nJ w' A v l:=h.kept hb.size fun b hA hlt=>⟨hb.block b hlt,hA⟩
theorem nJ.jF(h:nJ w A v l):bK w v l:=⟨h.1,fun j hj=>let ⟨b,o,c,h1,_,_,h4,h5⟩:=h.2 j hj;⟨b,o,c,h1,h4,h5⟩⟩
theorem wK{base:Nat}(h:w.ownsRow base 104 2 v l.length (bC l)):nJ w (fun b=>v.ownBlock=some b/\base<=b) v l:=by
 have hh:=h;obtain⟨_,⟨hv,h0⟩|⟨g,cap,cur,e,hb,_,hle,_⟩⟩:=hh
 ·exact⟨⟨none,0,by rw[hv,h0],by omega⟩,fun j hj=>by omega⟩
 ·subst e
  refine⟨⟨_,_,rfl,hle⟩,fun j hj=>⟨g,0,cap,rfl,⟨rfl,hb⟩,(h.lt g rfl).2,?_,?_⟩⟩
  ·rw[Nat.zero_add,h.cellAt (j*2) (by omega)]
   exact Af (j:=0) hj (by omega)
  ·rw[Nat.zero_add,h.cellAt (j*2+1) (by omega)]
   exact Af (j:=1) hj (by omega)
theorem bK.news(h:bK w v l)(hl:0<l.length):∃ad c,v= .slice (some ad) l.length c/\∀j u,(bC l)[j]?=some u->w.cell? (ad.add j)=some u:=by
 obtain⟨b,o,c,h1,_,_⟩:=h.2 0 hl;refine⟨⟨b,o,none⟩,c,h1,fun j u hu=> ?_⟩;have hj:=(List.getElem?_eq_some_iff.1 hu).1;rw[PD]at hj;obtain⟨b',o',c',h2,h3,h4⟩:=h.2 (j/2) (by omega);rw[h1]at h2;cases h2;rw[Addr.add_lit];rcases Nat.mod_two_eq_zero_or_one j with h5|h5
 ·have e:j=j/2*2+0:=by omega
  rw[e,Af (by omega) (by omega)]at hu;simp only[oU,List.getElem?_cons_zero,Option.some.injEq]at hu;rw[<-hu,<-h3,e]
  congr 3
  omega
 ·have e:j=j/2*2+1:=by omega
  rw[e,Af (by omega) (by omega)]at hu;simp only[oU,List.getElem?_cons_succ,List.getElem?_cons_zero,Option.some.injEq]at hu;rw[<-hu,<-h4]
  congr 2
  omega
end
theorem Kn{la:Option Addr}{f n sl lc:Nat}{fi:Int}(hf:fi=f)(hs:sl=f+n):∃A,(∀w:World,Sem.run Tryz.prog (Instr.sliceAt 77 (.slice la sl lc) (some (.int .i64 fi)) none none) w= .ok (.slice A n (lc-f)) w)/\(lc≠f->A=la.map (·.add (f*2))):=by
 subst hf;have h0:(0:Int)<=(f:Int):=Int.natCast_nonneg _;have h1:(f:Int)<=(sl:Int):=by omega
 have h2:sl-f=n:=by omega
 refine⟨if lc=f then la else la.map (·.add (f*2)),fun w=> ?_,fun h=>by rw[if_neg h]⟩
 go_simp
 intro h;omega
def dI(w:World)(v:Value)(m:Nat)(ys:List Value):Prop:=
 (∃a c,v= .slice a m c/\m<=c)/\ys.length=m*2/\(∀u∈ys,u.oneCell'=true)/\(0<m->∃ad c,v= .slice (some ad) m c/\∀j u,ys[j]?=some u->w.cell? (ad.add j)=some u)
section
variable{w w':World}{v:Value}{m:Nat}{ys:List Value}
theorem dI.below(h:dI w v m ys){B:Nat}(hB:w.heap.size<=B)(hb:Below B w w'):dI w' v m ys:=by
 refine⟨h.1,h.2.1,h.2.2.1,fun hm=> ?_⟩;obtain⟨ad,c,e,hc⟩:=h.2.2.2 hm;refine⟨ad,c,e,fun j u hu=> ?_⟩;have h1:=hc j u hu;have h2:=World.block_lt_of_cell? _ _ h1;exact(hb.cell (by omega)).trans h1
theorem bK.row{l:List Sy}(h:bK w v l):dI w v l.length (bC l):=⟨h.1,PD l,XB l,fun hm=>h.news hm⟩
end
abbrev Part:=Value×Nat×List Value
def bQ(PL:List Part):Nat:=(PL.map fun p=>p.2.1).sum
def iG(PL:List Part):List Value:=PL.flatMap fun p=>p.2.2
theorem Ag{PL:List Part}{k:Nat}(hk:k<PL.length):bQ (PL.take (k+1))=bQ (PL.take k)+PL[k].2.1:=by
 unfold bQ;rw[List.take_succ_eq_append_getElem hk,List.map_append,List.sum_append];simp
theorem Ko{PL:List Part}{k:Nat}(hk:k<PL.length):iG (PL.take (k+1))=iG (PL.take k)++PL[k].2.2:=by
 unfold iG;rw[List.take_succ_eq_append_getElem hk,List.flatMap_append];simp
theorem Ah(PL:List Part)(k:Nat):bQ (PL.take k)<=bQ PL:=by
 have e:bQ PL=bQ (PL.take k)+bQ (PL.drop k):=by
  unfold bQ;rw[<-List.sum_append,<-List.map_append,List.take_append_drop]
 omega
theorem Tryz.infoCcT:(Tryz.prog.info? 73).map (fun i=>(i.zero,i.size,i.bytes))=some (some (.agg #[.int .i64 0,.slice none 0 0]),2,32):=by kernel_rfl
theorem XD{w:World}{oa sa:Option Addr}{n d c:Nat}(hn:n<=d)(h0:oa=none->n=0/\d=0):(Builtin.append_ #[ 71,71 ] 71 #[.slice oa n d,.slice sa 0 c]).run Tryz.prog w= .ok (.slice oa n d) w:=by
 cases oa with
 |none=>
  obtain⟨rfl,rfl⟩:=h0 rfl;cases sa<;>go_simp
 |some o=>cases sa<;>go_simp
theorem PG{w:World}{B:Nat}{ov lv:Value}{n m:Nat}{xs ys:List Value}(ho:w.ownsRow B 73 2 ov n xs)(hl:dI w lv m ys)(hb:B<=w.heap.size)(hs:n+m<=100000):
 ∃a d w',(Builtin.append_ #[ 71,71 ] 71 #[ov,lv]).run Tryz.prog w= .ok (.slice a (n+m) d) w'/\w'.ownsRow B 73 2 (.slice a (n+m) d) (n+m) (xs++ys)/\w.grownBy w' ov.ownBlock/\∀g,(Value.slice a (n+m) d).ownBlock=some g->ov.ownBlock=some g\/g=w.heap.size:=by
 obtain⟨oa,od,hov⟩:=aY ho;obtain⟨⟨la,lc,hlv,_⟩,hlen,hone,hcell⟩:=hl;rcases Nat.eq_zero_or_pos m with h0|h0
 ·subst h0
  have he:ys=[]:=List.eq_nil_of_length_eq_zero (by omega);subst he;rw[hov,hlv]
  have hnd:n<=od/\(oa=none->n=0/\od=0):=by
   obtain⟨_,⟨hx,hz⟩|⟨_,_,_,hx,_,_,h5,_⟩⟩:=ho
   ·rw[hov]at hx
    injection hx with x1 x2 x3;exact⟨by omega,fun _=>⟨by omega,by omega⟩⟩
   ·rw[hov]at hx
    injection hx with x1 x2 x3;exact⟨by omega,fun e=>by rw[e]at x1;cases x1⟩
  refine⟨oa,od,w,XD hnd.1 hnd.2,?_,⟨rfl,rfl,rfl,Nat.le_refl _,fun _ _ _=>rfl⟩,fun g hg=> .inl hg⟩;rw[hov]at ho;simpa using ho
 ·obtain⟨ad,c,he,hnews⟩:=hcell h0
  obtain⟨i1,hi1,hy0,hy1,hy2⟩:=info_parts Tryz.infoCcT;obtain⟨g',cap',w',hr,h2,h3,h4,_⟩:=run_append_lies (P:=Tryz.prog) w 71 71 B 73 i1 _ 2 32 Tryz.underlying71 hi1 hy0 hy1 hy2 rfl (by omega) ov n xs ho ad m c ys hlen hnews hone h0 (by simp only[maxLen];omega) (by omega) hb w.heap.size rfl;rw[he];refine⟨_,_,w',hr,h2,h3,fun q hq=> ?_⟩;simp only[Value.ownBlock,Option.some.injEq]at hq;subst hq;exact h4
theorem Kq{w:World}{ops:Array Oper}{rest:List Oper}{o:Oper}{a:Act}{Q:Exit->Act->World->Prop}(hgd:o.guard=none)(s x:Operand)(ho':o.op= .call { callee:= .builtin .append,args:= #[s,x],argTypes:= #[ 71,71 ] })(hty:o.type=71)
 {B n m:Nat} {xs ys:List Value} {ov lv:Value} (hsv:a.eval s=ov) (hxv:a.eval x=lv) (ho:w.ownsRow B 73 2 ov n xs) (hl:dI w lv m ys) (hb:B<=w.heap.size) (hs:n+m<=100000)
 (h:∀a' d' w',w'.ownsRow B 73 2 (.slice a' (n+m) d') (n+m) (xs++ys)->w.grownBy w' ov.ownBlock->(∀g,(Value.slice a' (n+m) d').ownBlock=some g->ov.ownBlock=some g\/g=w.heap.size)->wpList Tryz.prog ops Q rest (a.put o.dst (.slice a' (n+m) d')) w'):wpList Tryz.prog ops Q (o::rest) a w:=by
 obtain⟨a',d',w',hr,h1,h2,h3⟩:=PG ho hl hb hs;refine wpList_plain hgd fun K hK=> ?_;unfold Oper.wp execOp;simp only[ho',hty,resolve,invoke,builtin,Sem.run_bind,Sem.run_pure,Result.andThen_ok,List.map_toArray,List.map_cons,List.map_nil,hsv,hxv,hr];exact hK _ _ (h a' d' w' h1 h2 h3)
theorem Ga{w:World}{ops:Array Oper}{o:Oper}{a:Act}{K:Act->World->Prop}{Q:Exit->Act->World->Prop}{E:Prop}(hgd:o.guard=none)(s x:Operand)(ho':o.op= .call { callee:= .builtin .append,args:= #[s,x],argTypes:= #[ 71,71 ] })(hty:o.type=71)
 {B n m:Nat} {xs ys:List Value} {ov lv:Value} (hsv:a.eval s=ov) (hxv:a.eval x=lv) (ho:w.ownsRow B 73 2 ov n xs) (hl:dI w lv m ys) (hb:B<=w.heap.size) (hs:n+m<=100000)
 (h:∀a' d' w',w'.ownsRow B 73 2 (.slice a' (n+m) d') (n+m) (xs++ys)->w.grownBy w' ov.ownBlock->(∀g,(Value.slice a' (n+m) d').ownBlock=some g->ov.ownBlock=some g\/g=w.heap.size)->K (a.put o.dst (.slice a' (n+m) d')) w'):if Region.wanted o (yielded ops a.tmps)=true then Oper.wp Tryz.prog o a w K Q else E:=by
 obtain⟨a',d',w',hr,h1,h2,h3⟩:=PG ho hl hb hs;have hw:Region.wanted o (yielded ops a.tmps)=true:=by simp[Region.wanted,hgd]
 rw[if_pos hw];unfold Oper.wp execOp;simp only[ho',hty,resolve,invoke,builtin,Sem.run_bind,Sem.run_pure,Result.andThen_ok,List.map_toArray,List.map_cons,List.map_nil,hsv,hxv,hr];exact h a' d' w' h1 h2 h3
theorem XE{w:World}{n:Nat}(hn:n<=100000):
 Calls Tryz.prog 145 #[.slice none 0 0,.int .i64 n] w fun e w'=> ∃v,e= .returned v/\w'.ownsRow w.heap.size 73 2 v 0 []/\Below w.heap.size w w':=by
 have i0:(0:Int)<=(n:Int):=Int.natCast_nonneg _;rcases Nat.eq_zero_or_pos n with h0|h0
 ·subst h0
  go_enter Tryz.func145,Tryz.ntmps145
  go_wp2_with fail
  go_ret;exact⟨_,rfl,World.ownsRow_nil _ _ _ _,Below.refl _ _⟩
 ·obtain⟨i1,hi1,hy0,hy1,hy2⟩:=info_parts Tryz.infoCcT
  have hi:(0:Int)<(n:Int):=by omega
  have hr:=Lib.run_append_nil_zeros (P:=Tryz.prog) w 71 3 71 73 i1 (.agg #[.int .i64 0,.slice none 0 0]) .i64 .i64 Tryz.underlying71 Tryz.underlying3 hi1 hy0 n h0 (by rw[hy1];omega) (by omega) (by rw[hy2];omega);have hge:=grownCap_ge w n 0 73;have hle:=grownCap_le_maxLen w n 0 73 (by unfold maxLen;omega);obtain⟨C,hC⟩:∃C,grownCap w n 0 73=C:=⟨_,rfl⟩;rw[hC]at hr hge hle;clear hC;obtain⟨cur,hcur⟩:∃cur,Builtin.zeroCells (.agg #[.int .i64 0,.slice none 0 0]:Value).cells n++Builtin.zeroCells (.agg #[.int .i64 0,.slice none 0 0]:Value).cells (C-n)=cur:=⟨_,rfl⟩
  have hcs:cur.size=C*2:=by
   rw[<-hcur,Array.size_append,size_zeroCells,size_zeroCells];have:(.agg #[.int .i64 0,.slice none 0 0]:Value).cells.size=2:=rfl;rw[this];omega
  rw[hcur]at hr;clear hcur;have hup:∀w0 w,Sem.run Tryz.prog (Instr.sliceAt 71 (.slice (some ⟨w0,0,none⟩) n C) none (some (.int .i64 0)) none) w= .ok (.slice (some ⟨w0,0,none⟩) 0 C) w:=fun w0 w=>by go_simp
  go_enter Tryz.func145,Tryz.ntmps145
  go_wp2_with (at_builtin;refine Lib.wpList_append_run _ rfl _ _ _ _ rfl _ _ rfl rfl _ _ hr ?_)
  go_ret;exact⟨_,rfl,⟨rfl,.inr ⟨w.heap.size,C,cur,rfl,Nat.le_refl _,heap_alloc_new _ _,Nat.zero_le _,hle,hcs,rfl⟩⟩,(Below.refl _ _).drew.alloc (Nat.le_refl _) _⟩
theorem PI{w:World}{pb:Nat}{PL:List Part}(hp:∀i (hi:i<PL.length),w.cell? ⟨pb,i,none⟩=some PL[i].1)(hr:∀p∈PL,dI w p.1 p.2.1 p.2.2)(hs:bQ PL<=100000)(hl:PL.length<=1000):
 Calls Tryz.prog 142 #[.slice (some ⟨pb,0,none⟩) PL.length PL.length] w fun e w'=> ∃a d,e= .returned (.slice a (bQ PL) d)/\w'.ownsRow w.heap.size 73 2 (.slice a (bQ PL) d) (bQ PL) (iG PL)/\Below w.heap.size w w':=by
 have HP:Hid (∀i (hi:i<PL.length),w.cell? ⟨pb,i,none⟩=some PL[i].1):=hp;have HR:Hid (∀p∈PL,dI w p.1 p.2.1 p.2.2):=hr;have HS:Hid (bQ PL<=100000):=hs;clear hp hr
 go_enter Tryz.func142,Tryz.ntmps142
 go_wp2_with fail
 go_loop [3,11] (fun s3 s11=> ∃k:Nat,s3= .int .i64 (bQ (PL.take k))/\s11= .int .i64 k/\k<=PL.length) (fun _ s=>PL.length-(intOf s).toNat)
 case atStart=>exact⟨0,rfl,rfl,Nat.zero_le _⟩
 case round=>
  obtain⟨k,rfl,rfl,hk⟩:=hrel;by_cases hlt:k<PL.length
  ·have c1:=HP.out k hlt
   obtain⟨⟨a,c,hv,_⟩,_⟩:=HR.out PL[k] (List.getElem_mem hlt);have ht:=Ag hlt;have hle:=Ah PL (k+1);obtain⟨m,hm⟩:∃m,PL[k].2.1=m:=⟨_,rfl⟩;rw[hm]at hv ht;rw[hv]at c1;obtain⟨t,h0⟩:∃t,bQ (PL.take k)=t:=⟨_,rfl⟩;rw[h0]at ht⊢;have HT:Hid (bQ (PL.take (k+1))=t+m):=ht;have i0:(0:Int)<=(k:Int):=Int.natCast_nonneg _;have i1:(k:Int)<(PL.length:Int):=by omega
   have i2:IntKind.i64.wrap ((t:Int)+(m:Int))=(t:Int)+(m:Int):=IntWalk.i64_in _ (by omega);have i3:decide ((t:Int)+(m:Int)<0)=false:=decide_eq_false (by omega);clear hm hv ht h0 hle
   go_wp2_with fail
   go_round
   case rel=>exact⟨k+1,by rw[HT.out];push_cast;rfl,by go_num,by omega⟩
   case measure=>simp[intOf];omega
  ·have hkk:k=PL.length:=by omega
   subst hkk;rw[List.take_length];obtain⟨t,h0⟩:∃t,bQ PL=t:=⟨_,rfl⟩;have gr:=XE (w:=w) (n:=t) (by omega);rw[h0];have HT:Hid (bQ PL=t):=h0;clear h0 hs
   go_wp2_with (go_at_call 145;refine gr.mono ?_;rintro e w1 ⟨v,rfl,hown,hB⟩;clear gr)
   go_loopw [6,27] (fun s6 yD wr=> ∃(k:Nat) (ov:Value),ov=s6/\yD= .int .i64 k/\k<=PL.length/\wr.ownsRow w.heap.size 73 2 ov (bQ (PL.take k)) (iG (PL.take k))/\Below w.heap.size w wr) (fun _ s _=>PL.length-(intOf s).toNat)
   case atStart=>exact⟨0,_,rfl,rfl,Nat.zero_le _,hown,hB⟩
   case round=>
    obtain⟨k,ov,rfl,rfl,hk,hO,hB1⟩:=hrel;clear hown hB;have HB:Hid (Below w.heap.size w wr):=hB1;by_cases hlt:k<PL.length
    ·have hrow:=(HR.out PL[k] (List.getElem_mem hlt)).below (Nat.le_refl _) hB1
     have c1:=(hB1.cell (World.block_lt_of_cell? _ _ (HP.out k hlt))).trans (HP.out k hlt);have ht:=Ag hlt;have hx:=Ko hlt;have hle:=Ah PL (k+1);rw[HT.out]at hle;have hT:=HS.out;rw[HT.out]at hT;obtain⟨⟨pv,m,ys⟩,hm⟩:∃p,PL[k]=p:=⟨_,rfl⟩;rw[hm]at hrow c1 ht hx;simp only at hrow c1 ht hx;obtain⟨a,c,hv,_⟩:=hrow.1;subst hv;obtain⟨q,h0⟩:∃q,bQ (PL.take k)=q:=⟨_,rfl⟩;obtain⟨xs,h1⟩:∃xs,iG (PL.take k)=xs:=⟨_,rfl⟩;rw[h0,h1]at hO;rw[h0]at ht;rw[h1]at hx;have HX:Hid (bQ (PL.take (k+1))=q+m/\iG (PL.take (k+1))=xs++ys):=⟨ht,hx⟩;have hqm:q+m<=100000:=by omega
     have hbs:=hB1.size;have i0:(0:Int)<=(k:Int):=Int.natCast_nonneg _;have i1:(k:Int)<(PL.length:Int):=by omega
     clear hm ht hx hle hT h0 h1 hB1
     go_wp2_with
      (at_builtin
       refine Kq rfl _ _ rfl rfl rfl rfl hO hrow hbs hqm ?_
       intro a' d' w' hown' hgrow hat)
     go_roundw
     case rel=>exact⟨k+1,_,rfl,by go_num,by omega,by rw[HX.out.1,HX.out.2];exact hown',HB.out.grown hgrow HB.out.size fun g hg=>((hO.lt g hg).1)⟩
     case measure=>simp[intOf];omega
    ·have hkk:k=PL.length:=by omega
     subst hkk;rw[List.take_length,HT.out]at hO;obtain⟨a,c,hv⟩:=aY hO;subst hv
     go_wp2_with fail
     go_ret;rw[HT.out];exact⟨a,c,rfl,hO,HB.out⟩
theorem Tryz.infoCcR:(Tryz.prog.info? 79).map (fun i=>(i.zero,i.size,i.bytes))=some (some (.agg #[.int .i64 0,.slice none 0 0]),2,32):=by kernel_rfl
theorem XF{w:World}{oa sa:Option Addr}{n d c:Nat}(hn:n<=d)(h0:oa=none->n=0/\d=0):(Builtin.append_ #[ 22,22 ] 22 #[.slice oa n d,.slice sa 0 c]).run Tryz.prog w= .ok (.slice oa n d) w:=by
 cases oa with
 |none=>
  obtain⟨rfl,rfl⟩:=h0 rfl;cases sa<;>go_simp
 |some o=>cases sa<;>go_simp
theorem PK{w:World}{B:Nat}{ov lv:Value}{n m:Nat}{xs ys:List Value}(ho:w.ownsRow B 79 2 ov n xs)(hl:dI w lv m ys)(hb:B<=w.heap.size)(hs:n+m<=100000):
 ∃a d w',(Builtin.append_ #[ 22,22 ] 22 #[ov,lv]).run Tryz.prog w= .ok (.slice a (n+m) d) w'/\w'.ownsRow B 79 2 (.slice a (n+m) d) (n+m) (xs++ys)/\w.grownBy w' ov.ownBlock/\∀g,(Value.slice a (n+m) d).ownBlock=some g->ov.ownBlock=some g\/g=w.heap.size:=by
 obtain⟨oa,od,hov⟩:=aY ho;obtain⟨⟨la,lc,hlv,_⟩,hlen,hone,hcell⟩:=hl;rcases Nat.eq_zero_or_pos m with h0|h0
 ·subst h0
  have he:ys=[]:=List.eq_nil_of_length_eq_zero (by omega);subst he;rw[hov,hlv]
  have hnd:n<=od/\(oa=none->n=0/\od=0):=by
   obtain⟨_,⟨hx,hz⟩|⟨_,_,_,hx,_,_,h5,_⟩⟩:=ho
   ·rw[hov]at hx
    injection hx with x1 x2 x3;exact⟨by omega,fun _=>⟨by omega,by omega⟩⟩
   ·rw[hov]at hx
    injection hx with x1 x2 x3;exact⟨by omega,fun e=>by rw[e]at x1;cases x1⟩
  refine⟨oa,od,w,XF hnd.1 hnd.2,?_,⟨rfl,rfl,rfl,Nat.le_refl _,fun _ _ _=>rfl⟩,fun g hg=> .inl hg⟩;rw[hov]at ho;simpa using ho
 ·obtain⟨ad,c,he,hnews⟩:=hcell h0
  obtain⟨i1,hi1,hy0,hy1,hy2⟩:=info_parts Tryz.infoCcR;obtain⟨g',cap',w',hr,h2,h3,h4,_⟩:=run_append_lies (P:=Tryz.prog) w 22 22 B 79 i1 _ 2 32 Tryz.underlying22 hi1 hy0 hy1 hy2 rfl (by omega) ov n xs ho ad m c ys hlen hnews hone h0 (by simp only[maxLen];omega) (by omega) hb w.heap.size rfl;rw[he];refine⟨_,_,w',hr,h2,h3,fun q hq=> ?_⟩;simp only[Value.ownBlock,Option.some.injEq]at hq;subst hq;exact h4
theorem CQ{w:World}{ops:Array Oper}{rest:List Oper}{o:Oper}{a:Act}{Q:Exit->Act->World->Prop}(hgd:o.guard=none)(s x:Operand)(ho':o.op= .call { callee:= .builtin .append,args:= #[s,x],argTypes:= #[ 22,22 ] })(hty:o.type=22)
 {B n m:Nat} {xs ys:List Value} {ov lv:Value} (hsv:a.eval s=ov) (hxv:a.eval x=lv) (ho:w.ownsRow B 79 2 ov n xs) (hl:dI w lv m ys) (hb:B<=w.heap.size) (hs:n+m<=100000)
 (h:∀a' d' w',w'.ownsRow B 79 2 (.slice a' (n+m) d') (n+m) (xs++ys)->w.grownBy w' ov.ownBlock->(∀g,(Value.slice a' (n+m) d').ownBlock=some g->ov.ownBlock=some g\/g=w.heap.size)->wpList Tryz.prog ops Q rest (a.put o.dst (.slice a' (n+m) d')) w'):wpList Tryz.prog ops Q (o::rest) a w:=by
 obtain⟨a',d',w',hr,h1,h2,h3⟩:=PK ho hl hb hs;refine wpList_plain hgd fun K hK=> ?_;unfold Oper.wp execOp;simp only[ho',hty,resolve,invoke,builtin,Sem.run_bind,Sem.run_pure,Result.andThen_ok,List.map_toArray,List.map_cons,List.map_nil,hsv,hxv,hr];exact hK _ _ (h a' d' w' h1 h2 h3)
theorem PN{w:World}{ops:Array Oper}{o:Oper}{a:Act}{K:Act->World->Prop}{Q:Exit->Act->World->Prop}{E:Prop}(hgd:o.guard=none)(s x:Operand)(ho':o.op= .call { callee:= .builtin .append,args:= #[s,x],argTypes:= #[ 22,22 ] })(hty:o.type=22)
 {B n m:Nat} {xs ys:List Value} {ov lv:Value} (hsv:a.eval s=ov) (hxv:a.eval x=lv) (ho:w.ownsRow B 79 2 ov n xs) (hl:dI w lv m ys) (hb:B<=w.heap.size) (hs:n+m<=100000)
 (h:∀a' d' w',w'.ownsRow B 79 2 (.slice a' (n+m) d') (n+m) (xs++ys)->w.grownBy w' ov.ownBlock->(∀g,(Value.slice a' (n+m) d').ownBlock=some g->ov.ownBlock=some g\/g=w.heap.size)->K (a.put o.dst (.slice a' (n+m) d')) w'):if Region.wanted o (yielded ops a.tmps)=true then Oper.wp Tryz.prog o a w K Q else E:=by
 obtain⟨a',d',w',hr,h1,h2,h3⟩:=PK ho hl hb hs;have hw:Region.wanted o (yielded ops a.tmps)=true:=by simp[Region.wanted,hgd]
 rw[if_pos hw];unfold Oper.wp execOp;simp only[ho',hty,resolve,invoke,builtin,Sem.run_bind,Sem.run_pure,Result.andThen_ok,List.map_toArray,List.map_cons,List.map_nil,hsv,hxv,hr];exact h a' d' w' h1 h2 h3
theorem XG{w:World}{n:Nat}(hn:n<=100000):
 Calls Tryz.prog 154 #[.slice none 0 0,.int .i64 n] w fun e w'=> ∃v,e= .returned v/\w'.ownsRow w.heap.size 79 2 v 0 []/\Below w.heap.size w w':=by
 have i0:(0:Int)<=(n:Int):=Int.natCast_nonneg _;rcases Nat.eq_zero_or_pos n with h0|h0
 ·subst h0
  go_enter Tryz.func154,Tryz.ntmps154
  go_wp2_with fail
  go_ret;exact⟨_,rfl,World.ownsRow_nil _ _ _ _,Below.refl _ _⟩
 ·obtain⟨i1,hi1,hy0,hy1,hy2⟩:=info_parts Tryz.infoCcR
  have hi:(0:Int)<(n:Int):=by omega
  have hr:=Lib.run_append_nil_zeros (P:=Tryz.prog) w 22 3 22 79 i1 (.agg #[.int .i64 0,.slice none 0 0]) .i64 .i64 Tryz.underlying22 Tryz.underlying3 hi1 hy0 n h0 (by rw[hy1];omega) (by omega) (by rw[hy2];omega);have hge:=grownCap_ge w n 0 79;have hle:=grownCap_le_maxLen w n 0 79 (by unfold maxLen;omega);obtain⟨C,hC⟩:∃C,grownCap w n 0 79=C:=⟨_,rfl⟩;rw[hC]at hr hge hle;clear hC;obtain⟨cur,hcur⟩:∃cur,Builtin.zeroCells (.agg #[.int .i64 0,.slice none 0 0]:Value).cells n++Builtin.zeroCells (.agg #[.int .i64 0,.slice none 0 0]:Value).cells (C-n)=cur:=⟨_,rfl⟩
  have hcs:cur.size=C*2:=by
   rw[<-hcur,Array.size_append,size_zeroCells,size_zeroCells];have:(.agg #[.int .i64 0,.slice none 0 0]:Value).cells.size=2:=rfl;rw[this];omega
  rw[hcur]at hr;clear hcur;have hup:∀w0 w,Sem.run Tryz.prog (Instr.sliceAt 22 (.slice (some ⟨w0,0,none⟩) n C) none (some (.int .i64 0)) none) w= .ok (.slice (some ⟨w0,0,none⟩) 0 C) w:=fun w0 w=>by go_simp
  go_enter Tryz.func154,Tryz.ntmps154
  go_wp2_with (at_builtin;refine Lib.wpList_append_run _ rfl _ _ _ _ rfl _ _ rfl rfl _ _ hr ?_)
  go_ret;exact⟨_,rfl,⟨rfl,.inr ⟨w.heap.size,C,cur,rfl,Nat.le_refl _,heap_alloc_new _ _,Nat.zero_le _,hle,hcs,rfl⟩⟩,(Below.refl _ _).drew.alloc (Nat.le_refl _) _⟩
theorem XH{w:World}{pb:Nat}{PL:List Part}(hp:∀i (hi:i<PL.length),w.cell? ⟨pb,i,none⟩=some PL[i].1)(hr:∀p∈PL,dI w p.1 p.2.1 p.2.2)(hs:bQ PL<=100000)(hl:PL.length<=1000):
 Calls Tryz.prog 153 #[.slice (some ⟨pb,0,none⟩) PL.length PL.length] w fun e w'=> ∃a d,e= .returned (.slice a (bQ PL) d)/\w'.ownsRow w.heap.size 79 2 (.slice a (bQ PL) d) (bQ PL) (iG PL)/\Below w.heap.size w w':=by
 have HP:Hid (∀i (hi:i<PL.length),w.cell? ⟨pb,i,none⟩=some PL[i].1):=hp;have HR:Hid (∀p∈PL,dI w p.1 p.2.1 p.2.2):=hr;have HS:Hid (bQ PL<=100000):=hs;clear hp hr
 go_enter Tryz.func153,Tryz.ntmps153
 go_wp2_with fail
 go_loop [3,11] (fun s3 s11=> ∃k:Nat,s3= .int .i64 (bQ (PL.take k))/\s11= .int .i64 k/\k<=PL.length) (fun _ s=>PL.length-(intOf s).toNat)
 case atStart=>exact⟨0,rfl,rfl,Nat.zero_le _⟩
 case round=>
  obtain⟨k,rfl,rfl,hk⟩:=hrel;by_cases hlt:k<PL.length
  ·have c1:=HP.out k hlt
   obtain⟨⟨a,c,hv,_⟩,_⟩:=HR.out PL[k] (List.getElem_mem hlt);have ht:=Ag hlt;have hle:=Ah PL (k+1);obtain⟨m,hm⟩:∃m,PL[k].2.1=m:=⟨_,rfl⟩;rw[hm]at hv ht;rw[hv]at c1;obtain⟨t,h0⟩:∃t,bQ (PL.take k)=t:=⟨_,rfl⟩;rw[h0]at ht⊢;have HT:Hid (bQ (PL.take (k+1))=t+m):=ht;have i0:(0:Int)<=(k:Int):=Int.natCast_nonneg _;have i1:(k:Int)<(PL.length:Int):=by omega
   have i2:IntKind.i64.wrap ((t:Int)+(m:Int))=(t:Int)+(m:Int):=IntWalk.i64_in _ (by omega);have i3:decide ((t:Int)+(m:Int)<0)=false:=decide_eq_false (by omega);clear hm hv ht h0 hle
   go_wp2_with fail
   go_round
   case rel=>exact⟨k+1,by rw[HT.out];push_cast;rfl,by go_num,by omega⟩
   case measure=>simp[intOf];omega
  ·have hkk:k=PL.length:=by omega
   subst hkk;rw[List.take_length];obtain⟨t,h0⟩:∃t,bQ PL=t:=⟨_,rfl⟩;have gr:=XG (w:=w) (n:=t) (by omega);rw[h0];have HT:Hid (bQ PL=t):=h0;clear h0 hs
   go_wp2_with (go_at_call 154;refine gr.mono ?_;rintro e w1 ⟨v,rfl,hown,hB⟩;clear gr)
   go_loopw [6,27] (fun s6 yD wr=> ∃(k:Nat) (ov:Value),ov=s6/\yD= .int .i64 k/\k<=PL.length/\wr.ownsRow w.heap.size 79 2 ov (bQ (PL.take k)) (iG (PL.take k))/\Below w.heap.size w wr) (fun _ s _=>PL.length-(intOf s).toNat)
   case atStart=>exact⟨0,_,rfl,rfl,Nat.zero_le _,hown,hB⟩
   case round=>
    obtain⟨k,ov,rfl,rfl,hk,hO,hB1⟩:=hrel;clear hown hB;have HB:Hid (Below w.heap.size w wr):=hB1;by_cases hlt:k<PL.length
    ·have hrow:=(HR.out PL[k] (List.getElem_mem hlt)).below (Nat.le_refl _) hB1
     have c1:=(hB1.cell (World.block_lt_of_cell? _ _ (HP.out k hlt))).trans (HP.out k hlt);have ht:=Ag hlt;have hx:=Ko hlt;have hle:=Ah PL (k+1);rw[HT.out]at hle;have hT:=HS.out;rw[HT.out]at hT;obtain⟨⟨pv,m,ys⟩,hm⟩:∃p,PL[k]=p:=⟨_,rfl⟩;rw[hm]at hrow c1 ht hx;simp only at hrow c1 ht hx;obtain⟨a,c,hv,_⟩:=hrow.1;subst hv;obtain⟨q,h0⟩:∃q,bQ (PL.take k)=q:=⟨_,rfl⟩;obtain⟨xs,h1⟩:∃xs,iG (PL.take k)=xs:=⟨_,rfl⟩;rw[h0,h1]at hO;rw[h0]at ht;rw[h1]at hx;have HX:Hid (bQ (PL.take (k+1))=q+m/\iG (PL.take (k+1))=xs++ys):=⟨ht,hx⟩;have hqm:q+m<=100000:=by omega
     have hbs:=hB1.size;have i0:(0:Int)<=(k:Int):=Int.natCast_nonneg _;have i1:(k:Int)<(PL.length:Int):=by omega
     clear hm ht hx hle hT h0 h1 hB1
     go_wp2_with
      (at_builtin
       refine CQ rfl _ _ rfl rfl rfl rfl hO hrow hbs hqm ?_
       intro a' d' w' hown' hgrow hat)
     go_roundw
     case rel=>exact⟨k+1,_,rfl,by go_num,by omega,by rw[HX.out.1,HX.out.2];exact hown',HB.out.grown hgrow HB.out.size fun g hg=>((hO.lt g hg).1)⟩
     case measure=>simp[intOf];omega
    ·have hkk:k=PL.length:=by omega
     subst hkk;rw[List.take_length,HT.out]at hO;obtain⟨a,c,hv⟩:=aY hO;subst hv
     go_wp2_with fail
     go_ret;rw[HT.out];exact⟨a,c,rfl,hO,HB.out⟩
theorem Tryz.infoCcY:(Tryz.prog.info? 104).map (fun i=>(i.zero,i.size,i.bytes))=some (some (.agg #[.bool false,.int .i64 0]),2,16):=by kernel_rfl
theorem XI{w:World}{oa sa:Option Addr}{n d c:Nat}(hn:n<=d)(h0:oa=none->n=0/\d=0):(Builtin.append_ #[ 77,77 ] 77 #[.slice oa n d,.slice sa 0 c]).run Tryz.prog w= .ok (.slice oa n d) w:=by
 cases oa with
 |none=>
  obtain⟨rfl,rfl⟩:=h0 rfl;cases sa<;>go_simp
 |some o=>cases sa<;>go_simp
theorem PO{w:World}{B:Nat}{ov lv:Value}{n m:Nat}{xs ys:List Value}(ho:w.ownsRow B 104 2 ov n xs)(hl:dI w lv m ys)(hb:B<=w.heap.size)(hs:n+m<=100000):
 ∃a d w',(Builtin.append_ #[ 77,77 ] 77 #[ov,lv]).run Tryz.prog w= .ok (.slice a (n+m) d) w'/\w'.ownsRow B 104 2 (.slice a (n+m) d) (n+m) (xs++ys)/\w.grownBy w' ov.ownBlock/\∀g,(Value.slice a (n+m) d).ownBlock=some g->ov.ownBlock=some g\/g=w.heap.size:=by
 obtain⟨oa,od,hov⟩:=aY ho;obtain⟨⟨la,lc,hlv,_⟩,hlen,hone,hcell⟩:=hl;rcases Nat.eq_zero_or_pos m with h0|h0
 ·subst h0
  have he:ys=[]:=List.eq_nil_of_length_eq_zero (by omega);subst he;rw[hov,hlv]
  have hnd:n<=od/\(oa=none->n=0/\od=0):=by
   obtain⟨_,⟨hx,hz⟩|⟨_,_,_,hx,_,_,h5,_⟩⟩:=ho
   ·rw[hov]at hx
    injection hx with x1 x2 x3;exact⟨by omega,fun _=>⟨by omega,by omega⟩⟩
   ·rw[hov]at hx
    injection hx with x1 x2 x3;exact⟨by omega,fun e=>by rw[e]at x1;cases x1⟩
  refine⟨oa,od,w,XI hnd.1 hnd.2,?_,⟨rfl,rfl,rfl,Nat.le_refl _,fun _ _ _=>rfl⟩,fun g hg=> .inl hg⟩;rw[hov]at ho;simpa using ho
 ·obtain⟨ad,c,he,hnews⟩:=hcell h0
  obtain⟨i1,hi1,hy0,hy1,hy2⟩:=info_parts Tryz.infoCcY;obtain⟨g',cap',w',hr,h2,h3,h4,_⟩:=run_append_lies (P:=Tryz.prog) w 77 77 B 104 i1 _ 2 16 Tryz.underlying77 hi1 hy0 hy1 hy2 rfl (by omega) ov n xs ho ad m c ys hlen hnews hone h0 (by simp only[maxLen];omega) (by omega) hb w.heap.size rfl;rw[he];refine⟨_,_,w',hr,h2,h3,fun q hq=> ?_⟩;simp only[Value.ownBlock,Option.some.injEq]at hq;subst hq;exact h4
theorem XJ{w:World}{ops:Array Oper}{rest:List Oper}{o:Oper}{a:Act}{Q:Exit->Act->World->Prop}(hgd:o.guard=none)(s x:Operand)(ho':o.op= .call { callee:= .builtin .append,args:= #[s,x],argTypes:= #[ 77,77 ] })(hty:o.type=77)
 {B n m:Nat} {xs ys:List Value} {ov lv:Value} (hsv:a.eval s=ov) (hxv:a.eval x=lv) (ho:w.ownsRow B 104 2 ov n xs) (hl:dI w lv m ys) (hb:B<=w.heap.size) (hs:n+m<=100000)
 (h:∀a' d' w',w'.ownsRow B 104 2 (.slice a' (n+m) d') (n+m) (xs++ys)->w.grownBy w' ov.ownBlock->(∀g,(Value.slice a' (n+m) d').ownBlock=some g->ov.ownBlock=some g\/g=w.heap.size)->wpList Tryz.prog ops Q rest (a.put o.dst (.slice a' (n+m) d')) w'):wpList Tryz.prog ops Q (o::rest) a w:=by
 obtain⟨a',d',w',hr,h1,h2,h3⟩:=PO ho hl hb hs;refine wpList_plain hgd fun K hK=> ?_;unfold Oper.wp execOp;simp only[ho',hty,resolve,invoke,builtin,Sem.run_bind,Sem.run_pure,Result.andThen_ok,List.map_toArray,List.map_cons,List.map_nil,hsv,hxv,hr];exact hK _ _ (h a' d' w' h1 h2 h3)
theorem XK{w:World}{ops:Array Oper}{o:Oper}{a:Act}{K:Act->World->Prop}{Q:Exit->Act->World->Prop}{E:Prop}(hgd:o.guard=none)(s x:Operand)(ho':o.op= .call { callee:= .builtin .append,args:= #[s,x],argTypes:= #[ 77,77 ] })(hty:o.type=77)
 {B n m:Nat} {xs ys:List Value} {ov lv:Value} (hsv:a.eval s=ov) (hxv:a.eval x=lv) (ho:w.ownsRow B 104 2 ov n xs) (hl:dI w lv m ys) (hb:B<=w.heap.size) (hs:n+m<=100000)
 (h:∀a' d' w',w'.ownsRow B 104 2 (.slice a' (n+m) d') (n+m) (xs++ys)->w.grownBy w' ov.ownBlock->(∀g,(Value.slice a' (n+m) d').ownBlock=some g->ov.ownBlock=some g\/g=w.heap.size)->K (a.put o.dst (.slice a' (n+m) d')) w'):if Region.wanted o (yielded ops a.tmps)=true then Oper.wp Tryz.prog o a w K Q else E:=by
 obtain⟨a',d',w',hr,h1,h2,h3⟩:=PO ho hl hb hs;have hw:Region.wanted o (yielded ops a.tmps)=true:=by simp[Region.wanted,hgd]
 rw[if_pos hw];unfold Oper.wp execOp;simp only[ho',hty,resolve,invoke,builtin,Sem.run_bind,Sem.run_pure,Result.andThen_ok,List.map_toArray,List.map_cons,List.map_nil,hsv,hxv,hr];exact h a' d' w' h1 h2 h3
theorem XL{w:World}{n:Nat}(hn:n<=100000):
 Calls Tryz.prog 146 #[.slice none 0 0,.int .i64 n] w fun e w'=> ∃v,e= .returned v/\w'.ownsRow w.heap.size 104 2 v 0 []/\Below w.heap.size w w':=by
 have i0:(0:Int)<=(n:Int):=Int.natCast_nonneg _;rcases Nat.eq_zero_or_pos n with h0|h0
 ·subst h0
  go_enter Tryz.func146,Tryz.ntmps146
  go_wp2_with fail
  go_ret;exact⟨_,rfl,World.ownsRow_nil _ _ _ _,Below.refl _ _⟩
 ·obtain⟨i1,hi1,hy0,hy1,hy2⟩:=info_parts Tryz.infoCcY
  have hi:(0:Int)<(n:Int):=by omega
  have hr:=Lib.run_append_nil_zeros (P:=Tryz.prog) w 77 3 77 104 i1 (.agg #[.bool false,.int .i64 0]) .i64 .i64 Tryz.underlying77 Tryz.underlying3 hi1 hy0 n h0 (by rw[hy1];omega) (by omega) (by rw[hy2];omega);have hge:=grownCap_ge w n 0 104;have hle:=grownCap_le_maxLen w n 0 104 (by unfold maxLen;omega);obtain⟨C,hC⟩:∃C,grownCap w n 0 104=C:=⟨_,rfl⟩;rw[hC]at hr hge hle;clear hC;obtain⟨cur,hcur⟩:∃cur,Builtin.zeroCells (.agg #[.bool false,.int .i64 0]:Value).cells n++Builtin.zeroCells (.agg #[.bool false,.int .i64 0]:Value).cells (C-n)=cur:=⟨_,rfl⟩
  have hcs:cur.size=C*2:=by
   rw[<-hcur,Array.size_append,size_zeroCells,size_zeroCells];have:(.agg #[.bool false,.int .i64 0]:Value).cells.size=2:=rfl;rw[this];omega
  rw[hcur]at hr;clear hcur;have hup:∀w0 w,Sem.run Tryz.prog (Instr.sliceAt 77 (.slice (some ⟨w0,0,none⟩) n C) none (some (.int .i64 0)) none) w= .ok (.slice (some ⟨w0,0,none⟩) 0 C) w:=fun w0 w=>by go_simp
  go_enter Tryz.func146,Tryz.ntmps146
  go_wp2_with (at_builtin;refine Lib.wpList_append_run _ rfl _ _ _ _ rfl _ _ rfl rfl _ _ hr ?_)
  go_ret;exact⟨_,rfl,⟨rfl,.inr ⟨w.heap.size,C,cur,rfl,Nat.le_refl _,heap_alloc_new _ _,Nat.zero_le _,hle,hcs,rfl⟩⟩,(Below.refl _ _).drew.alloc (Nat.le_refl _) _⟩
theorem Kr{w:World}{pb:Nat}{PL:List Part}(hp:∀i (hi:i<PL.length),w.cell? ⟨pb,i,none⟩=some PL[i].1)(hr:∀p∈PL,dI w p.1 p.2.1 p.2.2)(hs:bQ PL<=100000)(hl:PL.length<=1000):
 Calls Tryz.prog 143 #[.slice (some ⟨pb,0,none⟩) PL.length PL.length] w fun e w'=> ∃a d,e= .returned (.slice a (bQ PL) d)/\w'.ownsRow w.heap.size 104 2 (.slice a (bQ PL) d) (bQ PL) (iG PL)/\Below w.heap.size w w':=by
 have HP:Hid (∀i (hi:i<PL.length),w.cell? ⟨pb,i,none⟩=some PL[i].1):=hp;have HR:Hid (∀p∈PL,dI w p.1 p.2.1 p.2.2):=hr;have HS:Hid (bQ PL<=100000):=hs;clear hp hr
 go_enter Tryz.func143,Tryz.ntmps143
 go_wp2_with fail
 go_loop [3,11] (fun s3 s11=> ∃k:Nat,s3= .int .i64 (bQ (PL.take k))/\s11= .int .i64 k/\k<=PL.length) (fun _ s=>PL.length-(intOf s).toNat)
 case atStart=>exact⟨0,rfl,rfl,Nat.zero_le _⟩
 case round=>
  obtain⟨k,rfl,rfl,hk⟩:=hrel;by_cases hlt:k<PL.length
  ·have c1:=HP.out k hlt
   obtain⟨⟨a,c,hv,_⟩,_⟩:=HR.out PL[k] (List.getElem_mem hlt);have ht:=Ag hlt;have hle:=Ah PL (k+1);obtain⟨m,hm⟩:∃m,PL[k].2.1=m:=⟨_,rfl⟩;rw[hm]at hv ht;rw[hv]at c1;obtain⟨t,h0⟩:∃t,bQ (PL.take k)=t:=⟨_,rfl⟩;rw[h0]at ht⊢;have HT:Hid (bQ (PL.take (k+1))=t+m):=ht;have i0:(0:Int)<=(k:Int):=Int.natCast_nonneg _;have i1:(k:Int)<(PL.length:Int):=by omega
   have i2:IntKind.i64.wrap ((t:Int)+(m:Int))=(t:Int)+(m:Int):=IntWalk.i64_in _ (by omega);have i3:decide ((t:Int)+(m:Int)<0)=false:=decide_eq_false (by omega);clear hm hv ht h0 hle
   go_wp2_with fail
   go_round
   case rel=>exact⟨k+1,by rw[HT.out];push_cast;rfl,by go_num,by omega⟩
   case measure=>simp[intOf];omega
  ·have hkk:k=PL.length:=by omega
   subst hkk;rw[List.take_length];obtain⟨t,h0⟩:∃t,bQ PL=t:=⟨_,rfl⟩;have gr:=XL (w:=w) (n:=t) (by omega);rw[h0];have HT:Hid (bQ PL=t):=h0;clear h0 hs
   go_wp2_with (go_at_call 146;refine gr.mono ?_;rintro e w1 ⟨v,rfl,hown,hB⟩;clear gr)
   go_loopw [6,27] (fun s6 yD wr=> ∃(k:Nat) (ov:Value),ov=s6/\yD= .int .i64 k/\k<=PL.length/\wr.ownsRow w.heap.size 104 2 ov (bQ (PL.take k)) (iG (PL.take k))/\Below w.heap.size w wr) (fun _ s _=>PL.length-(intOf s).toNat)
   case atStart=>exact⟨0,_,rfl,rfl,Nat.zero_le _,hown,hB⟩
   case round=>
    obtain⟨k,ov,rfl,rfl,hk,hO,hB1⟩:=hrel;clear hown hB;have HB:Hid (Below w.heap.size w wr):=hB1;by_cases hlt:k<PL.length
    ·have hrow:=(HR.out PL[k] (List.getElem_mem hlt)).below (Nat.le_refl _) hB1
     have c1:=(hB1.cell (World.block_lt_of_cell? _ _ (HP.out k hlt))).trans (HP.out k hlt);have ht:=Ag hlt;have hx:=Ko hlt;have hle:=Ah PL (k+1);rw[HT.out]at hle;have hT:=HS.out;rw[HT.out]at hT;obtain⟨⟨pv,m,ys⟩,hm⟩:∃p,PL[k]=p:=⟨_,rfl⟩;rw[hm]at hrow c1 ht hx;simp only at hrow c1 ht hx;obtain⟨a,c,hv,_⟩:=hrow.1;subst hv;obtain⟨q,h0⟩:∃q,bQ (PL.take k)=q:=⟨_,rfl⟩;obtain⟨xs,h1⟩:∃xs,iG (PL.take k)=xs:=⟨_,rfl⟩;rw[h0,h1]at hO;rw[h0]at ht;rw[h1]at hx;have HX:Hid (bQ (PL.take (k+1))=q+m/\iG (PL.take (k+1))=xs++ys):=⟨ht,hx⟩;have hqm:q+m<=100000:=by omega
     have hbs:=hB1.size;have i0:(0:Int)<=(k:Int):=Int.natCast_nonneg _;have i1:(k:Int)<(PL.length:Int):=by omega
     clear hm ht hx hle hT h0 h1 hB1
     go_wp2_with
      (at_builtin
       refine XJ rfl _ _ rfl rfl rfl rfl hO hrow hbs hqm ?_
       intro a' d' w' hown' hgrow hat)
     go_roundw
     case rel=>exact⟨k+1,_,rfl,by go_num,by omega,by rw[HX.out.1,HX.out.2];exact hown',HB.out.grown hgrow HB.out.size fun g hg=>((hO.lt g hg).1)⟩
     case measure=>simp[intOf];omega
    ·have hkk:k=PL.length:=by omega
     subst hkk;rw[List.take_length,HT.out]at hO;obtain⟨a,c,hv⟩:=aY hO;subst hv
     go_wp2_with fail
     go_ret;rw[HT.out];exact⟨a,c,rfl,hO,HB.out⟩
end Go.Proofs.YtpkmpkphfflpjaaGreat
namespace Go.Proofs.YtpkmpkphfflpjaaGreat
def wL(A:Int->List Int->Prop):List Sy->List Int->Prop
 | [],Z=>Z=[]
 |(true,v)::l,Z=> ∃Z',Z=v::Z'/\wL A l Z'
 |(false,n)::l,Z=> ∃Z1 Z2,Z=Z1++Z2/\A n Z1/\wL A l Z2
def Gb(R:List Ru)(A:Int->List Int->Prop)(n:Int)(Z:List Int):Prop:=∃r∈R,r.1=n/\wL A r.2 Z
def Ai(R:List Ru):Nat->Int->List Int->Prop
 |0,_,_=>False
 |k+1,n,Z=>Gb R (Ai R k) n Z
def wM(R:List Ru)(n:Int)(Z:List Int):Prop:=∃k,Ai R k n Z
theorem wL.mono{A B:Int->List Int->Prop}(h:∀n Z,A n Z->B n Z):∀{l:List Sy} {Z:List Int},wL A l Z->wL B l Z:=by
 intro l
 induction l with
 |nil=>intro Z hZ;exact hZ
 |cons s l ih=>
  intro Z hZ;obtain⟨b,n⟩:=s;cases b with
  |true=>obtain⟨Z',h1,h2⟩:=hZ;exact⟨Z',h1,ih h2⟩
  |false=>obtain⟨Z1,Z2,h1,h2,h3⟩:=hZ;exact⟨Z1,Z2,h1,h _ _ h2,ih h3⟩
theorem Gb.mono{R:List Ru}{A B:Int->List Int->Prop}(h:∀n Z,A n Z->B n Z){n:Int}{Z:List Int}(hZ:Gb R A n Z):Gb R B n Z:=by
 obtain⟨r,h1,h2,h3⟩:=hZ;exact⟨r,h1,h2,h3.mono h⟩
section
variable{R:List Ru}
end
def part(tok:List Int)(i j:Nat):List Int:=(tok.drop i).take (j-i)
def Mv(K:Nat->Nat->Nat->Bool)(tok:List Int)(upto:Nat)(s:Sy)(i m:Nat):Prop:=
 (s.1=true/\i<upto/\m=i+1/\tok.getD i 0=s.2)\/(s.1=false/\i<=m/\m<=upto/\K i m s.2.toNat=true)
def Kt(K:Nat->Nat->Nat->Bool)(tok:List Int)(upto:Nat):List Sy->Nat->Nat->Prop
 | [],i,x=>i=x
 |s::l,i,x=> ∃m,Mv K tok upto s i m/\Kt K tok upto l m x
section
variable{K:Nat->Nat->Nat->Bool}{tok:List Int}{upto:Nat}
theorem Mv.le{s:Sy}{i m:Nat}(h:Mv K tok upto s i m):i<=m/\m<=upto:=by
 rcases h with⟨_,h1,h2,_⟩|⟨_,h1,h2,_⟩<;>omega
theorem Kt.le{l:List Sy}{i x:Nat}(h:Kt K tok upto l i x)(hi:i<=upto):i<=x/\x<=upto:=by
 induction l generalizing i with
 |nil=>have:i=x:=h;omega
 |cons s l ih=>
  obtain⟨m,h1,h2⟩:=h;have:=h1.le;have:=ih h2 this.2;omega
end
end Go.Proofs.YtpkmpkphfflpjaaGreat
