import Derived.Test.YthbifaoaiggooaaGreatDoorq17
import Derived.Lib.AppendZeros
set_option maxHeartbeats 6400000
set_option maxRecDepth 100000
namespace Go.Proofs.YthbifaoaiggooaaGreatDoor
open Go.RowKit
theorem Tryz.infoCcR:(Tryz.prog.info? 96).map (λi=>(i.zero,i.size,i.bytes))=some (some (.agg #[.int .i64 0,.slice none 0 0]),2,32):=by kernel_rfl
theorem agG{w:World}{oa sa:Option Addr}{n d c:Nat}(hn:n<=d)(h0:oa=none->n=0/\d=0):(Builtin.append_ #[ 25,25 ] 25 #[.slice oa n d,.slice sa 0 c]).run Tryz.prog w= .ok (.slice oa n d) w:=by
 cases oa with
 |none=>
  obtain⟨rfl,rfl⟩:=h0 rfl;cases sa<;>go_simp
 |some o=>cases sa<;>go_simp
theorem YV{w:World}{B:Nat}{ov lv:Value}{n m:Nat}{xs ys:List Value}(ho:w.ownsRow B 96 2 ov n xs)(hl:gT w lv m ys)(hb:B<=w.heap.size)(hs:n+m<=100000):
 ∃a d w',(Builtin.append_ #[ 25,25 ] 25 #[ov,lv]).run Tryz.prog w= .ok (.slice a (n+m) d) w'/\w'.ownsRow B 96 2 (.slice a (n+m) d) (n+m) (xs++ys)/\w.grownBy w' ov.ownBlock/\∀g,(Value.slice a (n+m) d).ownBlock=some g->ov.ownBlock=some g\/g=w.heap.size:=by
 obtain⟨oa,od,hov⟩:=cO ho;obtain⟨⟨la,lc,hlv,_⟩,hlen,hone,hcell⟩:=hl;rcases FO m with h0|h0
 ·subst h0
  have he:ys=[]:=List.eq_nil_of_length_eq_zero (by omega);subst he;rw[hov,hlv]
  have hnd:n<=od/\(oa=none->n=0/\od=0):=by
   obtain⟨_,⟨hx,hz⟩|⟨_,_,_,hx,_,_,h5,_⟩⟩:=ho
   ·rw[hov]at hx
    injection hx with x1 x2 x3;exact⟨by omega,λ_=>⟨by omega,by omega⟩⟩
   ·rw[hov]at hx
    injection hx with x1 x2 x3;exact⟨by omega,λe=>by rw[e]at x1;cases x1⟩
  refine⟨oa,od,w,agG hnd.1 hnd.2,?_,⟨rfl,rfl,rfl,ah _,λ_ _ _=>rfl⟩,λg hg=> .inl hg⟩;rw[hov]at ho;simpa using ho
 ·obtain⟨ad,c,he,hnews⟩:=hcell h0
  obtain⟨i1,hi1,hy0,hy1,hy2⟩:=fK Tryz.infoCcR;obtain⟨g',cap',w',hr,h2,h3,h4,_⟩:=run_append_lies (P:=Tryz.prog) w 25 25 B 96 i1 _ 2 32 Tryz.underlying25 hi1 hy0 hy1 hy2 rfl (by omega) ov n xs ho ad m c ys hlen hnews hone h0 (by simp only[maxLen];omega) (by omega) hb w.heap.size rfl;rw[he];refine⟨_,_,w',hr,h2,h3,λq hq=> ?_⟩;simp only[Value.ownBlock,bM]at hq;subst hq;exact h4
theorem Jd{w:World}{ops:Array Oper}{rest:List Oper}{o:Oper}{a:Act}{Q:Exit->Act->World->Prop}(hgd:o.guard=none)(s x:Operand)(ho':o.op= .call { callee:= .builtin .append,args:= #[s,x],argTypes:= #[ 25,25 ] })(hty:o.type=25)
 {B n m:Nat} {xs ys:List Value} {ov lv:Value} (hsv:a.eval s=ov) (hxv:a.eval x=lv) (ho:w.ownsRow B 96 2 ov n xs) (hl:gT w lv m ys) (hb:B<=w.heap.size) (hs:n+m<=100000)
 (h:∀a' d' w',w'.ownsRow B 96 2 (.slice a' (n+m) d') (n+m) (xs++ys)->w.grownBy w' ov.ownBlock->(∀g,(Value.slice a' (n+m) d').ownBlock=some g->ov.ownBlock=some g\/g=w.heap.size)->wpList Tryz.prog ops Q rest (a.put o.dst (.slice a' (n+m) d')) w'):wpList Tryz.prog ops Q (o::rest) a w:=by
 obtain⟨a',d',w',hr,h1,h2,h3⟩:=YV ho hl hb hs;refine wpList_plain hgd λK hK=> ?_;unfold Oper.wp execOp;simp only[ho',hty,resolve,invoke,builtin,Sem.run_bind,Sem.run_pure,Result.andThen_ok,FM,jB,oq,hsv,hxv,hr];exact hK _ _ (h a' d' w' h1 h2 h3)
theorem YW{w:World}{ops:Array Oper}{o:Oper}{a:Act}{K:Act->World->Prop}{Q:Exit->Act->World->Prop}{E:Prop}(hgd:o.guard=none)(s x:Operand)(ho':o.op= .call { callee:= .builtin .append,args:= #[s,x],argTypes:= #[ 25,25 ] })(hty:o.type=25)
 {B n m:Nat} {xs ys:List Value} {ov lv:Value} (hsv:a.eval s=ov) (hxv:a.eval x=lv) (ho:w.ownsRow B 96 2 ov n xs) (hl:gT w lv m ys) (hb:B<=w.heap.size) (hs:n+m<=100000)
 (h:∀a' d' w',w'.ownsRow B 96 2 (.slice a' (n+m) d') (n+m) (xs++ys)->w.grownBy w' ov.ownBlock->(∀g,(Value.slice a' (n+m) d').ownBlock=some g->ov.ownBlock=some g\/g=w.heap.size)->K (a.put o.dst (.slice a' (n+m) d')) w'):if Region.wanted o (yielded ops a.tmps)=true then Oper.wp Tryz.prog o a w K Q else E:=by
 obtain⟨a',d',w',hr,h1,h2,h3⟩:=YV ho hl hb hs;have hw:Region.wanted o (yielded ops a.tmps)=true:=by simp[Region.wanted,hgd]
 rw[au hw];unfold Oper.wp execOp;simp only[ho',hty,resolve,invoke,builtin,Sem.run_bind,Sem.run_pure,Result.andThen_ok,FM,jB,oq,hsv,hxv,hr];exact h a' d' w' h1 h2 h3
theorem agH{w:World}{n:Nat}(hn:n<=100000):
 Calls Tryz.prog 245 #[.slice none 0 0,.int .i64 n] w λe w'=> ∃v,e= .returned v/\w'.ownsRow w.heap.size 96 2 v 0 []/\Below w.heap.size w w':=by
 have i0:(0:Int)<=(n:Int):=aF _;rcases FO n with h0|h0
 ·subst h0
  go_enter Tryz.func245,Tryz.ntmps245
  go_wp2_with fail
  go_ret;exact⟨_,rfl,ji _ _ _ _,ai _ _⟩
 ·obtain⟨i1,hi1,hy0,hy1,hy2⟩:=fK Tryz.infoCcR
  have hi:(0:Int)<(n:Int):=by omega
  have hr:=Lib.run_append_nil_zeros (P:=Tryz.prog) w 25 3 25 96 i1 (.agg #[.int .i64 0,.slice none 0 0]) .i64 .i64 Tryz.underlying25 Tryz.underlying3 hi1 hy0 n h0 (by rw[hy1];omega) (by omega) (by rw[hy2];omega);have hge:=grownCap_ge w n 0 96;have hle:=grownCap_le_maxLen w n 0 96 (by unfold maxLen;omega);obtain⟨C,hC⟩:=af (grownCap w n 0 96);rw[hC]at hr hge hle;clear hC;obtain⟨cur,hcur⟩:=af (Builtin.zeroCells (.agg #[.int .i64 0,.slice none 0 0]:Value).cells n++Builtin.zeroCells (.agg #[.int .i64 0,.slice none 0 0]:Value).cells (C-n))
  have hcs:cur.size=C*2:=by
   rw[<-hcur,Array.size_append,size_zeroCells,size_zeroCells];have:(.agg #[.int .i64 0,.slice none 0 0]:Value).cells.size=2:=rfl;rw[this];omega
  rw[hcur]at hr;clear hcur;have hup:∀w0 w,Sem.run Tryz.prog (Instr.sliceAt 25 (.slice (some ⟨w0,0,none⟩) n C) none (some (.int .i64 0)) none) w= .ok (.slice (some ⟨w0,0,none⟩) 0 C) w:=λw0 w=>by go_simp
  go_enter Tryz.func245,Tryz.ntmps245
  go_wp2_with (at_builtin;refine Lib.wpList_append_run _ rfl _ _ _ _ rfl _ _ rfl rfl _ _ hr ?_)
  go_ret;exact⟨_,rfl,⟨rfl,.inr ⟨w.heap.size,C,cur,rfl,ah _,heap_alloc_new _ _,aP _,hle,hcs,rfl⟩⟩,(ai _ _).drew.alloc (ah _) _⟩
theorem agI{w:World}{pb:Nat}{PL:List Part}(hp:∀i (hi:i<PL.length),w.cell? ⟨pb,i,none⟩=some PL[i].1)(hr:∀p∈PL,gT w p.1 p.2.1 p.2.2)(hs:eG PL<=100000)(hl:PL.length<=1000):
 Calls Tryz.prog 244 #[.slice (some ⟨pb,0,none⟩) PL.length PL.length] w λe w'=> ∃a d,e= .returned (.slice a (eG PL) d)/\w'.ownsRow w.heap.size 96 2 (.slice a (eG PL) d) (eG PL) (nD PL)/\Below w.heap.size w w':=by
 have HP:Hid (∀i (hi:i<PL.length),w.cell? ⟨pb,i,none⟩=some PL[i].1):=hp;have HR:Hid (∀p∈PL,gT w p.1 p.2.1 p.2.2):=hr;have HS:Hid (eG PL<=100000):=hs;clear hp hr
 go_enter Tryz.func244,Tryz.ntmps244
 go_wp2_with fail
 go_loop [3,11] (λs3 s11=> ∃k:Nat,s3= .int .i64 (eG (PL.take k))/\s11= .int .i64 k/\k<=PL.length) (λ_ s=>PL.length-(intOf s).toNat)
 case atStart=>exact⟨0,rfl,rfl,aP _⟩
 case round=>
  obtain⟨k,rfl,rfl,hk⟩:=hrel;by_cases hlt:k<PL.length
  ·have c1:=HP.out k hlt
   obtain⟨⟨a,c,hv,_⟩,_⟩:=HR.out PL[k] (jO hlt);have ht:=Mv hlt;have hle:=Mw PL (k+1);obtain⟨m,hm⟩:=af (PL[k].2.1);rw[hm]at hv ht;rw[hv]at c1;obtain⟨t,h0⟩:=af (eG (PL.take k));rw[h0]at ht⊢;have HT:Hid (eG (PL.take (k+1))=t+m):=ht;have i0:(0:Int)<=(k:Int):=aF _;have i1:(k:Int)<(PL.length:Int):=by omega
   have i2:IntKind.i64.wrap ((t:Int)+(m:Int))=(t:Int)+(m:Int):=uE _ (by omega);have i3:decide ((t:Int)+(m:Int)<0)=false:=aU (by omega);clear hm hv ht h0 hle
   go_wp2_with fail
   go_round
   case rel=>exact⟨k+1,by rw[HT.out];push_cast;rfl,by go_num,by omega⟩
   case measure=>simp[intOf];omega
  ·have hkk:k=PL.length:=by omega
   subst hkk;rw[gH];obtain⟨t,h0⟩:=af (eG PL);have gr:=agH (w:=w) (n:=t) (by omega);rw[h0];have HT:Hid (eG PL=t):=h0;clear h0 hs
   go_wp2_with (go_at_call 245;refine gr.mono ?_;rintro e w1 ⟨v,rfl,hown,hB⟩;clear gr)
   go_loopw [6,27] (λs6 Im wr=> ∃(k:Nat) (ov:Value),ov=s6/\Im= .int .i64 k/\k<=PL.length/\wr.ownsRow w.heap.size 96 2 ov (eG (PL.take k)) (nD (PL.take k))/\Below w.heap.size w wr) (λ_ s _=>PL.length-(intOf s).toNat)
   case atStart=>exact⟨0,_,rfl,rfl,aP _,hown,hB⟩
   case round=>
    obtain⟨k,ov,rfl,rfl,hk,hO,hB1⟩:=hrel;clear hown hB;have HB:Hid (Below w.heap.size w wr):=hB1;by_cases hlt:k<PL.length
    ·have hrow:=(HR.out PL[k] (jO hlt)).below (ah _) hB1
     have c1:=(hB1.cell (aQ _ _ (HP.out k hlt))).trans (HP.out k hlt);have ht:=Mv hlt;have hx:=YU hlt;have hle:=Mw PL (k+1);rw[HT.out]at hle;have hT:=HS.out;rw[HT.out]at hT;obtain⟨⟨pv,m,ys⟩,hm⟩:=af (PL[k]);rw[hm]at hrow c1 ht hx;simp only at hrow c1 ht hx;obtain⟨a,c,hv,_⟩:=hrow.1;subst hv;obtain⟨q,h0⟩:=af (eG (PL.take k));obtain⟨xs,h1⟩:=af (nD (PL.take k));rw[h0,h1]at hO;rw[h0]at ht;rw[h1]at hx;have HX:Hid (eG (PL.take (k+1))=q+m/\nD (PL.take (k+1))=xs++ys):=⟨ht,hx⟩;have hqm:q+m<=100000:=by omega
     have hbs:=hB1.size;have i0:(0:Int)<=(k:Int):=aF _;have i1:(k:Int)<(PL.length:Int):=by omega
     clear hm ht hx hle hT h0 h1 hB1
     go_wp2_with
      (at_builtin
       refine Jd rfl _ _ rfl rfl rfl rfl hO hrow hbs hqm ?_
       intro a' d' w' hown' hgrow hat)
     go_roundw
     case rel=>exact⟨k+1,_,rfl,by go_num,by omega,by rw[HX.out.1,HX.out.2];exact hown',HB.out.grown hgrow HB.out.size λg hg=>((hO.lt g hg).1)⟩
     case measure=>simp[intOf];omega
    ·have hkk:k=PL.length:=by omega
     subst hkk;rw[gH,HT.out]at hO;obtain⟨a,c,hv⟩:=cO hO;subst hv
     go_wp2_with fail
     go_ret;rw[HT.out];exact⟨a,c,rfl,hO,HB.out⟩
theorem Tryz.infoCcY:(Tryz.prog.info? 121).map (λi=>(i.zero,i.size,i.bytes))=some (some (.agg #[.bool false,.int .i64 0]),2,16):=by kernel_rfl
theorem agJ{w:World}{oa sa:Option Addr}{n d c:Nat}(hn:n<=d)(h0:oa=none->n=0/\d=0):(Builtin.append_ #[ 94,94 ] 94 #[.slice oa n d,.slice sa 0 c]).run Tryz.prog w= .ok (.slice oa n d) w:=by
 cases oa with
 |none=>
  obtain⟨rfl,rfl⟩:=h0 rfl;cases sa<;>go_simp
 |some o=>cases sa<;>go_simp
theorem YX{w:World}{B:Nat}{ov lv:Value}{n m:Nat}{xs ys:List Value}(ho:w.ownsRow B 121 2 ov n xs)(hl:gT w lv m ys)(hb:B<=w.heap.size)(hs:n+m<=100000):
 ∃a d w',(Builtin.append_ #[ 94,94 ] 94 #[ov,lv]).run Tryz.prog w= .ok (.slice a (n+m) d) w'/\w'.ownsRow B 121 2 (.slice a (n+m) d) (n+m) (xs++ys)/\w.grownBy w' ov.ownBlock/\∀g,(Value.slice a (n+m) d).ownBlock=some g->ov.ownBlock=some g\/g=w.heap.size:=by
 obtain⟨oa,od,hov⟩:=cO ho;obtain⟨⟨la,lc,hlv,_⟩,hlen,hone,hcell⟩:=hl;rcases FO m with h0|h0
 ·subst h0
  have he:ys=[]:=List.eq_nil_of_length_eq_zero (by omega);subst he;rw[hov,hlv]
  have hnd:n<=od/\(oa=none->n=0/\od=0):=by
   obtain⟨_,⟨hx,hz⟩|⟨_,_,_,hx,_,_,h5,_⟩⟩:=ho
   ·rw[hov]at hx
    injection hx with x1 x2 x3;exact⟨by omega,λ_=>⟨by omega,by omega⟩⟩
   ·rw[hov]at hx
    injection hx with x1 x2 x3;exact⟨by omega,λe=>by rw[e]at x1;cases x1⟩
  refine⟨oa,od,w,agJ hnd.1 hnd.2,?_,⟨rfl,rfl,rfl,ah _,λ_ _ _=>rfl⟩,λg hg=> .inl hg⟩;rw[hov]at ho;simpa using ho
 ·obtain⟨ad,c,he,hnews⟩:=hcell h0
  obtain⟨i1,hi1,hy0,hy1,hy2⟩:=fK Tryz.infoCcY;obtain⟨g',cap',w',hr,h2,h3,h4,_⟩:=run_append_lies (P:=Tryz.prog) w 94 94 B 121 i1 _ 2 16 Tryz.underlying94 hi1 hy0 hy1 hy2 rfl (by omega) ov n xs ho ad m c ys hlen hnews hone h0 (by simp only[maxLen];omega) (by omega) hb w.heap.size rfl;rw[he];refine⟨_,_,w',hr,h2,h3,λq hq=> ?_⟩;simp only[Value.ownBlock,bM]at hq;subst hq;exact h4
theorem agK{w:World}{ops:Array Oper}{rest:List Oper}{o:Oper}{a:Act}{Q:Exit->Act->World->Prop}(hgd:o.guard=none)(s x:Operand)(ho':o.op= .call { callee:= .builtin .append,args:= #[s,x],argTypes:= #[ 94,94 ] })(hty:o.type=94)
 {B n m:Nat} {xs ys:List Value} {ov lv:Value} (hsv:a.eval s=ov) (hxv:a.eval x=lv) (ho:w.ownsRow B 121 2 ov n xs) (hl:gT w lv m ys) (hb:B<=w.heap.size) (hs:n+m<=100000)
 (h:∀a' d' w',w'.ownsRow B 121 2 (.slice a' (n+m) d') (n+m) (xs++ys)->w.grownBy w' ov.ownBlock->(∀g,(Value.slice a' (n+m) d').ownBlock=some g->ov.ownBlock=some g\/g=w.heap.size)->wpList Tryz.prog ops Q rest (a.put o.dst (.slice a' (n+m) d')) w'):wpList Tryz.prog ops Q (o::rest) a w:=by
 obtain⟨a',d',w',hr,h1,h2,h3⟩:=YX ho hl hb hs;refine wpList_plain hgd λK hK=> ?_;unfold Oper.wp execOp;simp only[ho',hty,resolve,invoke,builtin,Sem.run_bind,Sem.run_pure,Result.andThen_ok,FM,jB,oq,hsv,hxv,hr];exact hK _ _ (h a' d' w' h1 h2 h3)
theorem agL{w:World}{ops:Array Oper}{o:Oper}{a:Act}{K:Act->World->Prop}{Q:Exit->Act->World->Prop}{E:Prop}(hgd:o.guard=none)(s x:Operand)(ho':o.op= .call { callee:= .builtin .append,args:= #[s,x],argTypes:= #[ 94,94 ] })(hty:o.type=94)
 {B n m:Nat} {xs ys:List Value} {ov lv:Value} (hsv:a.eval s=ov) (hxv:a.eval x=lv) (ho:w.ownsRow B 121 2 ov n xs) (hl:gT w lv m ys) (hb:B<=w.heap.size) (hs:n+m<=100000)
 (h:∀a' d' w',w'.ownsRow B 121 2 (.slice a' (n+m) d') (n+m) (xs++ys)->w.grownBy w' ov.ownBlock->(∀g,(Value.slice a' (n+m) d').ownBlock=some g->ov.ownBlock=some g\/g=w.heap.size)->K (a.put o.dst (.slice a' (n+m) d')) w'):if Region.wanted o (yielded ops a.tmps)=true then Oper.wp Tryz.prog o a w K Q else E:=by
 obtain⟨a',d',w',hr,h1,h2,h3⟩:=YX ho hl hb hs;have hw:Region.wanted o (yielded ops a.tmps)=true:=by simp[Region.wanted,hgd]
 rw[au hw];unfold Oper.wp execOp;simp only[ho',hty,resolve,invoke,builtin,Sem.run_bind,Sem.run_pure,Result.andThen_ok,FM,jB,oq,hsv,hxv,hr];exact h a' d' w' h1 h2 h3
theorem agM{w:World}{n:Nat}(hn:n<=100000):
 Calls Tryz.prog 240 #[.slice none 0 0,.int .i64 n] w λe w'=> ∃v,e= .returned v/\w'.ownsRow w.heap.size 121 2 v 0 []/\Below w.heap.size w w':=by
 have i0:(0:Int)<=(n:Int):=aF _;rcases FO n with h0|h0
 ·subst h0
  go_enter Tryz.func240,Tryz.ntmps240
  go_wp2_with fail
  go_ret;exact⟨_,rfl,ji _ _ _ _,ai _ _⟩
 ·obtain⟨i1,hi1,hy0,hy1,hy2⟩:=fK Tryz.infoCcY
  have hi:(0:Int)<(n:Int):=by omega
  have hr:=Lib.run_append_nil_zeros (P:=Tryz.prog) w 94 3 94 121 i1 (.agg #[.bool false,.int .i64 0]) .i64 .i64 Tryz.underlying94 Tryz.underlying3 hi1 hy0 n h0 (by rw[hy1];omega) (by omega) (by rw[hy2];omega);have hge:=grownCap_ge w n 0 121;have hle:=grownCap_le_maxLen w n 0 121 (by unfold maxLen;omega);obtain⟨C,hC⟩:=af (grownCap w n 0 121);rw[hC]at hr hge hle;clear hC;obtain⟨cur,hcur⟩:=af (Builtin.zeroCells (.agg #[.bool false,.int .i64 0]:Value).cells n++Builtin.zeroCells (.agg #[.bool false,.int .i64 0]:Value).cells (C-n))
  have hcs:cur.size=C*2:=by
   rw[<-hcur,Array.size_append,size_zeroCells,size_zeroCells];have:(.agg #[.bool false,.int .i64 0]:Value).cells.size=2:=rfl;rw[this];omega
  rw[hcur]at hr;clear hcur;have hup:∀w0 w,Sem.run Tryz.prog (Instr.sliceAt 94 (.slice (some ⟨w0,0,none⟩) n C) none (some (.int .i64 0)) none) w= .ok (.slice (some ⟨w0,0,none⟩) 0 C) w:=λw0 w=>by go_simp
  go_enter Tryz.func240,Tryz.ntmps240
  go_wp2_with (at_builtin;refine Lib.wpList_append_run _ rfl _ _ _ _ rfl _ _ rfl rfl _ _ hr ?_)
  go_ret;exact⟨_,rfl,⟨rfl,.inr ⟨w.heap.size,C,cur,rfl,ah _,heap_alloc_new _ _,aP _,hle,hcs,rfl⟩⟩,(ai _ _).drew.alloc (ah _) _⟩
theorem QX{w:World}{pb:Nat}{PL:List Part}(hp:∀i (hi:i<PL.length),w.cell? ⟨pb,i,none⟩=some PL[i].1)(hr:∀p∈PL,gT w p.1 p.2.1 p.2.2)(hs:eG PL<=100000)(hl:PL.length<=1000):
 Calls Tryz.prog 238 #[.slice (some ⟨pb,0,none⟩) PL.length PL.length] w λe w'=> ∃a d,e= .returned (.slice a (eG PL) d)/\w'.ownsRow w.heap.size 121 2 (.slice a (eG PL) d) (eG PL) (nD PL)/\Below w.heap.size w w':=by
 have HP:Hid (∀i (hi:i<PL.length),w.cell? ⟨pb,i,none⟩=some PL[i].1):=hp;have HR:Hid (∀p∈PL,gT w p.1 p.2.1 p.2.2):=hr;have HS:Hid (eG PL<=100000):=hs;clear hp hr
 go_enter Tryz.func238,Tryz.ntmps238
 go_wp2_with fail
 go_loop [3,11] (λs3 s11=> ∃k:Nat,s3= .int .i64 (eG (PL.take k))/\s11= .int .i64 k/\k<=PL.length) (λ_ s=>PL.length-(intOf s).toNat)
 case atStart=>exact⟨0,rfl,rfl,aP _⟩
 case round=>
  obtain⟨k,rfl,rfl,hk⟩:=hrel;by_cases hlt:k<PL.length
  ·have c1:=HP.out k hlt
   obtain⟨⟨a,c,hv,_⟩,_⟩:=HR.out PL[k] (jO hlt);have ht:=Mv hlt;have hle:=Mw PL (k+1);obtain⟨m,hm⟩:=af (PL[k].2.1);rw[hm]at hv ht;rw[hv]at c1;obtain⟨t,h0⟩:=af (eG (PL.take k));rw[h0]at ht⊢;have HT:Hid (eG (PL.take (k+1))=t+m):=ht;have i0:(0:Int)<=(k:Int):=aF _;have i1:(k:Int)<(PL.length:Int):=by omega
   have i2:IntKind.i64.wrap ((t:Int)+(m:Int))=(t:Int)+(m:Int):=uE _ (by omega);have i3:decide ((t:Int)+(m:Int)<0)=false:=aU (by omega);clear hm hv ht h0 hle
   go_wp2_with fail
   go_round
   case rel=>exact⟨k+1,by rw[HT.out];push_cast;rfl,by go_num,by omega⟩
   case measure=>simp[intOf];omega
  ·have hkk:k=PL.length:=by omega
   subst hkk;rw[gH];obtain⟨t,h0⟩:=af (eG PL);have gr:=agM (w:=w) (n:=t) (by omega);rw[h0];have HT:Hid (eG PL=t):=h0;clear h0 hs
   go_wp2_with (go_at_call 240;refine gr.mono ?_;rintro e w1 ⟨v,rfl,hown,hB⟩;clear gr)
   go_loopw [6,27] (λs6 Im wr=> ∃(k:Nat) (ov:Value),ov=s6/\Im= .int .i64 k/\k<=PL.length/\wr.ownsRow w.heap.size 121 2 ov (eG (PL.take k)) (nD (PL.take k))/\Below w.heap.size w wr) (λ_ s _=>PL.length-(intOf s).toNat)
   case atStart=>exact⟨0,_,rfl,rfl,aP _,hown,hB⟩
   case round=>
    obtain⟨k,ov,rfl,rfl,hk,hO,hB1⟩:=hrel;clear hown hB;have HB:Hid (Below w.heap.size w wr):=hB1;by_cases hlt:k<PL.length
    ·have hrow:=(HR.out PL[k] (jO hlt)).below (ah _) hB1
     have c1:=(hB1.cell (aQ _ _ (HP.out k hlt))).trans (HP.out k hlt);have ht:=Mv hlt;have hx:=YU hlt;have hle:=Mw PL (k+1);rw[HT.out]at hle;have hT:=HS.out;rw[HT.out]at hT;obtain⟨⟨pv,m,ys⟩,hm⟩:=af (PL[k]);rw[hm]at hrow c1 ht hx;simp only at hrow c1 ht hx;obtain⟨a,c,hv,_⟩:=hrow.1;subst hv;obtain⟨q,h0⟩:=af (eG (PL.take k));obtain⟨xs,h1⟩:=af (nD (PL.take k));rw[h0,h1]at hO;rw[h0]at ht;rw[h1]at hx;have HX:Hid (eG (PL.take (k+1))=q+m/\nD (PL.take (k+1))=xs++ys):=⟨ht,hx⟩;have hqm:q+m<=100000:=by omega
     have hbs:=hB1.size;have i0:(0:Int)<=(k:Int):=aF _;have i1:(k:Int)<(PL.length:Int):=by omega
     clear hm ht hx hle hT h0 h1 hB1
     go_wp2_with
      (at_builtin
       refine agK rfl _ _ rfl rfl rfl rfl hO hrow hbs hqm ?_
       intro a' d' w' hown' hgrow hat)
     go_roundw
     case rel=>exact⟨k+1,_,rfl,by go_num,by omega,by rw[HX.out.1,HX.out.2];exact hown',HB.out.grown hgrow HB.out.size λg hg=>((hO.lt g hg).1)⟩
     case measure=>simp[intOf];omega
    ·have hkk:k=PL.length:=by omega
     subst hkk;rw[gH,HT.out]at hO;obtain⟨a,c,hv⟩:=cO hO;subst hv
     go_wp2_with fail
     go_ret;rw[HT.out];exact⟨a,c,rfl,hO,HB.out⟩
end Go.Proofs.YthbifaoaiggooaaGreatDoor
namespace Go.Proofs.YthbifaoaiggooaaGreatDoor
def jU:List Sy->List Int
 | []=>[]
 |(true,_)::l=>jU l
 |(false,n)::l=>n::jU l
section
variable{R:List Ru}
end
theorem QY:∀(l m:List Sy),jU (l++m)=jU l++jU m
 | [],m=>rfl
 |(true,_)::l,m=>QY l m
 |(false,n)::l,m=>by rw[List.cons_append,jU,jU,QY l m,List.cons_append]
end Go.Proofs.YthbifaoaiggooaaGreatDoor
namespace Go.Proofs.YthbifaoaiggooaaGreatDoor
open Go.RowKit
theorem E9{w:World}{base:Nat}{e:TypeId}{size:Nat}{v:Value}{n:Nat}{xs:List Value}(h:w.ownsRow base e size v n xs){a:Addr}(ha:a.block<base)(u:Value):(w.setCell a u).ownsRow base e size v n xs:=by
 obtain⟨z1,z2|⟨g',c',cur,e',z2,z3,z4⟩⟩:=h
 ·exact⟨z1,.inl z2⟩
 ·exact⟨z1,.inr ⟨g',c',cur,e',z2,by rw[gm _ _ _ _ (by omega)];exact z3,z4⟩⟩
theorem yj{w:World}{n m:Int}:Calls Tryz.prog 158 #[.int .i64 n,.int .i64 m] w λe w'=>e= .returned (.bool (decide (0<=n)&&decide (n<m)))/\w'=w:=by
 by_cases h0:0<=n
 ·by_cases h1:n<m
  ·have e1:decide (n<m)=true:=aT h1
   have e0:decide (0<=n)=true:=aT h0;rw[e0,e1]
   go_enter Tryz.func158,Tryz.ntmps158
   go_wp2_with fail
   go_ret;exact⟨rfl,rfl⟩
  ·have e1:decide (n<m)=false:=aU h1
   have e0:decide (0<=n)=true:=aT h0;rw[e0,e1];clear h1
   go_enter Tryz.func158,Tryz.ntmps158
   go_wp2_with fail
   go_ret;exact⟨rfl,rfl⟩
 ·have e0:decide (0<=n)=false:=aU h0
  rw[e0];clear h0
  go_enter Tryz.func158,Tryz.ntmps158
  go_wp2_with fail
  go_ret;exact⟨rfl,rfl⟩
section
variable{w:World}{T N:Int}{ra:Option Addr}{rn rc:Nat}{op a b c:Int}
theorem CV:Calls Tryz.prog 239 #[.agg #[.int .i64 T,.int .i64 N,.slice ra rn rc,.int .i64 op,.int .i64 a,.int .i64 b,.int .i64 c]] w λe w'=>e= .returned (.agg #[.bool false,.int .i64 N])/\Below w.heap.size w w':=by
 go_enter Tryz.func239,Tryz.ntmps239
 go_wp2_with fail
 refine aH (v:= .agg #[.bool false,.int .i64 N]) (by simp[results,Tryz.results239,go_sem]) rfl ?_;exact⟨rfl,by first|exact((ai _ _).alloc (ah _) _).alloc (by simp) _|exact(((ai _ _).alloc (ah _) _).alloc (by simp) _).setCell (by simp) _⟩
theorem Je{M:Int}{oa:Option Addr}{on oc:Nat}:Calls Tryz.prog 233 #[.agg #[.int .i64 T,.int .i64 N,.slice ra rn rc,.int .i64 op,.int .i64 a,.int .i64 b,.int .i64 c],.int .i64 M,.slice oa on oc] w λe w'=>e= .returned (.agg #[.int .i64 T,.int .i64 M,.slice oa on oc])/\Below w.heap.size w w':=by
 go_enter Tryz.func233,Tryz.ntmps233
 go_wp2_with fail
 refine aH (v:= .agg #[.int .i64 T,.int .i64 M,.slice oa on oc]) (by simp[results,Tryz.results233,go_sem]) rfl ?_;exact⟨rfl,by first|exact((ai _ _).alloc (ah _) _).alloc (by simp) _|exact(((ai _ _).alloc (ah _) _).alloc (by simp) _).setCell (by simp) _⟩
end
theorem YZ{w:World}{L:Int}{lv:Value}{l:List Sy}(hl:dh w lv l)(hs:l.length<=1000):
 Calls Tryz.prog 234 #[.agg #[.int .i64 L,lv]] w λe w'=> ∃ga d,e= .returned (.agg #[.int .i64 L,.slice ga l.length d])/\w'.ownsRow w.heap.size 121 2 (.slice ga l.length d) l.length (bD l)/\Below w.heap.size w w':=by
 obtain⟨la,lc,hlv,_⟩:=hl.1;subst hlv;obtain⟨n,hn⟩:=af l.length;rw[hn]at hl hs⊢;have HL:Hid (dh w (.slice la n lc) l/\l.length=n):=⟨hl,hn⟩;clear hl hn
 go_enter Tryz.func234,Tryz.ntmps234
 go_upto_region 1 with fail
 obtain⟨W1,hW1⟩:=af ((w.alloc (.cells #[.int .i64 L,.slice la n lc] 96)).alloc (.cells #[.int .i64 0,.slice none 0 0] 96));obtain⟨W2,hW2⟩:=af W1.drew;have u1:W2.cell? ⟨w.heap.size,0,none⟩=some (.int .i64 L):=by rw[<-hW2,<-hW1];simp[go_sem]
 have u2:W2.cell? ⟨w.heap.size,1,none⟩=some (.slice la n lc):=by rw[<-hW2,<-hW1];simp[go_sem]
 have u3:W2.cell? ⟨w.heap.size+1,0,none⟩=some (.int .i64 0):=by rw[<-hW2,<-hW1];simp[go_sem]
 have u4:W2.cell? ⟨w.heap.size+1,1,none⟩=some (.slice none 0 0):=by rw[<-hW2,<-hW1];simp[go_sem]
 have uf:∀o,W2.frozen? ⟨w.heap.size+1,o,none⟩=false:=λo=>by rw[<-hW2,<-hW1];simp[go_sem]
 have hB1:Below w.heap.size w W2:=by rw[<-hW2,<-hW1];exact(((ai _ _).alloc (ah _) _).alloc (by simp) _).drew
 have hs1:W2.heap.size=w.heap.size+2:=by rw[<-hW2,<-hW1];simp
 have HL1:Hid (∀wq,Below W2.heap.size W2 wq->gT wq (.slice la n lc) n (bD l)):=λwq hq=>by
  have:=HL.out.1.row;rw[HL.out.2]at this;exact this.below (B:=w.heap.size) (ah _) (hB1.trans (hq.mono (by omega)))
 have HS:Hid (W2.heap.size=w.heap.size+2):=hs1;rw[hW1];clear hW1 hs1;refine aa9 [0,1,3,4] 4 7 (λw'=>w'.cell? ⟨w.heap.size,0,none⟩=some (.int .i64 L)/\w'.cell? ⟨w.heap.size,1,none⟩=some (.slice la n lc)) (by kernel_rfl) (by kernel_rfl) (by rw[hW2];exact⟨u1,u2⟩) ?_;rw[hW2];clear hW2
 iterate 4
  refine aW.zQ (v:= ?_) rfl (by rfl) ?_ ?_;rotate_left
  ·intro w' hSw
   obtain⟨z0,z1⟩:=hSw
   go_simp
   try with_reducible rfl
  simp only[Act.put,eB,List.set_cons_zero,List.set_cons_succ]
 rw[aW];have hB2:Below W2.heap.size W2 (W2.alloc (.cells #[] 121)):=(ai _ _).alloc (ah _) _;have Ig:(W2.alloc (.cells #[] 121)).ownsRow W2.heap.size 121 2 (.slice (some ⟨W2.heap.size,0,none⟩) 0 0) 0 []:=⟨rfl,.inr ⟨W2.heap.size,0,#[],rfl,ah _,heap_alloc_new _ _,ah _,by decide,rfl,rfl⟩⟩;have hrow:=HL1.out _ hB2;refine qV.one (i:=2) (by kernel_rfl) ⟨_,rfl,λK hK=> ?_⟩
 go_simp
 refine hK.out _ _ (λ_=>⟨?_,?_⟩) ?_
 ·exact(hB2.cell (aQ _ _ u1)).trans u1
 ·exact(hB2.cell (aQ _ _ u2)).trans u2
 clear hK;refine qV.one (i:=5) (by kernel_rfl) ⟨_,rfl,λK hK=> ?_⟩;refine agL rfl _ _ rfl rfl rfl rfl Ig hrow hB2.size (by omega) ?_;intro a' d' w' hown hgrow hat;have hB3:Below W2.heap.size W2 w':=hB2.grown hgrow hB2.size λk hk=>(Ig.lt k hk).1;rw[eO]at hown⊢;rw[List.nil_append]at hown;have v1:=(hB3.cell (aQ _ _ u1)).trans u1;have v2:=(hB3.cell (aQ _ _ u2)).trans u2;have v3:=(hB3.cell (aQ _ _ u3)).trans u3;have v4:=(hB3.cell (aQ _ _ u4)).trans u4;have vf:∀o,w'.frozen? ⟨w.heap.size+1,o,none⟩=false:=λo=>(hB3.frozen (p:=⟨w.heap.size+1,o,none⟩) (show w.heap.size+1<_ by rw[HS.out];omega)).trans (uf o);have vf0:=vf 0;have vf1:=vf 1;refine hK.out _ _ (λ_=>⟨v1,v2⟩) ?_;clear hK Ig hrow hgrow hat u1 u2 u3 u4 uf hB2;refine qV.one (i:=6) (by kernel_rfl) ⟨_,rfl,λK hK=> ?_⟩
 go_simp
 refine hK.out _ _ (λ_=>⟨v1,v2⟩) ?_;clear hK;refine qV.one (i:=7) (by kernel_rfl) ⟨_,rfl,λK hK=> ?_⟩
 go_simp
 refine hK.out _ _ (λh=>absurd h (by omega)) ?_;clear hK;refine qV.end (by kernel_rfl) (NoPanic.normal ?_)
 have q0:((w'.setCell ⟨w.heap.size+1,0,none⟩ (.int .i64 L)).setCell ⟨w.heap.size+1,1,none⟩ (.slice a' n d')).cell? ⟨w.heap.size+1,0,none⟩=some (.int .i64 L):=by
  rw[jW (.inr (by simp))];exact Ae _ _ _ v3
 have q1:((w'.setCell ⟨w.heap.size+1,0,none⟩ (.int .i64 L)).setCell ⟨w.heap.size+1,1,none⟩ (.slice a' n d')).cell? ⟨w.heap.size+1,1,none⟩=some (.slice a' n d'):=by
  exact Ae _ _ _ ((jW (.inr (by simp))).trans v4)
 go_wp2_with fail
 refine aH (v:= .agg #[.int .i64 L,.slice a' n d']) (by simp[results,Tryz.results234,go_sem,q0,q1]) rfl ?_;have hlo:w.heap.size+1<W2.heap.size:=by rw[HS.out];omega
 refine⟨a',d',rfl,lq (E9 (E9 hown (a:=⟨w.heap.size+1,0,none⟩) hlo _) (a:=⟨w.heap.size+1,1,none⟩) hlo _) (by omega),?_⟩;exact((hB1.trans (hB3.mono (by omega))).setCell (p:=⟨w.heap.size+1,0,none⟩) (by simp) _).setCell (p:=⟨w.heap.size+1,1,none⟩) (by simp) _
theorem agN{l:List Sy}{k:Nat}(hk:k<l.length):(jU (l.take (k+1))).length=(jU (l.take k)).length+(if (l.getD k (false,0)).1 then 0 else 1):=by
 have e:l.getD k (false,0)=l[k]:=by simp[List.getD,hk]
 rw[fT hk,QY,aS,e];obtain⟨t,n⟩:=l[k];cases t<;>rfl
theorem agO(l:List Sy):(jU l).length<=l.length:=by
 induction l with
 |nil=>exact ah _
 |cons x l ih=>
  obtain⟨t,n⟩:=x;cases t
  ·rw[jU,List.length_cons,List.length_cons];omega
  ·rw[jU,List.length_cons];omega
theorem QZ{w:World}{lv:Value}{l:List Sy}(hl:dh w lv l)(hs:l.length<=1000):
 Calls Tryz.prog 159 #[lv] w λe w'=>e= .returned (.int .i64 (jU l).length)/\Below w.heap.size w w':=by
 obtain⟨la,lc,hlv,_⟩:=hl.1;subst hlv;have HL:Hid (dh w (.slice la l.length lc) l):=hl;clear hl
 go_enter Tryz.func159,Tryz.ntmps159
 go_wp2_with fail
 go_loopw [3,8] (λs3 s8 wr=> ∃k:Nat,s3= .int .i64 (jU (l.take k)).length/\s8= .int .i64 k/\k<=l.length/\Below w.heap.size w wr) (λ_ s _=>l.length-(intOf s).toNat)
 case atStart=>exact⟨0,rfl,rfl,aP _,ai _ _⟩
 case round=>
  obtain⟨k,rfl,rfl,hk,hB⟩:=hrel;have HB:Hid (Below w.heap.size w wr):=hB;by_cases hlt:k<l.length
  ·obtain⟨b,o,c,hv,c1,c2⟩:=(HL.out.same (ko hB)).2 k hlt
   cases hv;have ht:=agN hlt;have hle:=agO (l.take k);rw[fq]at hle;obtain⟨⟨t,v⟩,hx⟩:=af (l.getD k (false,0));rw[hx]at c1 c2 ht;simp only at c1 c2 ht;obtain⟨q,hq⟩:=af ((jU (l.take k)).length);rw[hq]at ht hle⊢;have hq8:q<=1000:=by omega
   have HT:Hid ((jU (l.take (k+1))).length=q+(if t=true then 0 else 1)):=ht;have i0:(0:Int)<=(k:Int):=aF _;have i1:(k:Int)<(l.length:Int):=by omega
   have hsz:=hB.size;clear hx ht hq hle hB;cases t with
   |true=>
    go_wp2_with fail
    go_roundw
    case rel=>exact⟨k+1,by rw[HT.out];rfl,by go_num,by omega,HB.out.alloc hsz _⟩
    case measure=>simp[intOf];omega
   |false=>
    go_wp2_with fail
    go_roundw
    case rel=>exact⟨k+1,by rw[HT.out];go_num,by go_num,by omega,HB.out.alloc hsz _⟩
    case measure=>simp[intOf];omega
  ·have hkk:k=l.length:=by omega
   subst hkk;rw[gH];clear hB
   go_wp2_with fail
   go_ret;exact⟨rfl,HB.out⟩
def lT(x:Value×Ru):List Value:=[.int .i64 x.2.1,x.1]
def dY(RL:List (Value×Ru)):List Value:=RL.flatMap lT
theorem Fa(RL:List (Value×Ru)):(dY RL).length=RL.length*2:=by
 unfold dY
 induction RL with
 |nil=>rfl
 |cons a L ih=>rw[gV,aS,ih];simp[lT];omega
theorem Mx{RL:List (Value×Ru)}{i j:Nat}(hi:i<RL.length)(hj:j<2):(dY RL)[i*2+j]?=(lT (RL.getD i (.slice none 0 0,(0,[]))))[j]?:=by
 unfold dY
 induction RL generalizing i with
 |nil=>simp at hi
 |cons a L ih=>
  rw[gV];cases i with
  |zero=>rw[vo (by simp[lT];omega)];simp
  |succ i=>
   rw[o9 (by simp[lT];omega)];simp only[lT,List.length_cons,List.length_nil];rw[show (i+1)*2+j-(0+1+1)=i*2+j by omega];have:=ih (i:=i) (by simpa using hi);simpa [List.getD,lT] using this
theorem Q0(A C:List (Value×Ru)):dY (A++C)=dY A++dY C:=by simp[dY]
structure bA(w:World)(B:Nat)(lv:Value)(RL:List (Value×Ru)):Prop where
 own:w.ownsRow B 96 2 lv RL.length (dY RL)
 sym:∀x∈RL,rZ w (λb=>B<=b/\lv.ownBlock≠some b) x.1 x.2.2
section
variable{w w':World}{B:Nat}{lv:Value}{RL:List (Value×Ru)}
theorem bA.below(h:bA w B lv RL)(hb:Below w.heap.size w w'):bA w' B lv RL:=⟨own_below h.own hb λg hg=>(h.own.lt g hg).2,λx hx=>(h.sym x hx).below hb⟩
theorem bA.mono{B':Nat}(h:bA w B lv RL)(hB:B'<=B):bA w B' lv RL:=⟨lq h.own hB,λx hx=>(h.sym x hx).kept (ah _) λb hA _=>⟨rfl,by have:=hA.1;omega,hA.2⟩⟩
theorem MB(w:World)(B:Nat):bA w B (.slice none 0 0) []:=⟨ji _ _ _ _,λx hx=>by cases hx⟩
theorem agP(h:∀x∈RL,∃a n c,x.1= .slice a n c):∀u∈dY RL,u.oneCell'=true:=λu hu=>by
 unfold dY at hu;obtain⟨x,hx,hu⟩:=Aa.1 hu;obtain⟨a,n,c,e⟩:=h x hx;simp only[lT,iW,wS,wY]at hu;rcases hu with rfl|rfl
 ·rfl
 ·rw[e];rfl
theorem bA.slices(h:bA w B lv RL):∀x∈RL,∃a n c,x.1= .slice a n c:=λx hx=>let ⟨a,c,e,_⟩:=(h.sym x hx).1;⟨a,_,c,e⟩
theorem bA.rules(h:bA w B lv RL):aG w w.heap.size lv (RL.map λx=>x.2):=by
 obtain⟨a,c,hv⟩:=cO h.own;refine⟨⟨a,c,by rw[hv,cK]⟩,λq hq=> ?_⟩;have hq':q<RL.length:=by simpa using hq
 obtain⟨g,cap,hg,_,hlt⟩:=h.own.form (by omega);have ho:=h.own;rw[hg]at ho;have e:(RL.map λx=>x.2).getD q (0,[])=(RL.getD q (.slice none 0 0,(0,[]))).2:=by simp[List.getD,hq']
 have hx:RL.getD q (.slice none 0 0,(0,[]))∈RL:=by simp[List.getD,hq']
 obtain⟨⟨qa,qc,Y0,hqc⟩,hsy⟩:=h.sym _ hx;have c0:=(ho.cellAt (q*2) (by omega)).trans (Mx (j:=0) hq' (by omega));have c1:=(ho.cellAt (q*2+1) (by omega)).trans (Mx (j:=1) hq' (by omega));simp only[lT,List.getElem?_cons_zero,List.getElem?_cons_succ]at c0 c1;rw[Y0]at c1;refine⟨g,0,cap,qa,qc,by rw[hg,cK],hlt,by rw[e,eO];exact c0,by rw[e,eO];exact c1,by rw[e];exact hqc,λj hj=> ?_⟩;rw[e]at hj⊢;obtain⟨b,o,c',h1,_,h3,h4,h5⟩:=hsy j hj;rw[Y0]at h1;cases h1;exact⟨b,o,rfl,h3,h4,by rw[<-kF];exact h5⟩
end
section
variable{w wq w':World}{T N:Nat}{ra:Option Addr}{rc:Nat}{R:List Ru}{s:Stp}{rb g d:Nat}{L:Int}{l:List Sy}
end
def jy(lv:Value)(RL:List (Value×Ru)):Option Nat->Option Row
 |none=>some ⟨lv,96,2,RL.length,dY RL⟩
 |some k=>(RL[k]?).map λx=>⟨x.1,121,2,x.2.2.length,bD x.2.2⟩
section
variable{w w5 w6:World}{B:Nat}{lv nv v:Value}{RL:List (Value×Ru)}{L:Int}{l:List Sy}
theorem Q5{k:Nat}{a:Row}(h:jy lv RL (some k)=some a):∃hk:k<RL.length,a=⟨RL[k].1,121,2,RL[k].2.2.length,bD RL[k].2.2⟩:=by
 change (RL[k]?).map (λx=>(⟨x.1,121,2,x.2.2.length,bD x.2.2⟩:Row))=some a at h;by_cases hk:k<RL.length
 ·rw[pq hk]at h
  simp only[Option.map_some,bM]at h;exact⟨hk,h.symm⟩
 ·rw[nJ (by omega)]at h
  simp at h
theorem yt{k:Nat}(hk:k<RL.length):jy lv RL (some k)=some ⟨RL[k].1,121,2,RL[k].2.2.length,bD RL[k].2.2⟩:=by
 change (RL[k]?).map (λx=>(⟨x.1,121,2,x.2.2.length,bD x.2.2⟩:Row))=_;rw[pq hk];rfl
theorem Y3(w:World)(B:Nat):aA w B (jy (.slice none 0 0) []):=by
 refine⟨λi r hr=> ?_,λi j a b hij ha hb g h1 h2=> ?_⟩
 ·cases i with
  |none=>cases hr;exact ji _ _ _ _
  |some k=>obtain⟨hk,_⟩:=Q5 hr;simp at hk
 ·cases i with
  |none=>cases ha;cases h1
  |some k=>obtain⟨hk,_⟩:=Q5 ha;simp at hk
theorem aA.ul(h:aA w B (jy lv RL)):w.ownsRow B 96 2 lv RL.length (dY RL):=h.own none _ rfl
theorem aA.CW(h:aA w B (jy lv RL)){k:Nat}(hk:k<RL.length):w.ownsRow B 121 2 RL[k].1 RL[k].2.2.length (bD RL[k].2.2):=h.own (some k) _ (yt hk)
theorem aA.Y4(h:aA w B (jy lv RL))(hB:B<=w.heap.size)(hb:Below w.heap.size w w5)(ho:w5.ownsRow w.heap.size 121 2 v l.length (bD l))(hg:w5.grownBy w6 lv.ownBlock)(hn:w6.ownsRow B 96 2 nv (RL.length+1) (dY (RL++[(v,(L,l))])))(hat:∀g,nv.ownBlock=some g->lv.ownBlock=some g\/w5.heap.size<=g):aA w6 B (jy nv (RL++[(v,(L,l))])):=by
 have hs5:=hb.size;have hlv:∀g,lv.ownBlock=some g->g<w.heap.size:=λg hg=>(h.ul.lt g hg).2
 have old:∀k (hk:k<RL.length),w6.ownsRow B 121 2 RL[k].1 RL[k].2.2.length (bD RL[k].2.2):=λk hk=>by
  refine(own_below (h.CW hk) hb λg hg=>(((h.CW hk).lt g hg).2)).kept hg ?_;cases e:RL[k].1.ownBlock with
  |none=>exact .inl rfl
  |some g=>exact .inr λe'=>h.apart (some k) none _ _ (by simp) (yt hk) rfl g e e'.symm
 have new:w6.ownsRow w.heap.size 121 2 v l.length (bD l):=by
  refine ho.kept hg ?_;cases e:v.ownBlock with
  |none=>exact .inl rfl
  |some g=>exact .inr λe'=>by have:=hlv g e'.symm;have:=(ho.lt g e).1;omega
 have cases':∀{k:Nat} {a:Row},jy nv (RL++[(v,(L,l))]) (some k)=some a->(∃hk:k<RL.length,a=⟨RL[k].1,121,2,RL[k].2.2.length,bD RL[k].2.2⟩)\/(k=RL.length/\a=⟨v,121,2,l.length,bD l⟩):=λ{k a} hr=>by
  obtain⟨hk,e⟩:=Q5 hr;rcases Ac k RL.length with hlt|hge
  ·refine .inl ⟨hlt,?_⟩
   simp only[List.getElem_append_left hlt]at e;exact e
  ·have:k=RL.length:=by simp at hk;omega
   subst this;refine .inr ⟨rfl,?_⟩;simpa using e
 have Y5:∀{k:Nat} {a:Row},jy nv (RL++[(v,(L,l))]) (some k)=some a->∀g,a.v.ownBlock=some g->nv.ownBlock=some g->False:=λ{k a} ha g h1 h2=>by
  rcases cases' ha with⟨hk,rfl⟩|⟨_,rfl⟩
  ·have hlt:=((h.CW hk).lt g h1).2
   rcases hat g h2 with e|e
   ·exact h.apart (some k) none _ _ (by simp) (yt hk) rfl g h1 e
   ·omega
  ·have hl1:=(ho.lt g h1)
   rcases hat g h2 with e|e
   ·have:=hlv g e;omega
   ·omega
 refine⟨λi r hr=> ?_,λi j a b hij ha hb' g h1 h2=> ?_⟩
 ·cases i with
  |none=>
   cases hr;simp only[aS,List.length_singleton];exact hn
  |some k=>
   rcases cases' hr with⟨hk,rfl⟩|⟨_,rfl⟩
   ·exact old k hk
   ·exact lq new hB
 ·cases i with
  |none=>
   cases j with
   |none=>exact hij rfl
   |some k=>cases ha;exact Y5 hb' g h2 h1
  |some k=>
   cases j with
   |none=>cases hb';exact Y5 ha g h1 h2
   |some k'=>
    rcases cases' ha with⟨hk,rfl⟩|⟨e1,rfl⟩
    ·rcases cases' hb' with⟨hk',rfl⟩|⟨_,rfl⟩
     ·exact h.apart (some k) (some k') _ _ hij (yt hk) (yt hk') g h1 h2
     ·have:=((h.CW hk).lt g h1).2
      have:=(ho.lt g h2).1;omega
    ·rcases cases' hb' with⟨hk',rfl⟩|⟨e2,rfl⟩
     ·have:=((h.CW hk').lt g h2).2
      have:=(ho.lt g h1).1;omega
     ·exact hij (by rw[e1,e2])
theorem aA.Jf(h:aA w B (jy lv RL)):bA w B lv RL:=by
 refine⟨h.ul,λx hx=> ?_⟩;obtain⟨k,hk,rfl⟩:=kE hx;refine(E8 (h.CW hk)).kept (ah _) λb hA _=>⟨rfl,hA.2,λe=> ?_⟩;exact h.apart (some k) none _ _ (by simp) (yt hk) rfl b hA.1 e
end
theorem Fb(RL:List (Value×Ru))(v:Value)(L:Int)(l:List Sy):dY (RL++[(v,(L,l))])=dY RL++[.int .i64 L,v]:=by rw[Q0];rfl
theorem Fe{w:World}{L:Int}{va:Option Addr}{n d:Nat}:gT (w.alloc (.cells #[.int .i64 L,.slice va n d] 96)) (.slice (some ⟨w.heap.size,0,none⟩) 1 1) 1 [.int .i64 L,.slice va n d]:=
 ⟨⟨_,_,rfl,ah _⟩,rfl,by simp[Value.oneCell'],λ_=>⟨_,_,rfl,jh (cs:= #[.int .i64 L,.slice va n d]) (t:=96) (fr:=(0,0)) (heap_alloc_new w _)⟩⟩
theorem MC{w:World}{T N:Int}{ra:Option Addr}{rc:Nat}{op a b c:Int}{R:List Ru}(hr:aG w w.heap.size (.slice ra R.length rc) R)(hl:R.length<=1000)(hl2:∀q,q<R.length->(R.getD q (0,[])).2.length<=1000):
 Calls Tryz.prog 231 #[.agg #[.int .i64 T,.int .i64 N,.slice ra R.length rc,.int .i64 op,.int .i64 a,.int .i64 b,.int .i64 c]] w λe w'=> ∃lv RL,e= .returned lv/\aA w' w.heap.size (jy lv RL)/\(RL.map λx=>x.2)=R/\Below w.heap.size w w':=by
 have HR:Hid (aG w w.heap.size (.slice ra R.length rc) R):=hr;have H2:Hid (∀q,q<R.length->(R.getD q (0,[])).2.length<=1000):=hl2;clear hr hl2;have hB1:Below w.heap.size w (w.alloc (.cells #[.int .i64 T,.int .i64 N,.slice ra R.length rc,.int .i64 op,.int .i64 a,.int .i64 b,.int .i64 c] 193)):=(ai _ _).alloc (ah _) _;have HB1:Hid (Below w.heap.size w (w.alloc (.cells #[.int .i64 T,.int .i64 N,.slice ra R.length rc,.int .i64 op,.int .i64 a,.int .i64 b,.int .i64 c] 193))):=hB1;clear hB1
 go_enter Tryz.func231,Tryz.ntmps231
 go_wp2_with fail
 go_loopw [3,10] (λs3 s10 wr=> ∃(k:Nat) (lv:Value) (RL:List (Value×Ru)),lv=s3/\s10= .int .i64 k/\k<=R.length/\RL.length=k/\(RL.map λx=>x.2)=R.take k/\aA wr w.heap.size (jy lv RL)/\Below w.heap.size w wr) (λ_ s _=>R.length-(intOf s).toNat)
 case atStart=>exact⟨0,_,[],rfl,rfl,aP _,rfl,rfl,Y3 _ _,HB1.out⟩
 case round=>
  obtain⟨k,lv,RL,rfl,rfl,hk,hlen,hmap,hO,hB⟩:=hrel;have HB:Hid (Below w.heap.size w wr):=hB;have HO:Hid (aA wr w.heap.size (jy lv RL)):=hO;have HM:Hid ((RL.map λx=>x.2)=R.take k/\RL.length=k):=⟨hmap,hlen⟩;by_cases hlt:k<R.length
  ·obtain⟨b0,o0,uM,qa,qc,hv,_,k1,k2,hsy⟩:=(HR.out.below hB).mR hlt
   cases hv;have nE:=H2.out k hlt;obtain⟨⟨L,l⟩,hx⟩:=af (R.getD k (0,[]));rw[hx]at k1 k2 hsy nE;simp only at k1 k2 hsy nE;obtain⟨n,hn⟩:=af l.length;rw[hn]at k2 hsy nE
   have HX:Hid (R.take (k+1)=R.take k++[(L,l)]/\l.length=n):=by
    refine⟨?_,hn⟩;rw[fT hlt]
    congr 2
    rw[<-hx];simp[List.getD,hlt]
   obtain⟨W1,hW1⟩:=af (wr.alloc (.cells #[.int .i64 L,.slice qa n qc] 96));have hB2:Below wr.heap.size wr W1:=by rw[<-hW1];exact(ai _ _).alloc (ah _) _
   have HB2:Hid (Below wr.heap.size wr W1):=hB2;have d0:W1.cell? ⟨wr.heap.size,0,none⟩=some (.int .i64 L):=by rw[<-hW1];simp[go_sem]
   have d1:W1.cell? ⟨wr.heap.size,1,none⟩=some (.slice qa n qc):=by rw[<-hW1];simp[go_sem]
   have cop:=YZ (w:=W1) (L:=L) (lv:= .slice qa n qc) (l:=l) (hsy.same (ko hB2)) (by omega);rw[hn]at cop;have i0:(0:Int)<=(k:Int):=aF _;have i1:(k:Int)<(R.length:Int):=by omega
   clear hB hO hmap hx hn hsy hB2 hlen
   go_wp2_with
    (first
     |(go_at_call 234;refine cop.mono ?_;rintro e w3 ⟨ga,d,rfl,hown,hB3⟩
       have hrow:gT (w3.alloc (.cells #[.int .i64 L,.slice ga n d] 96)) (.slice (some ⟨w3.heap.size,0,none⟩) 1 1) 1 [.int .i64 L,.slice ga n d]:=Fe;have hB4:Below wr.heap.size wr (w3.alloc (.cells #[.int .i64 L,.slice ga n d] 96)):=(HB2.out.trans (hB3.mono HB2.out.size)).alloc (aZ HB2.out.size hB3.size) _;have eU:=own_below HO.out.ul hB4 λg hg=>(HO.out.ul.lt g hg).2;have hb4:w.heap.size<=(w3.alloc (.cells #[.int .i64 L,.slice ga n d] 96)).heap.size:=aZ HB.out.size hB4.size;have Q6:RL.length+1<=100000:=by rw[HM.out.2];omega
       clear cop)
     |(at_builtin
       refine Jd rfl _ _ rfl rfl rfl rfl eU hrow hb4 Q6 ?_
       intro a' d' w6 hown6 hgrow hat))
   go_roundw
   case rel=>
    refine⟨k+1,_,RL++[(.slice ga n d,(L,l))],rfl,by go_num,by omega,by rw[aS,HM.out.2];rfl,by rw[fD,HM.out.1,HX.out.1];rfl,?_,?_⟩
    ·refine HO.out.Y4 (w5:=w3.alloc (.cells #[.int .i64 L,.slice ga n d] 96)) HB.out.size hB4 ?_ hgrow ?_ (λg hg=>(hat g hg).imp id λe=>by omega)
     ·rw[HX.out.2]
      exact lq (hown.alloc _) HB2.out.size
     ·rw[Fb]
      exact hown6
    ·exact(HB.out.trans (hB4.mono HB.out.size)).grown hgrow hb4 λg hg=>(eU.lt g hg).1
   case measure=>simp[intOf];omega
  ·have hkk:k=R.length:=by omega
   clear hB hO hmap hlen
   go_wp2_with fail
   go_ret;exact⟨_,RL,rfl,HO.out,by rw[HM.out.1,hkk,gH],HB.out⟩
section
variable{w:World}{b:Nat}{u0 u1 u2 v0 v1 v2:Value}
theorem yu(h0:w.cell? ⟨b,0,none⟩=some u0):(((w.setCell ⟨b,0,none⟩ v0).setCell ⟨b,1,none⟩ v1).setCell ⟨b,2,none⟩ v2).cell? ⟨b,0,none⟩=some v0:=by
 rw[jW (.inr (by simp)),jW (.inr (by simp))];exact Ae _ _ _ h0
theorem yw(h1:w.cell? ⟨b,1,none⟩=some u1):(((w.setCell ⟨b,0,none⟩ v0).setCell ⟨b,1,none⟩ v1).setCell ⟨b,2,none⟩ v2).cell? ⟨b,1,none⟩=some v1:=by
 rw[jW (.inr (by simp))];exact Ae _ _ _ ((jW (.inr (by simp))).trans h1)
theorem yx(h2:w.cell? ⟨b,2,none⟩=some u2):(((w.setCell ⟨b,0,none⟩ v0).setCell ⟨b,1,none⟩ v1).setCell ⟨b,2,none⟩ v2).cell? ⟨b,2,none⟩=some v2:=
 Ae _ _ _ ((jW (.inr (by simp))).trans ((jW (.inr (by simp))).trans h2))
theorem bA.uZ{B:Nat}{lv:Value}{RL:List (Value×Ru)}(h:bA w B lv RL){a:Addr}(ha:a.block<B)(u:Value):bA (w.setCell a u) B lv RL:=
 ⟨E9 h.own ha u,λx hx=>(h.sym x hx).kept (by simp) λb hA _=>⟨gm _ _ _ _ (by have:=hA.1;omega),hA⟩⟩
end
theorem agQ{w:World}{T N:Int}{ra:Option Addr}{rc:Nat}{op a b c:Int}{R:List Ru}{sv:Value}{IX:List Int}(hr:aG w w.heap.size (.slice ra R.length rc) R)(hl2:∀q,q<R.length->(R.getD q (0,[])).2.length<=1000)(hS:aY w w.heap.size sv IX)(Y6:∀k,k<IX.length->0<=IX.getD k 0/\IX.getD k 0<(R.length:Int))(hl:IX.length<=1000):
 Calls Tryz.prog 251 #[.agg #[.int .i64 T,.int .i64 N,.slice ra R.length rc,.int .i64 op,.int .i64 a,.int .i64 b,.int .i64 c,sv]] w λe w'=> ∃lv RL,e= .returned (.agg #[.int .i64 T,.int .i64 N,lv])/\bA w' w.heap.size lv RL/\(RL.map λx=>x.2)=IX.map (λi=>R.getD i.toNat (0,[]))/\Below w.heap.size w w':=by
 obtain⟨sa,sc,hsv⟩:=hS.1;subst hsv;have HR:Hid (aG w w.heap.size (.slice ra R.length rc) R):=hr;have H2:Hid (∀q,q<R.length->(R.getD q (0,[])).2.length<=1000):=hl2;have HS:Hid (aY w w.heap.size (.slice sa IX.length sc) IX):=hS;have HI:Hid (∀k,k<IX.length->0<=IX.getD k 0/\IX.getD k 0<(R.length:Int)):=Y6;clear hr hl2 hS Y6;obtain⟨W0,hW0⟩:=af ((w.alloc (.cells #[.int .i64 T,.int .i64 N,.slice ra R.length rc,.int .i64 op,.int .i64 a,.int .i64 b,.int .i64 c,.slice sa IX.length sc] 254)).alloc (.cells #[.int .i64 0,.int .i64 0,.slice none 0 0] 27))
 have HB0:Hid (Below w.heap.size w W0/\W0.heap.size=w.heap.size+2):=by
  refine⟨?_,?_⟩
  ·rw[<-hW0];exact((ai _ _).alloc (ah _) _).alloc (by simp) _
  ·rw[<-hW0];simp
 have HC:Hid (∀wq,Below W0.heap.size W0 wq->wq.cell? ⟨w.heap.size,0,none⟩=some (.int .i64 T)/\wq.cell? ⟨w.heap.size,1,none⟩=some (.int .i64 N)/\wq.cell? ⟨w.heap.size,2,none⟩=some (.slice ra R.length rc)/\wq.cell? ⟨w.heap.size,3,none⟩=some (.int .i64 op)/\wq.cell? ⟨w.heap.size,4,none⟩=some (.int .i64 a)/\wq.cell? ⟨w.heap.size,5,none⟩=some (.int .i64 b)/\wq.cell? ⟨w.heap.size,6,none⟩=some (.int .i64 c)/\wq.cell? ⟨w.heap.size,7,none⟩=some (.slice sa IX.length sc)/\
  wq.cell? ⟨w.heap.size+1,0,none⟩=some (.int .i64 0)/\wq.cell? ⟨w.heap.size+1,1,none⟩=some (.int .i64 0)/\wq.cell? ⟨w.heap.size+1,2,none⟩=some (.slice none 0 0)/\(∀o,wq.frozen? ⟨w.heap.size+1,o,none⟩=false)/\aG wq w.heap.size (.slice ra R.length rc) R/\aY wq w.heap.size (.slice sa IX.length sc) IX/\Below w.heap.size w wq):=λwq hq=>by
  have hz:=HB0.out.2;have hB:Below w.heap.size w wq:=HB0.out.1.trans (hq.mono (by omega));have cell:∀b o u,b<W0.heap.size->W0.cell? ⟨b,o,none⟩=some u->wq.cell? ⟨b,o,none⟩=some u:=λb o u hb hu=>(hq.cell hb).trans hu;refine⟨cell _ _ _ (by omega) ?_,cell _ _ _ (by omega) ?_,cell _ _ _ (by omega) ?_,cell _ _ _ (by omega) ?_,cell _ _ _ (by omega) ?_,cell _ _ _ (by omega) ?_,cell _ _ _ (by omega) ?_,cell _ _ _ (by omega) ?_,cell _ _ _ (by omega) ?_,cell _ _ _ (by omega) ?_,cell _ _ _ (by omega) ?_,λo=>(hq.frozen (by simp only;omega)).trans ?_,HR.out.below hB,HS.out.below hB,hB⟩<;>(rw[<-hW0];simp[go_sem])
 have x7:=(HC.out W0 (ai _ _)).2.2.2.2.2.2.2.1
 go_enter Tryz.func251,Tryz.ntmps251
 go_wp2_with fail
 clear hW0 x7
 go_loopw [3,9] (λs3 s9 wr=> ∃(k:Nat) (lv:Value) (RL:List (Value×Ru)),lv=s3/\s9= .int .i64 k/\k<=IX.length/\RL.length=k/\(RL.map λx=>x.2)=(IX.take k).map (λi=>R.getD i.toNat (0,[]))/\aA wr W0.heap.size (jy lv RL)/\Below W0.heap.size W0 wr) (λ_ s _=>IX.length-(intOf s).toNat)
 case atStart=>exact⟨0,_,[],rfl,rfl,aP _,rfl,rfl,Y3 _ _,ai _ _⟩
 case round=>
  obtain⟨k,lv,RL,rfl,rfl,hk,hlen,hmap,hO,hB⟩:=hrel;have HB:Hid (Below W0.heap.size W0 wr):=hB;have HO:Hid (aA wr W0.heap.size (jy lv RL)):=hO;have HM:Hid ((RL.map λx=>x.2)=(IX.take k).map (λi=>R.getD i.toNat (0,[]))/\RL.length=k):=⟨hmap,hlen⟩;have hC:=HC.out wr hB;by_cases hlt:k<IX.length
  ·obtain⟨sb,so,_,hv,_,s1⟩:=hC.2.2.2.2.2.2.2.2.2.2.2.2.2.1.2 k hlt
   cases hv;obtain⟨hi0,hi1⟩:=HI.out k hlt;obtain⟨i,hi⟩:=af (IX.getD k 0);rw[hi]at hi0 hi1 s1;obtain⟨q,rfl⟩:∃q:Nat,i=q:=⟨i.toNat,by omega⟩;have hq:q<R.length:=by omega
   obtain⟨b0,o0,uM,qa,qc,hv,_,k1,k2,hsy⟩:=hC.2.2.2.2.2.2.2.2.2.2.2.2.1.mR hq;cases hv;have nE:=H2.out q hq;obtain⟨⟨L,l⟩,hx⟩:=af (R.getD q (0,[]));rw[hx]at k1 k2 hsy nE;simp only at k1 k2 hsy nE;obtain⟨n,hn⟩:=af l.length;rw[hn]at k2 hsy nE
   have HX:Hid ((IX.take (k+1)).map (λi=>R.getD i.toNat (0,[]))=(IX.take k).map (λi=>R.getD i.toNat (0,[]))++[(L,l)]/\l.length=n):=by
    refine⟨?_,hn⟩;rw[fT hlt,fD];have e:IX[k]=(q:Int):=by rw[<-hi];simp[List.getD,hlt]
    rw[e,jB,oq,Int.toNat_natCast,hx]
   have x2:=hC.2.2.1;have cop:=YZ (w:=wr) (L:=L) (lv:= .slice qa n qc) (l:=l) hsy (by omega);rw[hn]at cop;have i0:(0:Int)<=(k:Int):=aF _;have i1:(k:Int)<(IX.length:Int):=by omega
   clear hB hO hmap hx hn hsy hlen hC hi
   go_wp2_with
    (first
     |(go_at_call 234;refine cop.mono ?_;rintro e w3 ⟨ga,d,rfl,hown,hB3⟩
       have hrow:gT (w3.alloc (.cells #[.int .i64 L,.slice ga n d] 96)) (.slice (some ⟨w3.heap.size,0,none⟩) 1 1) 1 [.int .i64 L,.slice ga n d]:=Fe;have hB4:Below wr.heap.size wr (w3.alloc (.cells #[.int .i64 L,.slice ga n d] 96)):=hB3.alloc hB3.size _;have eU:=own_below HO.out.ul hB4 λg hg=>(HO.out.ul.lt g hg).2;have hb4:W0.heap.size<=(w3.alloc (.cells #[.int .i64 L,.slice ga n d] 96)).heap.size:=aZ HB.out.size hB4.size;have Q6:RL.length+1<=100000:=by rw[HM.out.2];omega
       clear cop)
     |(at_builtin
       refine Jd rfl _ _ rfl rfl rfl rfl eU hrow hb4 Q6 ?_
       intro a' d' w6 hown6 hgrow hat))
   go_roundw
   case rel=>
    refine⟨k+1,_,RL++[(.slice ga n d,(L,l))],rfl,by go_num,by omega,by rw[aS,HM.out.2];rfl,by rw[fD,HM.out.1,HX.out.1];rfl,?_,?_⟩
    ·refine HO.out.Y4 (w5:=w3.alloc (.cells #[.int .i64 L,.slice ga n d] 96)) HB.out.size hB4 ?_ hgrow ?_ (λg hg=>(hat g hg).imp id λe=>by omega)
     ·rw[HX.out.2]
      exact hown.alloc _
     ·rw[Fb]
      exact hown6
    ·exact(HB.out.trans (hB4.mono HB.out.size)).grown hgrow hb4 λg hg=>(eU.lt g hg).1
   case measure=>simp[intOf];omega
  ·have hkk:k=IX.length:=by omega
   obtain⟨la,lc,hlv⟩:=cO hO.ul;subst hlv;obtain⟨x0,x1,x2,x3,x4,x5,x6,x7,_,_,_,_⟩:=hC;have wi:=Je (w:=wr) (T:=T) (N:=N) (ra:=ra) (rn:=R.length) (rc:=rc) (op:=op) (a:=a) (b:=b) (c:=c) (M:=N) (oa:=la) (on:=RL.length) (oc:=lc);clear hB hO hmap hlen
   go_wp2_with
    (go_at_call 233;refine wi.mono ?_;rintro e w3 ⟨rfl,hB3⟩
     have HB3:Hid (Below W0.heap.size W0 w3):=HB.out.trans (hB3.mono HB.out.size);have HR3:Hid (bA w3 W0.heap.size (.slice la RL.length lc) RL):=HO.out.Jf.below hB3;have y0:=(HC.out w3 HB3.out).2.2.2.2.2.2.2.2.1;have y1:=(HC.out w3 HB3.out).2.2.2.2.2.2.2.2.2.1;have y2:=(HC.out w3 HB3.out).2.2.2.2.2.2.2.2.2.2.1;have Ff:=(HC.out w3 HB3.out).2.2.2.2.2.2.2.2.2.2.2.1 0;have Fg:=(HC.out w3 HB3.out).2.2.2.2.2.2.2.2.2.2.2.1 1;have Fh:=(HC.out w3 HB3.out).2.2.2.2.2.2.2.2.2.2.2.1 2
     clear wi hB3)
   have q0:=yu (v0:= .int .i64 T) (v1:= .int .i64 N) (v2:= .slice la RL.length lc) y0;have q1:=yw (v0:= .int .i64 T) (v1:= .int .i64 N) (v2:= .slice la RL.length lc) y1;have q2:=yx (v0:= .int .i64 T) (v1:= .int .i64 N) (v2:= .slice la RL.length lc) y2;refine aH (v:= .agg #[.int .i64 T,.int .i64 N,.slice la RL.length lc]) (by simp[results,Tryz.results251,go_sem,q0,q1,q2]) rfl ?_;have hz:=HB0.out.2;refine⟨_,RL,rfl,(((HR3.out.uZ (by simp only;omega) _).uZ (by simp only;omega) _).uZ (by simp only;omega) _).mono (by omega),by rw[HM.out.1,hkk,gH],?_⟩;exact(((HC.out w3 HB3.out).2.2.2.2.2.2.2.2.2.2.2.2.2.2.setCell (by simp only;omega) _).setCell (by simp only;omega) _).setCell (by simp only;omega) _
theorem aM{w:World}{b i:Nat}{cs:Array Value}{ty:TypeId}{f:Nat×Nat}{u:Value}(h:w.heap[b]?=some (.cells cs ty f))(hu:cs[i]?=some u):w.cell? ⟨b,i,none⟩=some u:=by
 unfold World.cell?;simp[h,hu]
theorem Q7{w:World}{b i:Nat}{cs:Array Value}{ty:TypeId}(h:w.heap[b]?=some (.cells cs ty (0,0))):w.frozen? ⟨b,i,none⟩=false:=by
 unfold World.frozen?;simp[h]
structure dm(w:World)(cs:Array Value)(ty:TypeId)(ra:Option Addr)(rc:Nat)(R:List Ru)(wq:World):Prop where
 blk:wq.heap[w.heap.size]?=some (.cells cs ty (0,0))
 res:wq.heap[w.heap.size+1]?=some (.cells #[.int .i64 0,.int .i64 0,.slice none 0 0] 27 (0,0))
 rules:aG wq w.heap.size (.slice ra R.length rc) R
 below:Below w.heap.size w wq
section
variable{w wq w':World}{cs:Array Value}{ty:TypeId}{ra:Option Addr}{rc:Nat}{R:List Ru}
theorem dm.size(h:dm w cs ty ra rc R wq):w.heap.size+2<=wq.heap.size:=by
 have:=(dx.1 h.res).1;omega
theorem dm.later(h:dm w cs ty ra rc R wq)(hb:Below (w.heap.size+2) wq w'):dm w cs ty ra rc R w':=
 ⟨(hb.block _ (by omega)).trans h.blk,(hb.block _ (by omega)).trans h.res,h.rules.below (hb.mono (by omega)),h.below.trans (hb.mono (by omega))⟩
theorem dm.next(h:dm w cs ty ra rc R wq)(hb:Below wq.heap.size wq w'):dm w cs ty ra rc R w':=h.later (hb.mono h.size)
theorem dm.cell(h:dm w cs ty ra rc R wq){i:Nat}{u:Value}(hu:cs[i]?=some u):wq.cell? ⟨w.heap.size,i,none⟩=some u:=aM h.blk hu
theorem ME(hr:aG w w.heap.size (.slice ra R.length rc) R):dm w cs ty ra rc R ((w.alloc (.cells cs ty)).alloc (.cells #[.int .i64 0,.int .i64 0,.slice none 0 0] 27)):=by
 have hB:Below w.heap.size w ((w.alloc (.cells cs ty)).alloc (.cells #[.int .i64 0,.int .i64 0,.slice none 0 0] 27)):=((ai _ _).alloc (ah _) _).alloc (by simp) _;refine⟨?_,?_,hr.below hB,hB⟩
 ·rw[((ai (w.alloc (.cells cs ty)).heap.size _).alloc (ah _) _).block w.heap.size (by simp)]
  exact heap_alloc_new _ _
 ·have:=heap_alloc_new (w.alloc (.cells cs ty)) (.cells #[.int .i64 0,.int .i64 0,.slice none 0 0] 27)
  simpa using this
theorem dm.y0(h:dm w cs ty ra rc R wq):wq.cell? ⟨w.heap.size+1,0,none⟩=some (.int .i64 0):=aM h.res rfl
theorem dm.y1(h:dm w cs ty ra rc R wq):wq.cell? ⟨w.heap.size+1,1,none⟩=some (.int .i64 0):=aM h.res rfl
theorem dm.y2(h:dm w cs ty ra rc R wq):wq.cell? ⟨w.heap.size+1,2,none⟩=some (.slice none 0 0):=aM h.res rfl
theorem dm.yf(h:dm w cs ty ra rc R wq)(o:Nat):wq.frozen? ⟨w.heap.size+1,o,none⟩=false:=Q7 h.res
theorem dm.out(h:dm w cs ty ra rc R wq){lv:Value}{RL:List (Value×Ru)}(hr:bA wq (w.heap.size+2) lv RL)(v0 v1 v2:Value):bA (((wq.setCell ⟨w.heap.size+1,0,none⟩ v0).setCell ⟨w.heap.size+1,1,none⟩ v1).setCell ⟨w.heap.size+1,2,none⟩ v2) w.heap.size lv RL/\Below w.heap.size w (((wq.setCell ⟨w.heap.size+1,0,none⟩ v0).setCell ⟨w.heap.size+1,1,none⟩ v1).setCell ⟨w.heap.size+1,2,none⟩ v2):=
 ⟨(((hr.uZ (by simp) _).uZ (by simp) _).uZ (by simp) _).mono (by omega),((h.below.setCell (by simp) _).setCell (by simp) _).setCell (by simp) _⟩
end
theorem Jg{ad:Addr}{f sl lc:Nat}{fi:Int}(hf:fi=f)(hu:f<=lc)(w:World):Sem.run Tryz.prog (Instr.sliceAt 94 (.slice (some ad) sl lc) none (some (.int .i64 fi)) none) w= .ok (.slice (some ad) f lc) w:=by
 subst hf;have h0:(0:Int)<=(f:Int):=aF _;have h1:(f:Int)<=(lc:Int):=by omega
 go_simp
theorem agR{ad:Addr}{f n g sl lc:Nat}{fi gi:Int}(hf:fi=f)(hg:gi=g)(hn:g=f+n)(hu:g<=lc):∃A,(∀w:World,Sem.run Tryz.prog (Instr.sliceAt 94 (.slice (some ad) sl lc) (some (.int .i64 fi)) (some (.int .i64 gi)) none) w= .ok (.slice A n (lc-f)) w)/\(lc≠f->A=some (ad.add (f*2))):=by
 subst hf hg;have h0:(0:Int)<=(f:Int):=aF _;have h1:(f:Int)<=(g:Int):=by omega
 have h2:g-f=n:=by omega
 have h3:(0:Int)<=(g:Int):=aF _;have h4:(g:Int)<=(lc:Int):=by omega
 have h5:f<=g:=by omega
 clear hn;refine⟨if lc=f then some ad else some (ad.add (f*2)),λw=> ?_,λh=>by rw[aj h]⟩
 go_simp
section
variable{w:World}{qa A:Option Addr}{d f n:Nat}{l:List Sy}
theorem dh.Fj(h:dh w (.slice qa l.length d) l)(hl:f<=l.length):dh w (.slice qa f d) (l.take f):=by
 obtain⟨_,_,hv,hd⟩:=h.1;cases hv;have hlen:(l.take f).length=f:=by rw[fq];omega
 refine⟨⟨_,d,by rw[hlen],by omega⟩,λj hj=> ?_⟩;rw[hlen]at hj;obtain⟨b,o,c,hv,h1,h2⟩:=h.2 j (by omega);cases hv;have e:(l.take f).getD j (false,0)=l.getD j (false,0):=by simp[List.getD,hj]
 exact⟨b,o,d,by rw[hlen],by rw[e];exact h1,by rw[e];exact h2⟩
theorem dh.MF(h:dh w (.slice qa l.length d) l)(hl:l.length=f+n)(hA:d≠f->A=qa.map (·.add (f*2))):dh w (.slice A n (d-f)) (l.drop f):=by
 obtain⟨_,_,hv,hd⟩:=h.1;cases hv;have hlen:(l.drop f).length=n:=by rw[pE];omega
 refine⟨⟨A,d-f,by rw[hlen],by omega⟩,λj hj=> ?_⟩;rw[hlen]at hj;obtain⟨b,o,c,hv,h1,h2⟩:=h.2 (f+j) (by omega);cases hv;have hA':=hA (by omega);simp only[Option.map_some,Addr.add_lit]at hA';subst hA';have e:(l.drop f).getD j (false,0)=l.getD (f+j) (false,0):=by simp[List.getD,List.getElem?_drop]
 refine⟨b,o+f*2,d-f,by rw[hlen],?_,?_⟩
 ·rw[e,<-h1];congr 2;omega
 ·rw[e,<-h2];congr 2;omega
theorem dh.MG(h:dh w (.slice qa l.length d) l)(hl:0<l.length):∃ad,qa=some ad:=by
 obtain⟨b,o,c,hv,_⟩:=h.2 0 hl;cases hv;exact⟨_,rfl⟩
end
theorem Y7{RL:List (Value×Ru)}{k:Nat}(hk:k<RL.length)(v:Value)(l:List Sy):(dY RL).set (k*2+1) v=dY (RL.set k (v,(RL[k].2.1,l))):=by
 unfold dY
 induction RL generalizing k with
 |nil=>simp at hk
 |cons a RL ih=>
  cases k with
  |zero=>simp[lT]
  |succ k=>
   have:=ih (k:=k) (by simpa using hk);rw[gV,List.set_cons_succ,gV,yI _ _ (by simp[lT];omega)];simp only[lT,List.length_cons,List.length_nil,List.getElem_cons_succ]at this⊢;rw[show (k+1)*2+1-(0+1+1)=k*2+1 by omega,this]
theorem agS{RL:List (Value×Ru)}{k:Nat}(hk:k<RL.length)(L:Int):(dY RL).set (k*2) (.int .i64 L)=dY (RL.set k (RL[k].1,(L,RL[k].2.2))):=by
 unfold dY
 induction RL generalizing k with
 |nil=>simp at hk
 |cons a RL ih=>
  cases k with
  |zero=>simp[lT]
  |succ k=>
   have:=ih (k:=k) (by simpa using hk);rw[gV,List.set_cons_succ,gV,yI _ _ (by simp[lT];omega)];simp only[lT,List.length_cons,List.length_nil,List.getElem_cons_succ]at this⊢;rw[show (k+1)*2-(0+1+1)=k*2 by omega,this]
section
variable{w w5 w6:World}{B g cap k:Nat}{lv nv v:Value}{RL:List (Value×Ru)}{L:Int}{l:List Sy}
theorem Q8{α:Type}{l:List α}{k:Nat}{x y:α}(h:y∈l.set k x):y=x\/y∈l:=(List.mem_or_eq_of_mem_set h).symm
theorem bA.agT(h:bA w B (.slice (some ⟨g,0,none⟩) RL.length cap) RL)(hb:Below w.heap.size w w5)(hk:k<RL.length)(ho:w5.ownsRow w.heap.size 121 2 v l.length (bD l)):bA (w5.setCell ⟨g,k*2+1,none⟩ v) B (.slice (some ⟨g,0,none⟩) RL.length cap) (RL.set k (v,(RL[k].2.1,l))):=by
 have hg:=h.own.lt g rfl;have hs5:=hb.size;have bV:=own_below h.own hb λg hg=>(h.own.lt g hg).2;refine⟨?_,λx hx=> ?_⟩
 ·have:=(bV.stored (k*2+1) v).1
  rw[Y7 hk v l]at this;rw[qU];exact this
 ·rcases Q8 hx with rfl|hx
  ·refine(E8 ho).kept (by simp) λb hA _=>⟨gm _ _ _ _ ?_,by have:=hA.2;omega,λe=> ?_⟩
   ·have:=hA.2;simp only;omega
   ·simp only[Value.ownBlock,bM]at e;have:=hA.2;omega
  ·refine(h.sym x hx).kept (by simpa using hs5) λb hA hlt=>⟨?_,hA⟩
   rw[gm _ _ _ _ (λe=>hA.2 (by simp only[Value.ownBlock];exact congrArg some e.symm)),hb.block b hlt]
theorem bA.O8(h:bA w B (.slice (some ⟨g,0,none⟩) RL.length cap) RL)(hk:k<RL.length)(L:Int):bA (w.setCell ⟨g,k*2,none⟩ (.int .i64 L)) B (.slice (some ⟨g,0,none⟩) RL.length cap) (RL.set k (RL[k].1,(L,RL[k].2.2))):=by
 have hold:∀x∈RL,rZ (w.setCell ⟨g,k*2,none⟩ (.int .i64 L)) (λb=>B<=b/\(Value.slice (some ⟨g,0,none⟩) RL.length cap).ownBlock≠some b) x.1 x.2.2:=λx hx=>by
  refine(h.sym x hx).kept (by simp) λb hA hlt=>⟨?_,hA⟩;rw[gm _ _ _ _ (λe=>hA.2 (by simp only[Value.ownBlock];exact congrArg some e.symm))]
 refine⟨?_,λx hx=> ?_⟩
 ·have:=(h.own.stored (k*2) (.int .i64 L)).1
  rw[agS hk L]at this;rw[qU];exact this
 ·rcases Q8 hx with rfl|hx
  ·exact hold RL[k] (jO hk)
  ·exact hold x hx
theorem bA.MH(h:bA w B lv RL)(hB:B<=w.heap.size)(hb:Below w.heap.size w w5)(ho:w5.ownsRow w.heap.size 121 2 v l.length (bD l))(hg:w5.grownBy w6 lv.ownBlock)(hn:w6.ownsRow B 96 2 nv (RL.length+1) (dY (RL++[(v,(L,l))])))(hat:∀g,nv.ownBlock=some g->lv.ownBlock=some g\/w5.heap.size<=g):bA w6 B nv (RL++[(v,(L,l))]):=by
 have hs5:=hb.size;have hs6:=hg.size;have hlv:∀g,lv.ownBlock=some g->g<w.heap.size:=λg hg=>(h.own.lt g hg).2;refine⟨by rw[aS];exact hn,λx hx=> ?_⟩;rcases iV.1 hx with hx|hx
 ·refine(h.sym x hx).kept (by omega) λb hA hlt=>⟨?_,hA.1,λe=> ?_⟩
  ·rw[hg.block b (by omega) (λe=>hA.2 e.symm),hb.block b hlt]
  ·rcases hat b e with e|e
   ·exact hA.2 e
   ·omega
 ·simp only[gG]at hx
  subst hx;refine(E8 ho).kept (by omega) λb hA hlt=>⟨?_,by have:=hA.2;omega,λe=> ?_⟩
  ·rw[hg.block b hlt (λe=>by have:=hlv b e.symm;have:=hA.2;omega)]
  ·rcases hat b e with e|e
   ·have:=hlv b e;have:=hA.2;omega
   ·omega
end
end Go.Proofs.YthbifaoaiggooaaGreatDoor
