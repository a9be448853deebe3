package compile

import "prelude/api"

// expr looks an expression over, and writes it.
func (w *writing) expr(x *api.Expr) {
	lookOver(x, w.deep, w.names.known)
	w.value(x)
}

// value writes an expression that was looked over: where its code ends, its value lies on the stack.
func (w *writing) value(x *api.Expr) {
	// A tree whose lists share memory may have far more parts than it is worth while to go through.
	if w.full() {
		return
	}
	switch x.Kind {
	case api.ENum:
		w.add(api.IPush, x.N)
	case api.EName:
		in, _ := w.names.load(x.Name)
		w.add(in.Op, in.A)
	case api.EGet:
		w.add(api.IGet, w.names.reads[x.Name])
	case api.EHas:
		w.add(api.IHas, w.names.reads[x.Name])
	case api.EGetX:
		w.value(&x.Args[0])
		w.add(api.IGetX, 0)
	case api.EAnd:
		w.both(x)
	case api.EOr:
		w.either(x)
	case api.ECond:
		w.choice(x)
	default:
		w.reckoned(x)
	}
}

// reckoned writes an expression that an instruction makes of its parts.
func (w *writing) reckoned(x *api.Expr) {
	for i := range x.Args {
		w.value(&x.Args[i])
	}
	w.add(x.Op, 0)
}

// both writes an EAnd.
func (w *writing) both(x *api.Expr) {
	w.value(&x.Args[0])
	first := w.ahead(api.IZero)
	w.value(&x.Args[1])
	second := w.ahead(api.IZero)
	w.add(api.IPush, 1)
	end := w.ahead(api.IJump)
	first()
	second()
	w.add(api.IPush, 0)
	end()
}

// either writes an EOr.
func (w *writing) either(x *api.Expr) {
	w.value(&x.Args[0])
	second := w.ahead(api.IZero)
	w.add(api.IPush, 1)
	done := w.ahead(api.IJump)
	second()
	w.value(&x.Args[1])
	neither := w.ahead(api.IZero)
	w.add(api.IPush, 1)
	end := w.ahead(api.IJump)
	neither()
	w.add(api.IPush, 0)
	done()
	end()
}

// choice writes an ECond.
func (w *writing) choice(x *api.Expr) {
	w.value(&x.Args[0])
	otherwise := w.ahead(api.IZero)
	w.value(&x.Args[1])
	end := w.ahead(api.IJump)
	otherwise()
	w.value(&x.Args[2])
	end()
}
