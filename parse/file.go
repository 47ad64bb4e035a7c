package parse

import "treadmill/api"

func (r *reader) file() api.File {
	var f api.File
	r.must("package")
	f.Name = r.take(api.WordName, api.WordKey).S
	r.must(";")
	for r.has("import") {
		f.Imports = append(f.Imports, r.take(api.WordText).S)
		r.must(";")
	}
	for !r.ended() {
		f.Funcs = append(f.Funcs, r.function())
		r.must(";")
	}
	r.bound(len(f.Imports), api.MaxImports)
	r.bound(len(f.Funcs), api.MaxFuncs)
	return f
}

func (r *reader) function() api.Func {
	var f api.Func
	r.must("func")
	f.Name = r.name()
	f.Params = list(r, r.param)
	r.bound(len(f.Params), api.MaxParams)
	if !r.at("{") {
		f.Result = r.typed()
	}
	f.Body = r.block()
	return f
}

func (r *reader) param() api.Param {
	name := r.name()
	return api.Param{Name: name, T: r.typed()}
}

func (r *reader) typed() api.Type {
	if r.has("int") {
		return api.Int
	}
	r.must("bool")
	return api.Bool
}

func (r *reader) block() []api.Stmt {
	var l []api.Stmt
	r.must("{")
	for !r.wrong && !r.has("}") {
		l = append(l, r.stmt())
		if !r.at("}") {
			r.must(";")
		}
	}
	return l
}

func (r *reader) stmt() api.Stmt {
	switch {
	case r.has("if"):
		return r.choice()
	case r.has("for"):
		return r.loop()
	case r.has("return"):
		return r.back()
	case r.has("print"):
		r.must("(")
		e := r.expr()
		r.must(")")
		return api.Stmt{Op: api.StPrint, E: e}
	case r.has("break"):
		return api.Stmt{Op: api.StBreak}
	case r.has("continue"):
		return api.Stmt{Op: api.StNext}
	}
	return r.named()
}

// choice reads what is behind "if".
func (r *reader) choice() api.Stmt {
	s := api.Stmt{Op: api.StIf}
	s.E = r.expr()
	s.Body = r.block()
	if !r.has("else") {
		return s
	}
	if r.has("if") {
		s.Else = []api.Stmt{r.choice()}
	} else {
		s.Else = r.block()
	}
	return s
}

// loop reads what is behind "for".
func (r *reader) loop() api.Stmt {
	s := api.Stmt{Op: api.StFor, E: truth(1)}
	if !r.at("{") {
		s.E = r.expr()
	}
	s.Body = r.block()
	return s
}

// back reads what is behind "return".
func (r *reader) back() api.Stmt {
	s := api.Stmt{Op: api.StReturn}
	if !r.at(";") && !r.at("}") {
		s.E = r.expr()
	}
	return s
}

// named reads a statement that begins with a name.
func (r *reader) named() api.Stmt {
	name := r.name()
	switch {
	case r.has(":="):
		return api.Stmt{Op: api.StDef, S: name, E: r.expr()}
	case r.has("="):
		return api.Stmt{Op: api.StSet, S: name, E: r.expr()}
	}
	return api.Stmt{Op: api.StCall, E: r.call(name)}
}
