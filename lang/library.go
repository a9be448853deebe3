package lang

import (
	"prelude/api"
	"prelude/codec"
)

// head is what a library's bytes begin with.
const head = "PRL1"

// Check looks a library over: the procedure with which something is wrong, and what.
func Check(lib []api.Proc) (int, api.Errno) {
	if len(lib) > api.MaxProcs {
		return 0, api.ErrProcs
	}
	for i, p := range lib {
		if !isName(p.Name) || hasProc(lib[:i], p.Name) {
			return i, api.ErrName
		}
		if e := Verify(p.Program); e != api.OK {
			return i, e
		}
	}
	return 0, api.OK
}

// Encode is a library as bytes.
func Encode(lib []api.Proc) ([]byte, api.Errno) {
	if _, e := Check(lib); e != api.OK {
		return nil, e
	}
	w := codec.New()
	w.Raw([]byte(head))
	w.Uint(uint64(len(lib)))
	for _, p := range lib {
		w.Bytes([]byte(p.Name))
		// What is sound can be written: Put has nothing to refuse here.
		Put(w, p.Program)
	}
	return w.Out(), api.OK
}

// Decode is the library of some bytes, or the place at which they are wrong.
func Decode(b []byte) ([]api.Proc, int, api.Errno) {
	r := codec.Read(b)
	if string(r.Raw(len(head))) != head {
		r.Fail(api.ErrForm)
	}
	var lib []api.Proc
	for range r.Upto(api.MaxProcs) {
		name := string(r.Bytes(api.MaxName))
		lib = append(lib, api.Proc{Name: name, Program: Get(r)})
	}
	if e := r.End(); e != api.OK {
		return nil, 0, e
	}
	if at, e := Check(lib); e != api.OK {
		return nil, at, e
	}
	return lib, 0, api.OK
}

// Digest is the check sum of a library's bytes.
func Digest(lib []api.Proc) (uint32, api.Errno) {
	b, e := Encode(lib)
	if e != api.OK {
		return 0, e
	}
	return codec.Sum(b), api.OK
}

// hasProc tells whether one of the procedures has the name.
func hasProc(procs []api.Proc, name string) bool {
	for _, p := range procs {
		if p.Name == name {
			return true
		}
	}
	return false
}

// isName tells whether a text is a name.
func isName(s string) bool {
	for i := range len(s) {
		if !isLetter(s[i]) && (i == 0 || !isDigit(s[i]) && s[i] != '_') {
			return false
		}
	}
	return 0 < len(s) && len(s) <= api.MaxName
}

// isLetter tells whether a byte is a letter of a name.
func isLetter(c byte) bool { return 'a' <= c && c <= 'z' || 'A' <= c && c <= 'Z' }

// isDigit tells whether a byte is a digit.
func isDigit(c byte) bool { return '0' <= c && c <= '9' }
