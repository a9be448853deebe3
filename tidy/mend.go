package tidy

import "prelude/api"

// mended is the code without the view's rough spots, and whether there was one. Of spots that share an instruction the first one is taken out.
func (v *view) mended() ([]api.Instr, bool) {
	var code []api.Instr
	found := false
	moved := make([]int, len(v.Code)+1) // where a place has come to. Nobody goes to one that is within a spot.
	for at := 0; at < len(v.Code); {
		s, rough := v.roughAt(at)
		if rough {
			found = true
		} else {
			s = spot{1, v.Code[at : at+1]}
		}
		moved[at] = len(code)
		code = append(code, s.now...)
		at += s.size
	}
	moved[len(v.Code)] = len(code)
	for i, in := range code {
		if jumps(in) {
			code[i].A = int64(moved[in.A])
		}
	}
	return code, found
}
