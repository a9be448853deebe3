package asm_test

import (
	"math"
	"math/rand"
	"strconv"
	"strings"
	"sync"
	"testing"
	"unsafe"

	"prelude/api"
	"prelude/asm"
	"prelude/lang"
)

// anyBlock is instructions that begin and end with an empty stack, so that jumps may go to their front; it may end with a jump whose place is still to be filled in.
func anyBlock(r *rand.Rand, p api.Program) []api.Instr {
	numbers := []int64{0, 1, -1, 1000000, math.MinInt64, math.MaxInt64, int64(r.Uint64())}
	push := api.Instr{Op: api.IPush, A: numbers[r.Intn(len(numbers))]}
	binary := api.Instr{Op: []int{api.IAdd, api.IShr, api.IEq, api.IMax, api.IMod, api.IXor}[r.Intn(6)]}
	with := func(op, below int) api.Instr { return api.Instr{Op: op, A: int64(r.Intn(below))} }
	plain := func(op int) api.Instr { return api.Instr{Op: op} }
	switch r.Intn(13) {
	case 0:
		return []api.Instr{push, plain(api.IPop)}
	case 1:
		return []api.Instr{push, with(api.IPut, p.Writes)}
	case 2:
		return []api.Instr{with(api.IArg, p.Args), with(api.ISave, p.Locals)}
	case 3:
		return []api.Instr{with(api.ILoad, p.Locals), plain(api.IOut)}
	case 4:
		return []api.Instr{with(api.IGet, p.Reads), with(api.IHas, p.Reads), binary, plain(api.IPop)}
	case 5:
		return []api.Instr{push, plain(api.IDup), binary, plain(api.INeg), plain(api.INot), plain(api.IAbort)}
	case 6:
		return []api.Instr{with(api.IDel, p.Writes)}
	case 7:
		return []api.Instr{plain(api.IStop)}
	case 8:
		return []api.Instr{push, plain(api.IGetX), push, plain(api.IPutX)}
	case 9, 10:
		return []api.Instr{push, plain(api.IZero)}
	}
	return []api.Instr{plain(api.IJump)}
}

// anyProgram is a sound program of so many blocks.
func anyProgram(r *rand.Rand, blocks int) api.Program {
	p := api.Program{Args: 1 + r.Intn(16), Reads: 1 + r.Intn(16), Writes: 1 + r.Intn(16), Locals: 1 + r.Intn(16)}
	fronts := []int64{0}
	for range blocks {
		p.Code = append(p.Code, anyBlock(r, p)...)
		fronts = append(fronts, int64(len(p.Code)))
	}
	behind := fronts
	for at, in := range p.Code {
		for behind[0] <= int64(at) {
			behind = behind[1:]
		}
		if in.Op == api.IJump || in.Op == api.IZero {
			p.Code[at].A = behind[r.Intn(len(behind))]
		}
	}
	return p
}

// anyLibrary is a sound library.
func anyLibrary(r *rand.Rand, procs, blocks int) []api.Proc {
	lib := many(procs)
	for i := range lib {
		lib[i].Program = anyProgram(r, r.Intn(blocks+1))
	}
	return lib
}

// blanks is blanks, at least so many.
func blanks(r *rand.Rand, least int) string {
	s := ""
	for len(s) < least || r.Intn(4) == 0 {
		s += string(" \t\r"[r.Intn(3)])
	}
	return s
}

// decorated is a text of a library as people may write it: with blanks, comments, empty lines, and labels of other names, more than one has to write.
func decorated(r *rand.Rand, lib []api.Proc) string {
	text := ""
	line := func(words ...string) {
		for r.Intn(12) == 0 {
			text += blanks(r, 0) + []string{"", "#", "# x", "# end #"}[r.Intn(4)] + "\n"
		}
		text += blanks(r, 0) + strings.Join(words, blanks(r, 1)) + blanks(r, 0)
		if r.Intn(8) == 0 {
			text += "# \u00e9 proc"
		}
		text += "\n"
	}
	for _, proc := range lib {
		p := proc.Program
		line("proc", proc.Name, "args", strconv.Itoa(p.Args), "reads", strconv.Itoa(p.Reads), "writes", strconv.Itoa(p.Writes), "locals", strconv.Itoa(p.Locals))
		// Each place has as many names as one likes: its number written with so many letters in front.
		name := func(at int64, n int) string { return strings.Repeat("k", n) + strconv.Itoa(int(at)) }
		for at := range len(p.Code) + 1 {
			isLanding := false
			for _, in := range p.Code[:at] {
				isLanding = isLanding || (in.Op == api.IJump || in.Op == api.IZero) && in.A == int64(at)
			}
			for n := 1; n <= 3; n++ {
				if isLanding || r.Intn(10) == 0 {
					line(name(int64(at), n) + ":")
				}
			}
			if at == len(p.Code) {
				break
			}
			in := p.Code[at]
			switch {
			case in.Op == api.IJump || in.Op == api.IZero:
				line(lang.Spell(in.Op), name(in.A, 1+r.Intn(3)))
			case lang.Wants(in.Op):
				line(lang.Spell(in.Op), strconv.FormatInt(in.A, 10))
			default:
				line(lang.Spell(in.Op))
			}
		}
		line("end")
	}
	if r.Intn(2) == 0 {
		text = strings.TrimSuffix(text, "\n")
	}
	return text
}

// 4.3: what is listed is read to the same library; and all texts of a library are listed as one.
func TestThereAndBack(t *testing.T) {
	r := rand.New(rand.NewSource(3))
	for i := range 3000 {
		lib := anyLibrary(r, r.Intn(5), i%20)
		text, e := asm.List(lib)
		if e != api.OK {
			t.Fatalf("List of %v is %d", lib, e)
		}
		reads(t, text, lib)
		for range 3 {
			other := decorated(r, lib)
			got, err := asm.Assemble(other)
			if err != nil || !sameLib(got, lib) {
				t.Fatalf("Assemble(%q) is %v, %v, want %v", other, got, err, lib)
			}
			if s, e := asm.List(got); s != text || e != api.OK {
				t.Errorf("List of what was read of %q is %q, %d, want %q", other, s, e, text)
			}
		}
	}
}

// 4.3: what is read of a text without blanks to spare may have a listing that is too long.
func TestListingTooLong(t *testing.T) {
	lib, text := sized(api.MaxText + 1)
	reads(t, strings.ReplaceAll(text, "  ", ""), lib)
	if s, e := asm.List(lib); s != "" || e != api.ErrLong {
		t.Errorf("its List: %d bytes, %d", len(s), e)
	}
	lib, text = sized(api.MaxText)
	reads(t, strings.ReplaceAll(text, "  ", ""), lib)
	lists(t, lib, text)
}

// 4.4: what a call answers hangs on its argument alone: not on calls ahead of it, and not on those at the same time.
func TestCallsAreAlone(t *testing.T) {
	listing := strings.ReplaceAll(bankText, "go", "L6")
	var all sync.WaitGroup
	for range 8 {
		all.Go(func() {
			for range 20 {
				refuses(t, aloneLine+"a:\njump a", 3, 6, api.ErrJump)
				reads(t, bankText, bank())
				refuses(t, aloneLine+"jump go\nend", 2, 6, api.ErrLabel)
				lists(t, bank(), listing)
				refuses(t, aloneLine+"go:", 1, 1, api.ErrEnd)
				reads(t, "# end", nil)
			}
		})
	}
	all.Wait()
}

// 4.4, R4: what is answered shares no memory with another answer, nor with what was handed in, and no two of its lists share any.
func TestMemory(t *testing.T) {
	first, _ := asm.Assemble(bankText)
	second, _ := asm.Assemble(bankText)
	for i := range first {
		list := first[i].Program.Code
		for j := range list[:cap(list)] {
			list[:cap(list)][j] = api.Instr{Op: 99, A: 99}
		}
		for k := i + 1; k < len(first); k++ {
			if !sameLib(first[k:], bank()[k:]) {
				t.Errorf("spoiling the procedure %d leaves %v behind it", i, first[k:])
			}
		}
	}
	for i := range first[:cap(first)] {
		first[:cap(first)][i] = api.Proc{Name: "spoiled"}
	}
	if !sameLib(second, bank()) {
		t.Errorf("the other answer is %v", second)
	}
	reads(t, bankText, bank())

	text := strings.Clone(bankText)
	lib, _ := asm.Assemble(text)
	from := uintptr(unsafe.Pointer(unsafe.StringData(text)))
	for _, p := range lib {
		at := uintptr(unsafe.Pointer(unsafe.StringData(p.Name)))
		if from <= at && at < from+uintptr(len(text)) {
			t.Errorf("the name %s is a piece of the text", p.Name)
		}
	}

	// Each error is its own.
	_, one := asm.Assemble("prok")
	_, two := asm.Assemble("prok")
	one.(*api.PosError).Line = 77
	if two.(*api.PosError).Line != 1 {
		t.Error("two errors are one")
	}
}
