package asm_test

import (
	"errors"
	"slices"
	"strconv"
	"strings"
	"testing"

	"prelude/api"
	"prelude/asm"
)

// reads asks that a text is read to a library.
func reads(t *testing.T, text string, want []api.Proc) {
	t.Helper()
	if lib, err := asm.Assemble(text); err != nil || !sameLib(lib, want) {
		t.Errorf("Assemble(%q) is %v, %v, want %v", text, lib, err, want)
	}
}

// refuses asks that a text is refused at a place, by an error.
func refuses(t *testing.T, text string, line, col int, want api.Errno) {
	t.Helper()
	lib, err := asm.Assemble(text)
	at, ok := err.(*api.PosError)
	if len(lib) != 0 || !ok || at.Line != line || at.Col != col || at.Err != error(want) || !errors.Is(err, want) {
		t.Errorf("Assemble(%q) is %v, %v, want %d:%d, %d", text, lib, err, line, col, want)
	}
}

// fault is a text, the place at which it is wrong, and how.
type fault struct {
	text      string
	line, col int
	e         api.Errno
}

// secondLine is aloneLine with another name.
const secondLine = "proc q args 0 reads 0 writes 0 locals 0\n"

// 4.2: the chapter's examples of texts that are read.
func TestAssembleExamples(t *testing.T) {
	reads(t, bankText, bank())
	reads(t, "", nil)
	reads(t, "# nothing", nil)
	reads(t, "proc p args 0 reads 0 writes 0 locals 0 # x\n end", alone(nil))
	reads(t, aloneLine+"jump a\na:\nend", alone(code(api.IJump, 1)))
}

// 4.2: the chapter's examples of texts that are refused.
func TestAssembleExamplesRefused(t *testing.T) {
	for _, c := range []fault{
		{"prok", 1, 1, api.ErrWord},
		{"proc", 1, 5, api.ErrWord},
		{"proc p args x", 1, 13, api.ErrNumber},
		{"proc p args 0 reads 0 writes 0 locals 0 0", 1, 41, api.ErrWord},
		{"proc p args 0 reads 0 writes 0 locals 0", 1, 1, api.ErrEnd},
		{aloneLine + "add 1", 2, 5, api.ErrWord},
		{aloneLine + "push", 2, 5, api.ErrWord},
		{aloneLine + "push 1x", 2, 6, api.ErrNumber},
		{aloneLine + "jump 3", 2, 6, api.ErrWord},
		{aloneLine + "a:\na:", 3, 1, api.ErrTwice},
		{aloneLine + "a:\njump a", 3, 6, api.ErrJump},
		{aloneLine + "jump a\nend", 2, 6, api.ErrLabel},
		{aloneLine + "1a:", 2, 1, api.ErrWord},
		{aloneLine + "nop", 2, 1, api.ErrWord},
		{aloneLine + "end x", 2, 5, api.ErrWord},
		{aloneLine + "add\nend", 1, 6, api.ErrStack},
		{aloneLine + "end\n" + aloneLine + "end", 3, 6, api.ErrName},
		{"proc p args 17 reads 0 writes 0 locals 0\nend", 1, 6, api.ErrProgram},
	} {
		refuses(t, c.text, c.line, c.col, c.e)
	}
}

// The text: blanks, comments and line ends.
func TestAssembleText(t *testing.T) {
	const p = "proc p args 0 reads 0 writes 0 locals 0"
	push := alone(code(api.IPush, 5))
	for _, text := range []string{" ", "\n", "\r", "\t", "\r\n", " \n\t\n\r\n", "#", "# x\n", "#\n#\n", "\n\n  # proc p\n\t#", "##", "# \xff\xfe\x00"} {
		reads(t, text, nil)
	}
	for _, text := range []string{
		p + "\npush 5\nend",
		p + "\npush 5\nend\n",
		p + "\r\npush 5\r\nend\r\n",
		p + "\n  push 5\n\n\n  end\n\n",
		"\n\n" + p + "\n \t\r push\t\r \t5 \t\r\n\tend\t",
		"# a library\n" + p + "# its procedure\n# its program\npush 5#five\nend#\n#",
		p + "\npush 5 # push 6\n# push 7\n#end\nend # end",
		p + "\npush 5#6\nend#x",
		"\tproc\rp\targs  0 reads\t\t0 writes 0\r\rlocals 0\npush\r5\n\rend",
		p + "\npush 5\nend # \xff\x00 \u00e9 \u2028 #",
	} {
		reads(t, text, push)
	}
	for _, c := range []fault{
		// A carriage return ends no line, and neither do other bytes that look like it.
		{p + "\rend", 1, 41, api.ErrWord},
		{p + "\vend", 1, 39, api.ErrNumber},
		{p + "\fend", 1, 39, api.ErrNumber},
		{p + " \u2028end", 1, 41, api.ErrWord},
		{p + "\u0085end", 1, 39, api.ErrNumber},
		{p + "\u00a0", 1, 39, api.ErrNumber},
		// A comment ends with its line, and hides all behind it.
		{p + "\n# end", 1, 1, api.ErrEnd},
		{p + " #\n#\r end", 1, 1, api.ErrEnd},
		{"proc p#args", 1, 7, api.ErrWord},
		{"proc # p args 0", 1, 5, api.ErrWord},
		{p + "\npush#5", 2, 5, api.ErrWord},
		{p + "\n  push  \t # 5", 2, 7, api.ErrWord},
		{p + "\nen#d", 2, 1, api.ErrWord},
		// Columns are counted in bytes, and all blanks are one of them.
		{"\t prok", 1, 3, api.ErrWord},
		{"\r\r\t prok\n", 1, 5, api.ErrWord},
		{"proc \u00e9 args x", 1, 14, api.ErrNumber},
		{"proc \u4e16\u754c args x", 1, 18, api.ErrNumber},
		{"proc \U0001f600 arg", 1, 11, api.ErrWord},
		{"proc \xff\xfe\xe2\x82 arg", 1, 11, api.ErrWord},
		{"proc \ufffd\xff arg", 1, 11, api.ErrWord},
		{"proc p\u00e9", 1, 9, api.ErrWord},
		{"proc p\xe2\x82", 1, 9, api.ErrWord},
		{"\u00e9 # x", 1, 1, api.ErrWord},
		{"\ufeffproc", 1, 1, api.ErrWord},
		// Lines are counted with those that say nothing.
		{"\n\nprok", 3, 1, api.ErrWord},
		{"# x\n\r\n \t\n  prok", 4, 3, api.ErrWord},
		{"\n" + p + "\n\n#\n end x", 5, 6, api.ErrWord},
		{"# \u00e9\n\u00e9", 2, 1, api.ErrWord},
		{strings.Repeat("\n", 65535) + "x", 65536, 1, api.ErrWord},
		{strings.Repeat(" ", 65535) + "x", 1, 65536, api.ErrWord},
		{"proc" + strings.Repeat("x", 65532), 1, 1, api.ErrWord},
		{"proc " + strings.Repeat("x", 65531), 1, 65537, api.ErrWord},
	} {
		refuses(t, c.text, c.line, c.col, c.e)
	}
}

// The text: each byte within a word.
func TestAssembleEachByte(t *testing.T) {
	const letters = "abcdefghijklmnopqrstuvwxyzABCDEFGHIJKLMNOPQRSTUVWXYZ0123456789_"
	const rest = " args 0 reads 0 writes 0 locals 0\nend"
	for c := range 256 {
		b := string([]byte{byte(c)})
		text := "proc p" + b + "q" + rest
		switch {
		case strings.Contains(" \t\r", b):
			refuses(t, text, 1, 8, api.ErrWord)
		case b == "\n" || b == "#":
			refuses(t, text, 1, 7, api.ErrWord)
		case strings.Contains(letters, b):
			reads(t, text, []api.Proc{{Name: "p" + b + "q"}})
		default:
			refuses(t, text, 1, 6, api.ErrName)
		}
		// A label of one byte, and its jump.
		if strings.Contains(" \t\r\n#", b) {
			continue
		}
		if strings.Contains(letters[:52], b) {
			reads(t, aloneLine+"jump "+b+"\n"+b+":\nend", alone(code(api.IJump, 1)))
			reads(t, aloneLine+"jump x"+b+"\nx"+b+":\nend", alone(code(api.IJump, 1)))
		} else {
			refuses(t, aloneLine+"jump "+b+"\nend", 2, 6, api.ErrWord)
			refuses(t, aloneLine+" "+b+":\nend", 2, 2, api.ErrWord)
		}
	}
}

// 4.2, 1.: each word of a first line missing, another one, and one too many.
func TestAssembleFirstLine(t *testing.T) {
	words := strings.Fields("proc name args 1 reads 2 writes 3 locals 4")
	cols := []int{1, 6, 11, 16, 18, 24, 26, 33, 35, 42}
	for i, w := range words {
		ahead := strings.Join(words[:i], " ")
		if i > 0 {
			refuses(t, ahead, 1, len(ahead)+1, api.ErrWord)
			refuses(t, ahead+" \t # "+w, 1, len(ahead)+1, api.ErrWord)
			refuses(t, ahead+"\n"+w, 1, len(ahead)+1, api.ErrWord)
			ahead += " "
		}
		for _, other := range []string{"x", "Proc", "args", "ARGS", "args:", "7x", "007", "+7", "-0", "9223372036854775808", "0x1", "1.0", "''"} {
			e := api.ErrWord
			if i > 2 && i%2 == 1 {
				e = api.ErrNumber
			}
			if i == 1 || other == w {
				continue
			}
			// What comes behind is not looked at.
			refuses(t, ahead+other, 1, cols[i], e)
			refuses(t, ahead+other+" "+strings.Join(words[i:], " "), 1, cols[i], e)
		}
	}
	whole := strings.Join(words, " ")
	for _, more := range []string{"0", "end", "proc", "x:", "\u00e9"} {
		refuses(t, whole+"  "+more, 1, 45, api.ErrWord)
		refuses(t, whole+"  "+more+" x\nend", 1, 45, api.ErrWord)
	}
	reads(t, whole+"\nend", []api.Proc{{Name: "name", Program: api.Program{Args: 1, Reads: 2, Writes: 3, Locals: 4}}})
}

// 4.2, 1.: what can't stand outside a procedure, at the front and behind one.
func TestAssembleOutside(t *testing.T) {
	for _, w := range []string{"end", "a:", "push 1", "stop", "Proc", "proc:", "p"} {
		refuses(t, w, 1, 1, api.ErrWord)
		refuses(t, aloneLine+"end\n  "+w, 3, 3, api.ErrWord)
		refuses(t, aloneLine+"add\nend\n"+w, 4, 1, api.ErrWord)
	}
	refuses(t, aloneLine+aloneLine+"end", 2, 1, api.ErrWord)
}

// 4.2, 2.: what a line in a procedure can be, and what is wrong first in it.
func TestAssembleInside(t *testing.T) {
	for _, c := range []fault{
		{"end end", 1, 5, api.ErrWord},
		{"end\tx y", 1, 5, api.ErrWord},
		{"End", 1, 1, api.ErrWord},
		{"ends", 1, 1, api.ErrWord},
		{"proc q args 0 reads 0 writes 0 locals 0", 1, 1, api.ErrWord},
		{"args", 1, 1, api.ErrWord},
		{"7", 1, 1, api.ErrWord},
		{"\u00e9", 1, 1, api.ErrWord},
		{" Push 1", 1, 2, api.ErrWord},
		{"PUSH 1", 1, 1, api.ErrWord},
		{"nop x y", 1, 1, api.ErrWord},
		// Labels.
		{":", 1, 1, api.ErrWord},
		{"::", 1, 1, api.ErrWord},
		{"a::", 1, 1, api.ErrWord},
		{"_a:", 1, 1, api.ErrWord},
		{"1:", 1, 1, api.ErrWord},
		{"a-b:", 1, 1, api.ErrWord},
		{"\u00e9:", 1, 1, api.ErrWord},
		{"a\xff:", 1, 1, api.ErrWord},
		{"a :", 1, 1, api.ErrWord},
		{":a", 1, 1, api.ErrWord},
		{"a:b", 1, 1, api.ErrWord},
		{"a", 1, 1, api.ErrWord},
		{"1a: x", 1, 1, api.ErrWord},
		{"a: x", 1, 4, api.ErrWord},
		{"a: a:", 1, 4, api.ErrWord},
		{"a: stop", 1, 4, api.ErrWord},
		{"a:\nb:\n a: x", 3, 2, api.ErrTwice},
		{"a:\nstop\na:", 3, 1, api.ErrTwice},
		{"jump a\na:\na:", 3, 1, api.ErrTwice},
		{"a:\n1:", 2, 1, api.ErrWord},
		{strings.Repeat("n", 32) + ":", 1, 1, api.ErrWord},
		// Instructions without an argument.
		{"stop 0", 1, 6, api.ErrWord},
		{"pop stop", 1, 5, api.ErrWord},
		{"abort\t1 2", 1, 7, api.ErrWord},
		{"putx 0", 1, 6, api.ErrWord},
		// Instructions with a number.
		{"push #1", 1, 5, api.ErrWord},
		{" load ", 1, 6, api.ErrWord},
		{"push a", 1, 6, api.ErrNumber},
		{"push 007", 1, 6, api.ErrNumber},
		{"push +7", 1, 6, api.ErrNumber},
		{"push -0", 1, 6, api.ErrNumber},
		{"push -", 1, 6, api.ErrNumber},
		{"push 9223372036854775808", 1, 6, api.ErrNumber},
		{"push -9223372036854775809", 1, 6, api.ErrNumber},
		{"push 1 2", 1, 8, api.ErrWord},
		{"push x 2", 1, 6, api.ErrNumber},
		{"push 1:", 1, 6, api.ErrNumber},
		{"del x", 1, 5, api.ErrNumber},
		{"del", 1, 4, api.ErrWord},
		// Jumps.
		{"jump", 1, 5, api.ErrWord},
		{"zero\t# a", 1, 5, api.ErrWord},
		{"zero 3", 1, 6, api.ErrWord},
		{"jump a:", 1, 6, api.ErrWord},
		{"jump _a", 1, 6, api.ErrWord},
		{"jump \u00e9", 1, 6, api.ErrWord},
		{"jump 1 x", 1, 6, api.ErrWord},
		{"jump " + strings.Repeat("n", 32), 1, 6, api.ErrWord},
		{"jump a x", 1, 8, api.ErrWord},
		{"jump a x\na:\nend", 1, 8, api.ErrWord},
		{"a:\n zero a", 2, 7, api.ErrJump},
		{"a:\njump a x", 2, 6, api.ErrJump},
		{"a:\nstop\nb:\njump b\nend", 4, 6, api.ErrJump},
		{"a:\nstop\njump a\nend", 3, 6, api.ErrJump},
	} {
		refuses(t, aloneLine+c.text, c.line+1, c.col, c.e)
		refuses(t, aloneLine+c.text+"\nend\nx", c.line+1, c.col, c.e)
		refuses(t, aloneLine+"a:\nstop\nend\n\n"+secondLine+"other:\n"+c.text, c.line+7, c.col, c.e)
	}
}

// 4.2, 2.: which instructions have an argument, and of which kind.
func TestAssembleEachInstruction(t *testing.T) {
	const plain = "stop pop dup getx add sub mul div mod and or xor shl shr neg not eq ne lt le gt ge min max putx out abort"
	ops := map[string]int{
		"stop": api.IStop, "pop": api.IPop, "dup": api.IDup, "getx": api.IGetX,
		"add": api.IAdd, "sub": api.ISub, "mul": api.IMul, "div": api.IDiv, "mod": api.IMod,
		"and": api.IAnd, "or": api.IOr, "xor": api.IXor, "shl": api.IShl, "shr": api.IShr, "neg": api.INeg, "not": api.INot,
		"eq": api.IEq, "ne": api.INe, "lt": api.ILt, "le": api.ILe, "gt": api.IGt, "ge": api.IGe, "min": api.IMin, "max": api.IMax,
		"putx": api.IPutX, "out": api.IOut, "abort": api.IAbort,
		"push": api.IPush, "load": api.ILoad, "save": api.ISave, "arg": api.IArg, "get": api.IGet, "has": api.IHas,
		"put": api.IPut, "del": api.IDel, "jump": api.IJump, "zero": api.IZero,
	}
	if len(ops) != api.NumOps {
		t.Fatalf("there are %d instructions", len(ops))
	}
	ahead := roomyLine + "stop\n"
	for name, op := range ops {
		col := len(name) + 1
		switch {
		case slices.Contains(strings.Fields(plain), name):
			reads(t, ahead+name+"\nend", roomy(code(api.IStop, 0, int64(op), 0)))
			refuses(t, ahead+name+" 0\nend", 3, col+1, api.ErrWord)
		case op == api.IJump || op == api.IZero:
			reads(t, ahead+name+" x\nx:\nend", roomy(code(api.IStop, 0, int64(op), 2)))
			refuses(t, ahead+name+"\nx:\nend", 3, col, api.ErrWord)
			refuses(t, ahead+name+" 2\nx:\nend", 3, col+1, api.ErrWord)
		default:
			reads(t, ahead+name+" 15\nend", roomy(code(api.IStop, 0, int64(op), 15)))
			reads(t, ahead+name+" 0\nend", roomy(code(api.IStop, 0, int64(op), 0)))
			refuses(t, ahead+name+"\nend", 3, col, api.ErrWord)
			refuses(t, ahead+name+" x\nend", 3, col+1, api.ErrNumber)
			if op != api.IPush {
				refuses(t, ahead+name+" 16\nend", 1, 6, api.ErrArg)
				refuses(t, ahead+name+" -1\nend", 1, 6, api.ErrArg)
			}
		}
	}
}

// Labels: where they lie, and which names they may have.
func TestAssembleLabels(t *testing.T) {
	long := "n" + strings.Repeat("_", 30)
	for _, c := range []struct {
		text string
		code []api.Instr
	}{
		{"jump a\nstop\na:\nb:\nc:", code(api.IJump, 2, api.IStop, 0)},
		{"jump b\nstop\na:\nb:\nc:\nstop", code(api.IJump, 2, api.IStop, 0, api.IStop, 0)},
		{"jump a\njump b\nb:\na:", code(api.IJump, 2, api.IJump, 2)},
		{"jump b\njump a\na:\nstop\nb:", code(api.IJump, 3, api.IJump, 2, api.IStop, 0)},
		{"first:\njump a\na:\nlast:", code(api.IJump, 1)},
		{"x:", nil},
		{"a:\nb:\nc:\nstop\nd:", code(api.IStop, 0)},
		{"jump a\n\n# a:\n\tstop\n a: # here\n\nstop", code(api.IJump, 2, api.IStop, 0, api.IStop, 0)},
		{"push 1\nzero end\njump push\nend:\npush:\nproc:\nargs:", code(api.IPush, 1, api.IZero, 3, api.IJump, 3)},
		{"jump " + long + "\n" + long + ":", code(api.IJump, 1)},
		{"jump a\njump A\nstop\nA:\nstop\na:", code(api.IJump, 4, api.IJump, 3, api.IStop, 0, api.IStop, 0)},
		{"jump L9\nL9:\nstop\nL1:", code(api.IJump, 1, api.IStop, 0)},
		{"jump p\np:", code(api.IJump, 1)},
	} {
		reads(t, aloneLine+c.text+"\nend", alone(c.code))
	}
	// Each procedure has labels of its own.
	reads(t, aloneLine+"jump a\na:\nend\n"+secondLine+"stop\njump a\na:\nend",
		append(alone(code(api.IJump, 1)), api.Proc{Name: "q", Program: api.Program{Code: code(api.IStop, 0, api.IJump, 2)}}))
	refuses(t, aloneLine+"jump a\na:\nend\n"+secondLine+"jump a\nend", 6, 6, api.ErrLabel)
	refuses(t, aloneLine+"jump a\nend\n"+secondLine+"a:\nend", 2, 6, api.ErrLabel)
}

// 4.2, 3. to 5.: what is found at an end comes behind all that stands ahead of it, and ahead of what comes behind.
func TestAssembleEnds(t *testing.T) {
	for _, c := range []fault{
		// The end of a procedure.
		{aloneLine + "jump a\njump b\nend", 2, 6, api.ErrLabel},
		{aloneLine + "stop\n\n zero  b # x\njump a\na:\nend", 4, 8, api.ErrLabel},
		{aloneLine + "jump a\nzero b\na:\nend", 3, 6, api.ErrLabel},
		{aloneLine + "zero a\njump A\nA:\nend", 2, 6, api.ErrLabel},
		{aloneLine + "zero a\njump a\nend", 2, 6, api.ErrLabel},
		{aloneLine + "jump a\nend x", 3, 5, api.ErrWord},
		{aloneLine + "jump a\nnop\nend", 3, 1, api.ErrWord},
		{aloneLine + "jump a\nend\nx", 2, 6, api.ErrLabel},
		{aloneLine + "add\njump a\nend", 3, 6, api.ErrLabel},
		{"proc 1 args 17 reads 0 writes 0 locals 0\njump a\nend", 2, 6, api.ErrLabel},
		// The end of the text, within a procedure.
		{aloneLine + "jump a", 1, 1, api.ErrEnd},
		{aloneLine + "add", 1, 1, api.ErrEnd},
		{aloneLine + "add\n# end\n\n", 1, 1, api.ErrEnd},
		{"\n  proc 1 args 17 reads 0 writes 0 locals 0", 2, 3, api.ErrEnd},
		{aloneLine + "end\n\n\t" + secondLine + "stop\n", 4, 2, api.ErrEnd},
		{aloneLine + "add\nend\n" + secondLine, 4, 1, api.ErrEnd},
		{aloneLine + "end\n" + aloneLine, 3, 1, api.ErrEnd},
		// The end of the text.
		{aloneLine + "add\nend\n" + secondLine + "nop\nend", 5, 1, api.ErrWord},
		{aloneLine + "end\n  " + aloneLine + "end", 3, 8, api.ErrName},
		{aloneLine + "end\n" + secondLine + "end\n\tproc\t p args 0 reads 0 writes 0 locals 0\nadd\nend", 5, 8, api.ErrName},
		{"proc 1x args 0 reads 0 writes 0 locals 0\nend", 1, 6, api.ErrName},
		{"proc   p: args 0 reads 0 writes 0 locals 0\nadd\nend", 1, 8, api.ErrName},
		{"proc \u00e9 args 0 reads 0 writes 0 locals 0\nend", 1, 6, api.ErrName},
		{"proc " + strings.Repeat("n", 32) + " args 0 reads 0 writes 0 locals 0\nend", 1, 6, api.ErrName},
		{"proc p args -1 reads 0 writes 0 locals 0\nend", 1, 6, api.ErrProgram},
		{"proc p args 0 reads 17 writes 0 locals 0\nend", 1, 6, api.ErrProgram},
		{"proc p args 0 reads 0 writes -9223372036854775808 locals 0\nend", 1, 6, api.ErrProgram},
		{"proc p args 0 reads 0 writes 0 locals 9223372036854775807\nend", 1, 6, api.ErrProgram},
		{"proc p args 4294967296 reads 0 writes 0 locals 0\nend", 1, 6, api.ErrProgram},
		{aloneLine + "get 0\nend", 1, 6, api.ErrArg},
		{aloneLine + "end\n" + secondLine + "pop\nend", 3, 6, api.ErrStack},
		{aloneLine + "pop\nend\n" + secondLine + "get 0\nend", 1, 6, api.ErrStack},
		{aloneLine + "push 1\nzero a\npush 2\na:\nend", 1, 6, api.ErrStack},
		{aloneLine + strings.Repeat("stop\n", 257) + "end", 1, 6, api.ErrProgram},
		{aloneLine + strings.Repeat("pop\n", 257) + "end", 1, 6, api.ErrProgram},
		{aloneLine + strings.Repeat("push 1\n", 33) + "end", 1, 6, api.ErrStack},
		{aloneLine + strings.Repeat("or\n", 20000) + "end", 1, 6, api.ErrProgram},
	} {
		refuses(t, c.text, c.line, c.col, c.e)
	}
	reads(t, aloneLine+strings.Repeat("stop\n", 256)+"end", alone(slices.Repeat(code(api.IStop, 0), 256)))
	reads(t, aloneLine+strings.Repeat("push 1\n", 32)+"end", alone(slices.Repeat(code(api.IPush, 1), 32)))
}

// 4.2, 5.: too many procedures are told at the name of the procedure 0, whatever else is wrong.
func TestAssembleProcs(t *testing.T) {
	text := "# many\n"
	for i := range 64 {
		text += "  proc p" + strconv.Itoa(i) + " args 0 reads 0 writes 0 locals 0\nend\n"
	}
	reads(t, text, many(64))
	refuses(t, text+"proc p64 args 0 reads 0 writes 0 locals 0\nend", 2, 8, api.ErrProcs)
	refuses(t, text+"proc p5 args 17 reads 0 writes 0 locals 0\nadd\nend", 2, 8, api.ErrProcs)
	refuses(t, text+"proc p64 args 0 reads 0 writes 0 locals 0", 130, 1, api.ErrEnd)
	refuses(t, text+aloneLine+"end x", 131, 5, api.ErrWord)
	text = strings.Repeat(aloneLine+"end\n", 1000)
	refuses(t, text, 1, 6, api.ErrProcs)
}

// 4.2: a text that is too long is told so without a place, whatever stands in it.
func TestAssembleLong(t *testing.T) {
	for _, text := range []string{
		strings.Repeat("\n", api.MaxText+1),
		strings.Repeat("x", api.MaxText+1),
		bankText + strings.Repeat(" ", api.MaxText+1-len(bankText)),
		strings.Repeat("\u00e9", api.MaxText/2) + "x",
		strings.Repeat("x", 4*api.MaxText),
	} {
		if lib, err := asm.Assemble(text); len(lib) != 0 || err != error(api.ErrLong) {
			t.Errorf("%d bytes: %v, %v", len(text), lib, err)
		}
	}
	reads(t, strings.Repeat("\n", api.MaxText), nil)
	reads(t, bankText+strings.Repeat(" ", api.MaxText-len(bankText)), bank())
	reads(t, "#"+strings.Repeat("x", api.MaxText-1-len(bankText)-1)+"\n"+bankText, bank())
	refuses(t, strings.Repeat("\u00e9", api.MaxText/2), 1, 1, api.ErrWord)
}
