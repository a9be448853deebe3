package source

import "prelude/api"

// fault is what is wrong with a source, and where; reading panics with it, so that nothing on the way out has to hand it on.
type fault struct {
	at api.Spot
	e  api.Errno
}

// reading goes through a source's tokens, and gives up at the first one that is wrong.
type reading struct {
	tokens []api.Token // those that come next
	end    api.Spot    // the place behind the text
	nest   int         // how many opening tokens the next one stands within
}

// next is the token that comes next; behind the last one it is of no kind, at the text's end.
func (r *reading) next() api.Token {
	if len(r.tokens) == 0 {
		return api.Token{At: r.end}
	}
	return r.tokens[0]
}

// comes tells whether a word or a sign comes next. No name and no number has the text of one.
func (r *reading) comes(text string) bool { return r.next().Text == text }

// take reads the token that comes next, which must be there.
func (r *reading) take() api.Token {
	t := r.tokens[0]
	r.tokens = r.tokens[1:]
	return t
}

// takes reads a word or a sign, if it comes next, and tells whether it did.
func (r *reading) takes(text string) bool {
	is := r.comes(text)
	if is {
		r.take()
	}
	return is
}

// must reads the word or the sign that nothing else can stand for.
func (r *reading) must(text string) {
	r.want(r.comes(text))
	r.take()
}

// name reads a name.
func (r *reading) name() api.Name {
	r.want(r.next().Kind == api.TName)
	t := r.take()
	return api.Name{Text: t.Text, At: t.At}
}

// want gives up, if the token that comes next is not what must stand there.
func (r *reading) want(holds bool) {
	if !holds {
		r.giveUp(api.ErrSyntax)
	}
}

// giveUp panics at the token that comes next.
func (r *reading) giveUp(e api.Errno) { panic(fault{r.next().At, e}) }

// opened reads the opening token that comes next, and what it opens.
func opened[T any](r *reading, inner func() T) T {
	if r.nest == api.MaxNest {
		r.giveUp(api.ErrLimit)
	}
	r.take()
	r.nest++
	x := inner()
	r.nest--
	return x
}

// bracketed reads a bracket, what stands in it, and the one that closes it.
func bracketed[T any](r *reading, first, last string, inner func() T) T {
	r.want(r.comes(first))
	x := opened(r, inner)
	r.must(last)
	return x
}
