package compile

import "prelude/api"

// fault is what is wrong with a source, and where; who finds it panics with it, so that nothing on the way out has to hand it on.
type fault struct {
	at api.Spot
	e  api.Errno
}

// giveUp panics at a place.
func giveUp(at api.Spot, e api.Errno) { panic(fault{at, e}) }

// want gives up at a place, if something does not hold.
func want(holds bool, at api.Spot, e api.Errno) {
	if !holds {
		giveUp(at, e)
	}
}
