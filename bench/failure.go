package bench

import "motley/api"

// failure is what a command panics with: the error with which it is answered. Until then it has changed nothing.
type failure api.Errno

func (e failure) answer() string {
	var a answer
	a.write(api.Errno(e).Error())
	return a.String()
}

func fail(e api.Errno) { panic(failure(e)) }

// must fails with an error, if it is one.
func must(e api.Errno) {
	if e != api.OK {
		fail(e)
	}
}

// got is what a call returned without an error.
func got[T any](x T, e api.Errno) T {
	must(e)
	return x
}
