package fault

import (
	"errors"
	"slices"
	"strconv"

	"postern/api"
)

// made is a fault that was made. It is handed out by its address, so each one is equal to itself alone.
type made struct {
	code  api.Errno
	text  string
	under []error
}

func (f *made) Error() string   { return f.text }
func (f *made) Code() api.Errno { return f.code }
func (f *made) Unwrap() []error { return slices.Concat([]error{f.code}, f.under) }

// Of makes the fault of t.
func Of(t api.Tree) (api.Fault, api.Errno) {
	if !May(t) {
		return nil, api.ErrArg
	}
	return of(t), api.OK
}

func of(t api.Tree) *made {
	f := &made{code: t.Code, text: string(lay(nil, t))}
	for _, under := range t.Under {
		f.under = append(f.under, of(under))
	}
	return f
}

// Over makes a fault with that Code and these errors under it.
func Over(code api.Errno, under ...error) (api.Fault, api.Errno) {
	if code < 1 {
		return nil, api.ErrArg
	}
	return over(code, under...), api.OK
}

// over asks none of the errors for its text: they are the caller's own.
func over(code api.Errno, under ...error) *made {
	f := &made{code: code, text: strconv.Itoa(int(code))}
	for _, err := range under {
		if err != nil {
			f.under = append(f.under, err)
		}
	}
	return f
}

// runtimeError is what Go's own panics have.
type runtimeError interface {
	error
	RuntimeError()
}

// Met calls do, and tells the fault of the runtime error with which it panics.
func Met(do func()) (f api.Fault, met bool) {
	defer func() {
		panicked := recover()
		if panicked == nil {
			return
		}
		if err, ok := panicked.(error); ok && isRuntime(err) {
			f, met = over(api.ErrPanic, err), true
			return
		}
		panic(panicked)
	}()
	do()
	return nil, false
}

func isRuntime(err error) bool {
	var found runtimeError
	return errors.As(err, &found)
}
