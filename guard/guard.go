// Package guard is layer 1: faults that are thrown, and caught. See shared/doc/01-guard.md.
package guard

import "crossdock/api"

// Fault is what was found wrong, and where.
type Fault struct {
	Code  api.Errno
	Where string
}

// Error tells a fault as a text.
func (f *Fault) Error() string {
	if f == nil {
		return ""
	}
	if f.Where == "" {
		return f.Code.Error()
	}
	return f.Code.Error() + ": " + f.Where
}

// Throw panics with a fault.
func Throw(code api.Errno, where string) {
	panic(&Fault{Code: code, Where: where})
}

// Must throws a fault, if something isn't so.
func Must(ok bool, code api.Errno, where string) {
	if !ok {
		Throw(code, where)
	}
}

// Try does something, and catches a fault.
func Try(f func()) error {
	// A nil *Fault in an error is no nil error, so the two ends are kept apart.
	if fault, thrown := catch(f); thrown {
		return fault
	}
	return nil
}

// In does something, and puts a place ahead of a fault's.
func In(where string, f func()) {
	// Code and Where, not the fields: somebody may panic with a nil *Fault.
	if fault, thrown := catch(f); thrown {
		Throw(Code(fault), within(where, Where(fault)))
	}
}

// Pass throws an error on.
func Pass(err error) {
	if err != nil {
		Throw(Code(err), Where(err))
	}
}

// Code is an error's code.
func Code(err error) api.Errno {
	switch e := err.(type) {
	case nil:
		return 0
	case *Fault:
		if e != nil {
			return e.Code
		}
	case api.Errno:
		return e
	}
	return api.ErrKind
}

// Where is an error's place.
func Where(err error) string {
	if fault, ok := err.(*Fault); ok && fault != nil {
		return fault.Where
	}
	return ""
}

// catch does f, and tells the fault that f threw. Whether it threw one is told
// beside it, because the fault may be nil.
func catch(f func()) (fault *Fault, thrown bool) {
	if f == nil {
		return nil, false
	}
	defer func() {
		x := recover()
		if x == nil {
			return
		}
		fault, thrown = x.(*Fault)
		if !thrown {
			panic(x) // there is no looking at a panic without stopping it
		}
	}()
	f()
	return nil, false
}

// within is a place inside of another one.
func within(outer, inner string) string {
	if inner == "" {
		return outer
	}
	return outer + "." + inner
}
