// Package fault: what is wrong is thrown inside, and caught by the call that answers it.
package fault

import "store/api"

// thrown is a type of its own, so that nothing that a device may panic with is taken for an answer of the program.
type thrown struct{ error }

// Throw breaks off the work of the Catch around it.
func Throw(op string, e api.Errno) {
	panic(thrown{&api.Fault{Op: op, E: e}})
}

// Catch does the work of a call, and gives what broke it off (nil: nothing).
func Catch(op string, work func()) (err error) {
	defer func() {
		if r := recover(); r != nil {
			err = &api.Fault{Op: op, E: meant(r)}
		}
	}()
	work()
	return nil
}

// meant tells what a caught value stands for. What the program did not throw came out of a device that does not answer: to the caller that is a device that tells an error.
func meant(r any) error {
	if t, ok := r.(thrown); ok {
		return t.error
	}
	return api.ErrIO
}
