// Package fault is layer 1: errors that tell where they came from.
package fault

import (
	"errors"
	"strings"

	"regency/api"
)

// Fault is an error of a place.
type Fault struct {
	place  string
	number api.Errno
	cause  error // nil: none
}

// Error returns the texts of the faults in the chain, and of the error that ends it.
func (f *Fault) Error() string {
	if f == nil {
		return ""
	}
	faults, last := chain(f)
	var texts []string
	for _, x := range faults {
		texts = append(texts, x.place+": "+x.number.Error())
	}
	if last != nil {
		texts = append(texts, textOf(last))
	}
	return strings.Join(texts, " < ")
}

// Unwrap returns the number, and the cause if there is one. The number comes first, so that errors.As finds it ahead of those of the causes.
func (f *Fault) Unwrap() []error {
	if f == nil {
		return nil
	}
	if f.cause == nil {
		return []error{f.number}
	}
	return []error{f.number, f.cause}
}

// New returns a fault without a cause, or nil if e is OK.
func New(place string, e api.Errno) error {
	return Wrap(place, e, nil)
}

// Wrap returns a fault with the cause behind, or behind itself if e is OK.
func Wrap(place string, e api.Errno, behind error) error {
	if e == api.OK {
		return behind
	}
	return &Fault{place: place, number: e, cause: behind}
}

// Code returns the number of a fault, an Errno itself, OK for nil, and ErrArg for any other error.
func Code(err error) api.Errno {
	if err == nil {
		return api.OK
	}
	var number api.Errno
	if known(err) && errors.As(err, &number) {
		return number
	}
	return api.ErrArg
}

// Place returns the place of a fault, and "" for anything else.
func Place(err error) string {
	if f := asFault(err); f != nil {
		return f.place
	}
	return ""
}

// Depth returns how many faults are in the chain of causes that begins with err.
func Depth(err error) int {
	faults, _ := chain(err)
	return len(faults)
}

// Has reports whether e is the number of a fault in the chain, or the error that ends it; OK is what only nil has.
func Has(err error, e api.Errno) bool {
	if e == api.OK {
		return err == nil
	}
	faults, last := chain(err)
	for _, f := range faults {
		if errors.Is(f.number, e) {
			return true
		}
	}
	return known(last) && errors.Is(last, e)
}

// Places returns the places of the faults in the chain, that of err first.
func Places(err error) []string {
	faults, _ := chain(err)
	var places []string
	for _, f := range faults {
		places = append(places, f.place)
	}
	return places
}

// chain returns the faults in the chain of causes that begins with err, and the error that ends the chain: nil, or one that is not a fault. Only faults have causes: what another package's error wraps does not belong to the chain.
func chain(err error) ([]*Fault, error) {
	var faults []*Fault
	for f := asFault(err); f != nil; f = asFault(err) {
		faults = append(faults, f)
		err = f.cause
	}
	return faults, err
}

// asFault returns err as a fault, or nil if it is not one.
func asFault(err error) *Fault {
	f, _ := err.(*Fault)
	return f
}

// known reports whether err is a fault or a number. Only such an error is given to package errors, which would call the methods of another one: these may panic or never end, and may find a number that does not count.
func known(err error) bool {
	_, number := err.(api.Errno)
	return number || asFault(err) != nil
}

// textOf returns the text of an error that is not a fault, or "" if its method panics (as that of a nil pointer may): the text of a fault must not panic, whatever its cause is.
func textOf(err error) (text string) {
	defer func() {
		if recover() != nil {
			text = ""
		}
	}()
	return err.Error()
}
