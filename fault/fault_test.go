package fault

import (
	"errors"
	"fmt"
	"slices"
	"strings"
	"testing"

	"regency/api"
)

// numbers are the errors that the document names, with the numbers that it gives them.
var numbers = []struct {
	e api.Errno
	n int
}{
	{api.ErrNil, 1}, {api.ErrArg, 2}, {api.ErrForm, 10}, {api.ErrEnd, 11}, {api.ErrSum, 12}, {api.ErrLong, 13},
	{api.ErrCat, 20}, {api.ErrLabel, 21}, {api.ErrName, 30}, {api.ErrKind, 31}, {api.ErrFlow, 32}, {api.ErrQuota, 33},
	{api.ErrFull, 34}, {api.ErrSpent, 35}, {api.ErrOwn, 36}, {api.ErrRange, 37}, {api.ErrOld, 40}, {api.ErrTurn, 41},
}

// hostile panics in each of its methods.
type hostile struct{}

func (hostile) Error() string { panic("Error") }
func (hostile) Unwrap() error { panic("Unwrap") }
func (hostile) Is(error) bool { panic("Is") }
func (hostile) As(any) bool   { panic("As") }

// liar says that it is every error, and that it can become any number.
type liar struct{}

func (liar) Error() string { return "liar" }
func (liar) Is(error) bool { return true }
func (liar) As(target any) bool {
	if n, ok := target.(*api.Errno); ok {
		*n = api.ErrSum
		return true
	}
	if f, ok := target.(**Fault); ok {
		*f = &Fault{"liar", api.ErrSum, nil}
		return true
	}
	return false
}

// circle wraps itself. It counts how often it is unwrapped, and gives way in the end so that a test fails and does not hang.
type circle struct{ times int }

func (c *circle) Error() string { return "circle" }
func (c *circle) Unwrap() error {
	if c.times++; c.times > 1000 {
		return nil
	}
	return c
}

// list is an error that must not be compared.
type list []int

func (list) Error() string { return "list" }

// holder promotes the methods of a fault, but is not one.
type holder struct{ *Fault }

func same(a, b []error) bool {
	return slices.EqualFunc(a, b, func(x, y error) bool { return x == y })
}

func TestNew(t *testing.T) {
	if err := New("a", api.OK); err != nil {
		t.Errorf("OK: %v", err)
	}
	for _, x := range numbers {
		err := New("a.b", x.e)
		f, ok := err.(*Fault)
		if !ok {
			t.Fatalf("%d: %T", x.n, err)
		}
		if want := fmt.Sprintf("a.b: regency: error %d", x.n); err.Error() != want {
			t.Errorf("%q, not %q", err.Error(), want)
		}
		if !same(f.Unwrap(), []error{x.e}) {
			t.Errorf("%d unwraps to %v", x.n, f.Unwrap())
		}
		if Code(err) != x.e || Place(err) != "a.b" || Depth(err) != 1 || !slices.Equal(Places(err), []string{"a.b"}) {
			t.Errorf("%d: %d %q %d %q", x.n, Code(err), Place(err), Depth(err), Places(err))
		}
	}
}

// Every number but OK makes a fault, and every string is a place.
func TestNewOfOddArguments(t *testing.T) {
	for _, e := range []api.Errno{-1, 3, 1 << 40, -1 << 63, 1<<63 - 1} {
		for _, place := range []string{"", " < ", "a: b", "\x00\xff", strings.Repeat("x", 10000)} {
			err := New(place, e)
			if err == nil || Code(err) != e || Place(err) != place || !Has(err, e) || Depth(err) != 1 {
				t.Errorf("%d %q: %v", e, place, err)
			}
			if want := fmt.Sprintf("%s: regency: error %d", place, e); err.Error() != want {
				t.Errorf("%q, not %q", err.Error(), want)
			}
		}
	}
}

func TestWrapOfExample(t *testing.T) {
	err := Wrap("b", api.ErrForm, New("a", api.ErrEnd))
	if err.Error() != "b: regency: error 10 < a: regency: error 11" {
		t.Errorf("%q", err.Error())
	}
}

func TestWrap(t *testing.T) {
	fault := New("a", api.ErrEnd)
	other := errors.New("other")
	for _, x := range []struct {
		behind error
		text   string
	}{
		{nil, "b: regency: error 10"},
		{fault, "b: regency: error 10 < a: regency: error 11"},
		{Wrap("c", api.ErrOwn, fault), "b: regency: error 10 < c: regency: error 36 < a: regency: error 11"},
		{api.ErrSum, "b: regency: error 10 < regency: error 12"},
		{api.OK, "b: regency: error 10 < regency: error 0"},
		{other, "b: regency: error 10 < other"},
		{Wrap("c", api.ErrOwn, other), "b: regency: error 10 < c: regency: error 36 < other"},
		{errors.New(""), "b: regency: error 10 < "},
		{fmt.Errorf("w (%w)", fault), "b: regency: error 10 < w (a: regency: error 11)"},
	} {
		err := Wrap("b", api.ErrForm, x.behind)
		f, ok := err.(*Fault)
		if !ok {
			t.Fatalf("%v: %T", x.behind, err)
		}
		if err.Error() != x.text {
			t.Errorf("%q, not %q", err.Error(), x.text)
		}
		want := []error{api.ErrForm}
		if x.behind != nil {
			want = append(want, x.behind)
		}
		if !same(f.Unwrap(), want) {
			t.Errorf("%v unwraps to %v", err, f.Unwrap())
		}
		if Code(err) != api.ErrForm || Place(err) != "b" {
			t.Errorf("%v: %d %q", err, Code(err), Place(err))
		}
	}
}

func TestWrapWithOK(t *testing.T) {
	if err := Wrap("b", api.OK, nil); err != nil {
		t.Errorf("nil: %v", err)
	}
	for _, behind := range []error{New("a", api.ErrEnd), api.ErrSum, api.OK, errors.New("other"), &circle{}} {
		if err := Wrap("b", api.OK, behind); err != behind {
			t.Errorf("%v, not %v", err, behind)
		}
	}
}

// Faults that are made alike are still two faults.
func TestFaultsAreNew(t *testing.T) {
	if New("a", api.ErrEnd) == New("a", api.ErrEnd) {
		t.Errorf("one fault for two calls")
	}
}

func TestUnwrapIsNewMemory(t *testing.T) {
	f := Wrap("b", api.ErrForm, api.ErrEnd).(*Fault)
	l := f.Unwrap()
	l[0], l[1] = api.ErrSum, nil
	if !same(f.Unwrap(), []error{api.ErrForm, api.ErrEnd}) || f.Error() != "b: regency: error 10 < regency: error 11" {
		t.Errorf("%v, %v", f.Unwrap(), f)
	}
}

func TestCode(t *testing.T) {
	if Code(nil) != api.OK {
		t.Errorf("nil: %d", Code(nil))
	}
	for _, e := range []api.Errno{api.OK, api.ErrEnd, api.ErrTurn, -7, 99} {
		if Code(e) != e {
			t.Errorf("%d: %d", e, Code(e))
		}
	}
	pointed := api.ErrEnd
	for _, err := range []error{
		errors.New("x"), list{1}, liar{}, &circle{}, &pointed,
		fmt.Errorf("w %w", api.ErrEnd),
		fmt.Errorf("w %w", New("a", api.ErrEnd)),
		errors.Join(api.ErrEnd, New("a", api.ErrEnd)),
		holder{New("a", api.ErrEnd).(*Fault)},
	} {
		if Code(err) != api.ErrArg {
			t.Errorf("%v: %d", err, Code(err))
		}
		if Code(Wrap("b", api.ErrForm, err)) != api.ErrForm {
			t.Errorf("%v wrapped: %d", err, Code(Wrap("b", api.ErrForm, err)))
		}
	}
}

func TestPlacesOfOthers(t *testing.T) {
	for _, err := range []error{
		nil, api.OK, api.ErrEnd, errors.New("x"), list{1}, liar{}, &circle{},
		fmt.Errorf("w %w", New("a", api.ErrEnd)),
		errors.Join(New("a", api.ErrEnd)),
		holder{New("a", api.ErrEnd).(*Fault)},
	} {
		if Place(err) != "" || Depth(err) != 0 || len(Places(err)) != 0 {
			t.Errorf("%v: %q %d %q", err, Place(err), Depth(err), Places(err))
		}
	}
}

func TestChain(t *testing.T) {
	inner := Wrap("", api.ErrEnd, New("a", api.ErrEnd))
	for _, x := range []struct {
		last   error
		places []string
	}{
		{nil, []string{"c", "b"}},
		{api.ErrSum, []string{"c", "b"}},
		{errors.New("x"), []string{"c", "b"}},
		{fmt.Errorf("w %w", inner), []string{"c", "b"}},
		{inner, []string{"c", "b", "", "a"}},
	} {
		err := Wrap("c", api.ErrOwn, Wrap("b", api.ErrForm, x.last))
		if Place(err) != "c" || Depth(err) != len(x.places) || !slices.Equal(Places(err), x.places) {
			t.Errorf("%v: %q %d %q", err, Place(err), Depth(err), Places(err))
		}
	}
}

func TestPlacesAreNewMemory(t *testing.T) {
	err := Wrap("b", api.ErrForm, New("a", api.ErrEnd))
	l := Places(err)
	l[0], l[1] = "x", "y"
	if !slices.Equal(Places(err), []string{"b", "a"}) {
		t.Errorf("%q", Places(err))
	}
}

func TestHas(t *testing.T) {
	end := New("a", api.ErrEnd)
	for _, x := range []struct {
		err error
		has []api.Errno
	}{
		{nil, nil},
		{api.ErrSum, []api.Errno{api.ErrSum}},
		{api.OK, nil},
		{errors.New("x"), nil},
		{list{1}, nil},
		{liar{}, nil},
		{&circle{}, nil},
		{fmt.Errorf("w %w", api.ErrEnd), nil},
		{fmt.Errorf("w %w", end), nil},
		{errors.Join(api.ErrSum, end), nil},
		{holder{end.(*Fault)}, nil},
		{end, []api.Errno{api.ErrEnd}},
		{Wrap("b", api.ErrForm, end), []api.Errno{api.ErrForm, api.ErrEnd}},
		{Wrap("c", api.ErrOwn, Wrap("b", api.ErrForm, end)), []api.Errno{api.ErrOwn, api.ErrForm, api.ErrEnd}},
		{Wrap("b", api.ErrForm, api.ErrSum), []api.Errno{api.ErrForm, api.ErrSum}},
		{Wrap("b", api.ErrForm, api.OK), []api.Errno{api.ErrForm}},
		{Wrap("c", api.ErrOwn, Wrap("b", api.ErrForm, api.ErrSum)), []api.Errno{api.ErrOwn, api.ErrForm, api.ErrSum}},
		{Wrap("b", api.ErrForm, errors.New("x")), []api.Errno{api.ErrForm}},
		{Wrap("b", api.ErrForm, liar{}), []api.Errno{api.ErrForm}},
		{Wrap("b", api.ErrForm, list{1}), []api.Errno{api.ErrForm}},
		{Wrap("b", api.ErrForm, fmt.Errorf("w %w", end)), []api.Errno{api.ErrForm}},
		{Wrap("b", -3, end), []api.Errno{-3, api.ErrEnd}},
	} {
		for e := api.Errno(-5); e < 50; e++ {
			want := slices.Contains(x.has, e)
			if e == api.OK {
				want = x.err == nil
			}
			if Has(x.err, e) != want {
				t.Errorf("Has(%v, %d) is %v", x.err, e, !want)
			}
		}
	}
}

func TestWrappedHasAllNumbers(t *testing.T) {
	before := []error{
		api.ErrSum, errors.New("x"), New("a", api.ErrEnd), New("a", 99), fmt.Errorf("w %w", api.ErrOwn),
		Wrap("b", api.ErrForm, New("a", api.ErrEnd)),
		Wrap("b", api.ErrForm, api.ErrFull),
		Wrap("c", api.ErrCat, Wrap("b", api.ErrForm, fmt.Errorf("w %w", api.ErrOld))),
	}
	for _, behind := range before {
		for _, x := range numbers {
			after := Wrap("z", x.e, behind)
			if Depth(after) != Depth(behind)+1 {
				t.Errorf("%v: depth %d", after, Depth(after))
			}
			for e := api.Errno(1); e < 100; e++ {
				if Has(after, e) != (Has(behind, e) || e == x.e) {
					t.Errorf("Has(%v, %d) is %v", after, e, Has(after, e))
				}
				if errors.Is(after, e) != (errors.Is(behind, e) || e == x.e) {
					t.Errorf("errors.Is(%v, %d) is %v", after, e, errors.Is(after, e))
				}
			}
			if !errors.Is(after, behind) {
				t.Errorf("%v is not %v", after, behind)
			}
		}
	}
}

func TestErrorsAs(t *testing.T) {
	err := Wrap("b", api.ErrForm, New("a", api.ErrEnd))
	var n api.Errno
	if !errors.As(err, &n) || n != api.ErrForm {
		t.Errorf("%d", n)
	}
	var f *Fault
	if !errors.As(fmt.Errorf("w %w", err), &f) || f != err {
		t.Errorf("%v", f)
	}
	var c *circle
	if !errors.As(Wrap("b", api.ErrForm, &circle{}), &c) {
		t.Errorf("no circle")
	}
}

// The methods of an error that is not a fault are not asked, but for its text, and this may panic.
func TestHostileErrors(t *testing.T) {
	for _, bad := range []error{hostile{}, (*hostile)(nil), (*api.Errno)(nil)} {
		if Code(bad) != api.ErrArg || Place(bad) != "" || Depth(bad) != 0 || Has(bad, api.ErrArg) || Has(bad, api.OK) || len(Places(bad)) != 0 {
			t.Errorf("%T", bad)
		}
		err := Wrap("c", api.ErrOwn, Wrap("b", api.ErrForm, bad))
		if Code(err) != api.ErrOwn || Place(err) != "c" || Depth(err) != 2 || Has(err, api.ErrEnd) || !Has(err, api.ErrForm) || len(Places(err)) != 2 {
			t.Errorf("%T wrapped", bad)
		}
		if err.Error() != "c: regency: error 36 < b: regency: error 10 < " {
			t.Errorf("%T: %q", bad, err.Error())
		}
	}
	c := &circle{}
	for _, err := range []error{c, Wrap("b", api.ErrForm, c)} {
		Code(err)
		Place(err)
		Depth(err)
		Has(err, api.ErrEnd)
		Places(err)
		_ = err.Error()
	}
	if c.times != 0 {
		t.Errorf("unwrapped %d times", c.times)
	}
}

// Nothing is promised of faults that New and Wrap did not return, but that nothing panics.
func TestOddFaults(t *testing.T) {
	for _, odd := range []*Fault{nil, {}} {
		for _, err := range []error{odd, Wrap("b", api.ErrForm, odd), holder{odd}} {
			_ = err.Error()
			Code(err)
			Place(err)
			Depth(err)
			Places(err)
			errors.Is(err, api.ErrEnd)
			if Has(err, api.OK) || Has(err, api.ErrEnd) {
				t.Errorf("%#v", err)
			}
		}
		odd.Unwrap()
	}
}

func TestLongChain(t *testing.T) {
	const levels = 1 << 16
	err := New("a", api.ErrEnd)
	for range levels - 1 {
		err = Wrap("b", api.ErrForm, err)
	}
	text := strings.Repeat("b: regency: error 10 < ", levels-1) + "a: regency: error 11"
	if err.Error() != text {
		t.Errorf("the text differs")
	}
	l := Places(err)
	if Depth(err) != levels || len(l) != levels || l[0] != "b" || l[levels-1] != "a" {
		t.Errorf("%d %d", Depth(err), len(l))
	}
	if !Has(err, api.ErrEnd) || Has(err, api.ErrSum) || Code(err) != api.ErrForm || !errors.Is(err, api.ErrEnd) {
		t.Errorf("the numbers differ")
	}
}
