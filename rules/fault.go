package rules

import (
	"errors"
	"heckle/api"
	"strconv"
)

// cause is the number of an error, as an error.
type cause api.Errno

func (c cause) Error() string {
	return "error " + strconv.Itoa(int(c))
}

// fault wraps an error, to pass its position up beside it.
type fault struct {
	error
	at int
}

func (f fault) Unwrap() error {
	return f.error
}

// told returns the number and the position that were passed up.
func told(err error) (api.Errno, int) {
	var f fault
	if errors.As(err, &f) {
		return number(err), f.at
	}
	return number(err), 0
}

// number returns the number that was passed up.
func number(err error) api.Errno {
	for _, n := range [...]api.Errno{api.ErrLong, api.ErrName, api.ErrRange} {
		if errors.Is(err, cause(n)) {
			return n
		}
	}
	return api.ErrSyntax
}
