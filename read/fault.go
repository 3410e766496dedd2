package read

import (
	"errors"
	"heckle/api"
	"strconv"
)

// cause is the number of an error, as an error.
type cause api.Errno

func (c cause) Error() string {
	return "error " + strconv.Itoa(int(c))
}

// fault wraps an error, to pass its position up beside it.
type fault struct {
	error
	at int
}

func (f fault) Unwrap() error {
	return f.error
}

// told returns the number and the position that were passed up.
func told(err error) (api.Errno, int) {
	var c cause
	var f fault
	if errors.As(err, &c) && errors.As(err, &f) {
		return api.Errno(c), f.at
	}
	return api.ErrSyntax, 0
}
