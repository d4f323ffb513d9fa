package desc

import (
	"errors"
	"strconv"

	"bastion/api"
)

// fault is what is wrong at a line.
type fault struct {
	no  int
	err error
}

func (f fault) Error() string { return "line " + strconv.Itoa(f.no) + ": " + f.err.Error() }

func (f fault) Unwrap() error { return f.err }

// told are the line, and the number, of what was handed up; of what has none, 0.
func told(err error) (int, api.Errno) {
	var at fault
	var e api.Errno
	errors.As(err, &at)
	errors.As(err, &e)
	return at.no, e
}
