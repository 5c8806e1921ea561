// Package laid tests what is laid for the whole program: the numbers, the errors, and the faces of the layers.
package laid

import (
	"errors"
	"testing"

	"mootbell/again"
	"mootbell/agree"
	"mootbell/api"
	"mootbell/cast"
	"mootbell/cause"
	"mootbell/clock"
	"mootbell/faces"
	"mootbell/fifo"
	"mootbell/flush"
	"mootbell/history"
	"mootbell/leader"
	"mootbell/log"
	"mootbell/net"
	"mootbell/picture"
	"mootbell/pieces"
	"mootbell/plain"
	"mootbell/run"
	"mootbell/stable"
	"mootbell/token"
	"mootbell/vector"
	"mootbell/view"
	"mootbell/wire"
)

// The functions that the chapters list: a face that changed would not compile here.
var (
	_ func([]int) error                         = vector.Check
	_ func(a, b []int) ([]int, error)           = vector.Join
	_ func(a, b []int) (bool, error)            = vector.Leq
	_ func(a, b []int) (bool, error)            = vector.Apart
	_ func([]int, int) ([]int, error)           = vector.Step
	_ func([]api.Event) (int, error)            = history.Check
	_ func([]api.Event, int, int) (bool, error) = history.Before
	_ func([]api.Event, int) ([]int, error)     = history.Past
	_ func([]api.Event, []int) (bool, error)    = history.Cut
	_ func([]api.Event) ([][]int, error)        = clock.Vectors
	_ func([]api.Event) ([]int, error)          = clock.Numbers
	_ func([]api.Event) ([]int, error)          = clock.Order
	_ func([]api.Event) (api.Faces, error)      = faces.Of
	_ func([]api.Event, int) ([]int, error)     = faces.Heard
	_ func() *fifo.Fifo                         = fifo.New
	_ func(int) (*cause.Cause, error)           = cause.New
	_ func() *net.Net                           = net.New
	_ func(int) (*cast.Cast, error)             = cast.New
	_ func(string, int) ([]api.Piece, error)    = pieces.Split
	_ func() *pieces.Joiner                     = pieces.New
	_ func() *again.Sender                      = again.NewSender
	_ func() *again.Hearer                      = again.NewHearer
	_ func(int) (*agree.Agree, error)           = agree.New
	_ func(int) (*leader.Leader, error)         = leader.New
	_ func(n, most int) (*token.Token, error)   = token.New
	_ func(int) (*stable.Stable, error)         = stable.New
	_ func(api.View) error                      = view.Check
	_ func(api.View, []int) (api.View, error)   = view.Next
	_ func([]api.View) (int, error)             = view.Chain
	_ func(a, b api.View) ([]int, error)        = view.Both
	_ func(int) (*flush.Flush, error)           = flush.New
	_ func([]int) (*picture.Picture, error)     = picture.New
	_ func(api.Said) (string, error)            = wire.Pack
	_ func(string) (api.Said, error)            = wire.Unpack
	_ func([]api.Piece) (string, error)         = wire.Row
	_ func() *log.Log                           = log.New
	_ func(string) string                       = run.Run
)

// The methods that the chapters list.
var (
	_ interface {
		Take(who, n, word int) ([]int, error)
		Next() []int
		Waits() int
	} = (*fifo.Fifo)(nil)
	_ interface {
		Say(word int) (api.Said, error)
		Take(s api.Said) ([]int, error)
		Clock() []int
		Waits() int
	} = (*cause.Cause)(nil)
	_ interface {
		Send(p api.Packet) error
		All() []api.Packet
		Give(i int) (api.Packet, error)
		Drop(i int) error
		Twice(i int) error
		Cut(a, b int, is bool) error
	} = (*net.Net)(nil)
	_ interface {
		Say(who, word int) error
		Give(i int) ([]int, error)
		Drop(i int) error
		Twice(i int) error
		OnWay() []api.Packet
		History() []api.Event
	} = (*cast.Cast)(nil)
	_ interface {
		Take(p api.Piece) (bool, error)
		Text() (string, error)
		Lacks() []int
	} = (*pieces.Joiner)(nil)
	_ interface {
		Say(word int) (int, error)
		Ask(n int) (int, error)
		Free(n int) error
	} = (*again.Sender)(nil)
	_ interface {
		Take(n, word int) ([]int, error)
		Lacks(upTo int) ([]int, error)
	} = (*again.Hearer)(nil)
	_ interface {
		Say(word int) error
		Propose(who, word int) (api.Stamp, error)
		Settle(who, word int) ([]int, error)
		Heard(who int) ([]int, error)
	} = (*agree.Agree)(nil)
	_ interface {
		Say(word int) (api.Placed, error)
		Take(who, at int) ([]int, error)
		Lacks(who int) ([]int, error)
		Heard(who int) ([]int, error)
	} = (*leader.Leader)(nil)
	_ interface {
		Say(who, word int) error
		Pass() []api.Placed
		Holder() int
		Waits(who int) ([]int, error)
	} = (*token.Token)(nil)
	_ interface {
		Told(who int, v []int) error
		Row(who int) ([]int, error)
		Least() []int
		May(who, n int) (bool, error)
	} = (*stable.Stable)(nil)
	_ interface {
		Say(who, word int) error
		Give(who, word int) error
		Change(has []int) (api.View, error)
		View() api.View
		Heard(who, n int) ([]int, error)
	} = (*flush.Flush)(nil)
	_ interface {
		Pay(from, to, n int) error
		Come(from, to int) (int, error)
		Begin(who int) error
		Gold(who int) (int, error)
		OnWay(from, to int) ([]int, error)
		Done() bool
		Sum() (api.Sum, error)
	} = (*picture.Picture)(nil)
	_ interface {
		Do(e api.Event) error
		Sync() error
		Crash(keep int)
		Fail(n int)
		All() []api.Event
		Faces() (api.Faces, error)
		Bytes() int
		Safe() int
	} = (*log.Log)(nil)
)

func TestErrorsHaveTheirNumbersAndNames(t *testing.T) {
	for i, c := range []struct {
		errno api.Errno
		name  string
	}{
		{api.OK, "OK"},
		{api.ErrRange, "ErrRange"},
		{api.ErrSyntax, "ErrSyntax"},
		{api.ErrShape, "ErrShape"},
		{api.ErrFull, "ErrFull"},
		{api.ErrNone, "ErrNone"},
		{api.ErrState, "ErrState"},
		{api.ErrClash, "ErrClash"},
		{api.ErrOut, "ErrOut"},
	} {
		if int(c.errno) != i || c.errno.Error() != c.name {
			t.Errorf("error %d is %d, %q, want name %q", i, int(c.errno), c.errno.Error(), c.name)
		}
	}
}

func TestNumbersThatTheChaptersTell(t *testing.T) {
	for _, c := range []struct {
		name      string
		got, want int
	}{
		{"Members", api.Members, 5},
		{"MaxCount", api.MaxCount, 1_000_000},
		{"MaxWords", api.MaxWords, 30},
		{"MaxEvents", api.MaxEvents, 60},
		{"MaxOnWay", api.MaxOnWay, 40},
		{"MaxText", api.MaxText, 60},
		{"MaxPiece", api.MaxPiece, 12},
		{"MaxGold", api.MaxGold, 1_000},
		{"MaxRun", api.MaxRun, 3_000},
	} {
		if c.got != c.want {
			t.Errorf("%s is %d, want %d", c.name, c.got, c.want)
		}
	}
}

// wrapped is an error that wraps another one.
type wrapped struct{ inner error }

func (w wrapped) Error() string { return "wrapped: " + w.inner.Error() }

func (w wrapped) Unwrap() error { return w.inner }

func TestErrorsAreAskedByTold(t *testing.T) {
	for _, c := range []struct {
		err  error
		want api.Errno
	}{
		{nil, api.OK},
		{api.ErrFull, api.ErrFull},
		{wrapped{wrapped{api.ErrOut}}, api.ErrOut},
		{errors.New("another"), -1},
	} {
		if got := plain.Told(c.err); got != c.want {
			t.Errorf("Told(%v) = %d, want %d", c.err, got, c.want)
		}
	}
}
