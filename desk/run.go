package desk

import (
	"strings"

	"cartulary/api"
	"cartulary/cluster"
)

const (
	maxScript = 50000

	end    = "\n"
	remark = ";"
)

// act is a choice's line: its number, and what the choice does.
type act struct {
	line int
	do   func() ([]api.Reply, api.Errno)
}

// Run plays a script.
func Run(script string) (string, int, api.Errno) {
	lines := strings.Split(strings.TrimSuffix(script, end), end)
	if len(script) > maxScript || len(lines) > MaxLines {
		return "", 0, api.ErrLong
	}
	acts, line, e := prepare(lines)
	if e != api.OK {
		return "", line, e
	}
	return play(acts)
}

// prepare reads all lines and opens the cluster, to which nothing is done yet.
func prepare(lines []string) ([]act, int, api.Errno) {
	var c *cluster.Cluster
	var acts []act
	for i, line := range lines {
		if line == "" || strings.HasPrefix(line, remark) {
			continue
		}
		if c == nil {
			opened, e := openCluster(line)
			if e != api.OK {
				return nil, i + 1, e
			}
			c = opened
			continue
		}
		x, e := Choice(line)
		if e != api.OK {
			return nil, i + 1, e
		}
		acts = append(acts, act{line: i + 1, do: func() ([]api.Reply, api.Errno) { return c.Step(x) }})
	}
	if c == nil {
		return nil, 0, api.ErrForm
	}
	return acts, 0, api.OK
}

// openCluster is the cluster that an open line says.
func openCluster(line string) (*cluster.Cluster, api.Errno) {
	o, e := attempt(func() opening { return read([]verb[opening]{open()}, line) })
	if e != api.OK {
		return nil, e
	}
	return cluster.New(o.nodes, o.shape)
}

// play does the choices, one behind the other.
func play(acts []act) (string, int, api.Errno) {
	out := strings.Builder{}
	for _, a := range acts {
		replies, e := a.do()
		if e != api.OK {
			return "", a.line, e
		}
		for _, r := range replies {
			// Whatever a cluster that is called by lines replies, a line says.
			line, _ := Reply(r)
			out.WriteString(line + end)
		}
	}
	return out.String(), 0, api.OK
}
