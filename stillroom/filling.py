"""Filling outlines, placing pictures, curves and whole pages (points 102 to 106)."""

from stillroom.grid import NO_COLOUR, middle
from stillroom.measure import spend
from stillroom.outlines import bounded

_CURVE_POINTS = 8


def fill(grid, clip, outlines, colour):
    """The grid with this colour where a middle is in the clip and inside of the outlines."""
    width, height, cells = grid
    columns = _within(clip[0], clip[2], width)
    edges = _edges(outlines)
    painted = list(cells)
    for row in _within(clip[1], clip[3], height):
        y = middle(row)
        crossed = [edge for edge in edges if edge[1] <= y < edge[3]]
        # Most marks are small: most rows cross none of their edges.
        if crossed:
            inside = _inside_row(crossed, y, width)
            for column in columns:
                if inside[column]:
                    painted[row * width + column] = colour
    return width, height, painted


def _within(begin, end, count):
    """Those of so many columns, or rows, whose middles lie from begin on and before end."""
    # All middles lie within the bounds of numbers, so begin and end need not be bounded.
    return [at for at in range(count) if begin <= middle(at) < end]


def _edges(outlines):
    """The edges of all outlines that are not level, as tuples (x0, y0, x1, y1) that go down."""
    edges = []
    for points in outlines:
        ends = [(bounded(x), bounded(y)) for x, y in points]
        for (x0, y0), (x1, y1) in zip(ends, ends[1:] + ends[:1]):
            if y0 < y1:
                edges.append((x0, y0, x1, y1))
            elif y0 > y1:
                edges.append((x1, y1, x0, y0))
    return edges


def _inside_row(crossed, y, width):
    """For each column, whether its middle at the height y, which these edges cross, is inside."""
    begins = [0] * (width + 1)
    for edge in crossed:
        begins[_first_column(edge, y, width)] += 1
    inside = []
    count = 0
    for begin in begins[:width]:
        count += begin
        inside.append(count & 1 == 1)
    return inside


def _first_column(edge, y, width):
    """The first column for whose middle the edge counts; the width if there is none."""
    x0, y0, x1, y1 = edge
    # The edge is at the place across / down at the height y, and the middle of a
    # column at 4 * column + 2: the column is the quotient of these, rounded up.
    down = y1 - y0
    across = x0 * down + (y - y0) * (x1 - x0)
    column = -((2 * down - across) // (4 * down))
    return min(max(column, 0), width)


def place(grid, clip, picture, box):
    """The grid with the cells of the picture, a grid, where middles are in the clip and the box."""
    width, height, cells = grid
    across, down, source = picture
    x0, y0, x1, y1 = [bounded(number) for number in box]
    columns = _within(max(x0, clip[0]), min(x1, clip[2]), width)
    painted = list(cells)
    for row in _within(max(y0, clip[1]), min(y1, clip[3]), height):
        begin = (middle(row) - y0) * down // (y1 - y0) * across
        for column in columns:
            cell = source[begin + (middle(column) - x0) * across // (x1 - x0)]
            if cell != NO_COLOUR:
                painted[row * width + column] = cell
    return width, height, painted


def curve(first, control, last):
    """The list of the eight points of a curve."""
    points = []
    for k in range(1, _CURVE_POINTS + 1):
        x, y = [_curve_number(k, a, b, c) for a, b, c in zip(first, control, last)]
        points.append((x, y))
    return points


def _curve_number(k, first, control, last):
    before = _CURVE_POINTS - k
    whole = before * before * bounded(first) + 2 * k * before * bounded(control) + k * k * bounded(last)
    return (whole + 32) // 64


def paint(page, left):
    """The tuple (grid, left) of a page with as many marks as there is work for."""
    width, height, back, marks, _ = page
    grid = (width, height, [back] * (width * height))
    # Each mark costs at least 1: if this is too much, none is painted.
    left, _ = spend(left, width * height)
    for mark in marks:
        left, enough = spend(left, _cost(mark, height))
        if not enough:
            break
        grid = _painted(grid, mark)
    return grid, left


def painting_cost(page):
    """What painting the whole page costs."""
    width, height, _, marks, _ = page
    return width * height + sum([_cost(mark, height) for mark in marks])


def _cost(mark, height):
    if mark[0] == "fill":
        return 1 + height * sum([len(points) for points in mark[2]])
    return 1 + len(mark[2][2])


def _painted(grid, mark):
    """The grid with a mark."""
    kind, clip, shape, last = mark
    if kind == "fill":
        return fill(grid, clip, shape, last)
    return place(grid, clip, shape, last)
