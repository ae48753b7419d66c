"""What is seen of a sheet, and its acts (points 160 to 162)."""

from stillroom.cellvalues import content_value, sheet_values
from stillroom.characters import codes
from stillroom.filling import paint, painting_cost
from stillroom.fonts import lookup, outline, plain_font
from stillroom.formulas import all_trees
from stillroom.measure import spend
from stillroom.operations import text_in
from stillroom.outlines import move
from stillroom.runes import runes

_MOST_PAGES = 8
_SIDE = 32
_CELL = 32
_RUNE = 16
_MOST_RUNES = 2

_WHITE = 16777215
_BLACK = 0
_RED = 16711680

# The calls that are acts, and the kinds of these.
_ACTS = {"LINK": "link", "FETCH": "fetch"}


def words_of(value):
    """The words of a value, a byte list."""
    if value[0] == "error":
        return codes("#" + value[1])
    return list(text_in(value))


def sheet_pages(sheet, left):
    """The tuple (list of at most eight grids, left)."""
    pages = []
    values, left = sheet_values(sheet, left)
    if values is None:
        return pages, left
    font = plain_font()
    for cells in _cells_of_pages(values)[:_MOST_PAGES]:
        marks, left = _marks_of_cells(cells, font, left)
        if marks is None:
            break
        page = (_SIDE, _SIDE, _WHITE, tuple(marks), ())
        cost = painting_cost(page)
        left, enough = spend(left, cost)
        if not enough:
            break
        grid, _ = paint(page, cost)
        pages.append(grid)
    return pages, left


def _cells_of_pages(values):
    """The list of the cells of each page that is not empty, as lists of pairs (place, value)."""
    table = {}
    for place, value in values:
        column, row = place
        table.setdefault((row // 4, column // 4), []).append((place, value))
    return [table[at] for at in sorted(table)]


def _marks_of_cells(cells, font, left):
    """The tuple (the marks of a page, or None if the outlines cost too much; left)."""
    marks = []
    for (column, row), value in cells:
        x, y = _CELL * (column & 3), _CELL * (row & 3)
        box = (x, y, x + _CELL, y + _CELL)
        colour = _RED if value[0] == "error" else _BLACK
        for at, rune in enumerate(runes(words_of(value))[:_MOST_RUNES]):
            outlines, left = outline(font, lookup(font, rune), left)
            if outlines is None:
                return None, left
            if outlines:
                marks.append(("fill", box, move(outlines, x + _RUNE * at, y), colour))
    return marks, left


def sheet_acts(sheet, left):
    """The tuple (list of acts, left)."""
    found = []
    for _, content in sheet:
        left, enough = spend(left, 1)
        if not enough:
            break
        for act in _acts_of(content):
            left, enough = spend(left, 1)
            if not enough:
                return found, left
            found.append(act)
    return found, left


def _acts_of(content):
    """The acts of one cell."""
    value = content_value(content)
    if value[0] != "formula":
        return []
    calls = [part for part in all_trees(value[1]) if part[0] == "call" and part[1] in _ACTS]
    return [(_ACTS[word], arguments[0][1]) for _, word, arguments in calls]
