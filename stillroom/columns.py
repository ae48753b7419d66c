"""Columns of blocks, and the blocks Box and Table, which hold columns (points 132, 136 and 137)."""

from stillroom.blocks import lay_picture, lay_sealed
from stillroom.drawings import lay_drawing
from stillroom.looking import word_of
from stillroom.marks import plate
from stillroom.styles import number_of
from stillroom.texts import lay_field, lay_text

_KINDS = ("Text", "Field", "Box", "Table", "Picture", "Sealed", "Script", "Fetch", "Drawing")
_MOST_LEVELS = 8
_LOWEST = 1048576
_NO_BACK = -1

_PADS = (0, 16)
_LEAST_INSIDE = 4
_MOST_COLUMNS = 16
_SPANS = (1, 16)
_LEAST_ROW = 4


def lay_column(layout, values, across, y, level):
    """The tuple (marks, end) of the blocks among some values, the first one at the height
    y; across is the tuple (x0, x1)."""
    marks = []
    for value in values:
        if value[0] == "dict":
            layout.cost(1)
            if level <= _MOST_LEVELS:
                found, y = _put_block(layout, value, across, min(y, _LOWEST), level)
                marks.extend(found)
    return marks, y


def _put_block(layout, block, across, y, level):
    """The tuple (marks, end) of a block that begins at the height y."""
    kind = word_of(layout.key(block, "Kind"), _KINDS)
    if kind == "Box":
        return _put_box(layout, block, across, y, level)
    if kind == "Table":
        return _put_table(layout, block, across, y, level)
    if kind == "Text":
        return lay_text(layout, block, across, y)
    if kind == "Field":
        return lay_field(layout, block, across, y)
    if kind == "Picture":
        return lay_picture(layout, block, across, y)
    if kind == "Sealed":
        return lay_sealed(layout, block, across, y)
    if kind == "Drawing":
        return lay_drawing(layout, block, across, y)
    if kind == "Script":
        layout.add_act("script", layout.text(block, "Text"))
    if kind == "Fetch":
        layout.add_act("fetch", layout.text(block, "From"))
    return [], y


def _put_box(layout, block, across, y, level):
    x0, x1 = across
    pad = 4 * layout.number(block, "Pad", _PADS, 0)
    inside = (x0 + pad, max(x1 - pad, x0 + pad + _LEAST_INSIDE))
    marks, end = lay_column(layout, layout.list_of(block, "Blocks"), inside, y + pad, level + 1)
    end += pad
    return _with_back(layout, block, (x0, y, x1, end), marks), end


def _with_back(layout, holder, box, marks):
    """The marks behind a plate of the colour Back of their box or cell, if it has one."""
    back = layout.colour(holder, "Back", _NO_BACK)
    if back == _NO_BACK:
        return marks
    return [plate(layout.page_box, box, back)] + marks


def _put_table(layout, block, across, y, level):
    columns = _columns_of(layout, block, across)
    marks = []
    for row in layout.list_of(block, "Rows"):
        if row[0] == "list":
            layout.cost(1)
            found, y = _put_row(layout, row, columns, min(y, _LOWEST), level)
            marks.extend(found)
    return marks, y


def _columns_of(layout, block, across):
    """The list of the columns of a table, tuples (x0, x1)."""
    widths = layout.list_of(block, "Columns")[:_MOST_COLUMNS]
    if not widths:
        return [across]
    columns = []
    x = across[0]
    for width in widths:
        end = x + 4 * number_of(width, 1, 64, 4)
        columns.append((x, end))
        x = end
    return columns


def _put_row(layout, row, columns, y, level):
    """The tuple (marks, end) of a row that begins at the height y."""
    cells = []
    free = 0
    bottom = y + _LEAST_ROW
    for cell in layout.reached_list(row):
        layout.cost(1)
        if free == len(columns):
            continue
        span = layout.number(cell, "Span", _SPANS, 1)
        taken = columns[free:free + span]
        free += len(taken)
        across = (taken[0][0], taken[-1][1])
        found, end = _put_cell(layout, cell, across, y, level)
        bottom = max(bottom, end)
        cells.append((cell, across, found))
    marks = []
    for cell, (x0, x1), found in cells:
        marks.extend(_with_back(layout, cell, (x0, y, x1, bottom), found))
    return marks, bottom


def _put_cell(layout, cell, across, y, level):
    """The tuple (marks, end) of the column in a cell."""
    if cell[0] != "dict":
        return [], y
    return lay_column(layout, layout.list_of(cell, "Blocks"), across, y, level + 1)
