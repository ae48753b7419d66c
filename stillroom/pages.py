"""The layout of a book: where everything stands on its pages (points 125 to 140)."""

from stillroom.columns import lay_column
from stillroom.layouts import Layout, WorkEnded

_MOST_PAGES = 32
_SIDES = (1, 64)
_SIDE = 32
_WHITE = 16777215


def lay_out(book, left):
    """The tuple (list of pages, left) of a sound book."""
    layout = Layout(book, left)
    pages = []
    try:
        for page in _pages_of(layout):
            pages.append(_put_page(layout, page, len(pages) == 0))
    except WorkEnded:
        return pages, 0
    return pages, layout.left


def _pages_of(layout):
    """The values of the pages."""
    found = [value for value in layout.list_of(layout.root, "Pages") if value[0] == "dict"]
    return found[:_MOST_PAGES]


def _put_page(layout, page, is_first):
    layout.cost(1)
    width = layout.number(page, "Width", _SIDES, _SIDE)
    height = layout.number(page, "Height", _SIDES, _SIDE)
    layout.begin_page(width, height)
    if is_first:
        _add_open(layout, layout.root)
        for value in layout.list_of(layout.root, "Files"):
            layout.add_act("file", _act_data(layout, value))
    _add_open(layout, page)
    marks, _ = lay_column(layout, layout.list_of(page, "Body"), (0, 4 * width), 0, 1)
    return width, height, layout.colour(page, "Back", _WHITE), tuple(marks), layout.page_acts()


def _add_open(layout, holder):
    """Adds the act of the key Open, if there is one."""
    value = layout.key(holder, "Open")
    if value[0] != "none":
        layout.add_act("open", _act_data(layout, value))


def _act_data(layout, value):
    """The data of an act of a value."""
    if value[0] == "text" or value[0] == "name":
        return value[1]
    return layout.text(value, "Do") if value[0] == "dict" else ()
