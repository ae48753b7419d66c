"""What is seen of a byte list, and what it would do (points 172 to 174)."""

from stillroom.cells import read_sheet
from stillroom.crates import open_crate, read_content
from stillroom.errors import Malformed
from stillroom.filling import paint
from stillroom.films import film_pages
from stillroom.grid import NO_COLOUR
from stillroom.measure import budget
from stillroom.pages import lay_out
from stillroom.pictures import read_picture
from stillroom.reading import read_book
from stillroom.sheets import sheet_acts, sheet_pages
from stillroom.signs import kind_of
from stillroom.stills import MOST_PAGES, read_still

_WHITE = 16777215
_DEEPEST = 4


def look_at(data, left, level):
    """The tuple (pages, acts, depth, left) of a byte list on a level from 0 to 4."""
    kind = kind_of(data)
    if kind == "crate":
        return _look_at_crate(data, left, level)
    if kind == "folio":
        pages, done, left = _look_at_folio(data, left)
        return pages, done, 0, left
    if kind == "sheet":
        pages, done, left = _look_at_sheet(data, left)
        return pages, done, 0, left
    pages = []
    if kind == "still":
        pages = _pages_of_still(data)
    elif kind == "picture":
        pages, left = _pages_of_picture(data, left)
    elif kind == "film":
        pages, left = film_pages(data, left)
    return pages, [], 0, left


def _pages_of_still(data):
    try:
        return read_still(data)
    except Malformed:
        return []


def _pages_of_picture(data, left):
    grid, left = read_picture(data, left)
    if grid is None:
        return [], left
    width, height, cells = grid
    return [(width, height, [_WHITE if cell == NO_COLOUR else cell for cell in cells])], left


def _look_at_sheet(data, left):
    """The tuple (pages, acts, left)."""
    sheet, left = read_sheet(data, left)
    if sheet is None:
        return [], [], left
    done, left = sheet_acts(sheet, left)
    pages, left = sheet_pages(sheet, left)
    return pages, done, left


def _look_at_folio(data, left):
    """The tuple (pages, acts, left)."""
    book, left = read_book(data, left)
    if book is None:
        return [], [], left
    found, left = lay_out(book, left)
    done = [act for page in found for act in page[4]]
    pages = []
    for page in found[:MOST_PAGES]:
        if left == 0:
            break
        grid, left = paint(page, left)
        pages.append(grid)
    return pages, done, left


def _look_at_crate(data, left, level):
    """The tuple (pages, acts, depth, left)."""
    pages = []
    done = []
    if level == _DEEPEST:
        return pages, done, 0, left
    inside = 0
    entries, left = open_crate(data, left)
    # All names are different: so this is the order of the names.
    for entry in sorted(entries):
        if left == 0 or len(pages) == MOST_PAGES:
            break
        content, left = read_content(entry, left)
        if content is not None:
            found, acts_found, levels, left = look_at(content, left, level + 1)
            pages = (pages + found)[:MOST_PAGES]
            done.extend(acts_found)
            inside = max(inside, levels)
    return pages, done, inside + 1, left


def show(data):
    """The list of the pages of a byte list."""
    return _look_at_whole(data)[0]


def acts(data):
    """The list of the acts of a byte list."""
    return _look_at_whole(data)[1]


def depth(data):
    """The depth of crates in crates."""
    return _look_at_whole(data)[2]


def _look_at_whole(data):
    return look_at(data, budget(len(data)), 0)


def alike(first, second):
    """True if two byte lists are shown alike."""
    return show(first) == show(second)
