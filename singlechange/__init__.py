"""Rows in which one thing changes."""
